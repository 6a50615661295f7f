/- A run's step where there is no memory, or no such client; a run's stores that are left; without conditions. -/
import Derived.Test.YtgapncamnmngeaaRnS
namespace Go.Proofs.Ytgapncamnmngeaa
open Go.RowKit Go.Shelf
set_option linter.unusedVariables false
attribute [local go_sem] Oper.semAt_some
set_option maxRecDepth 100000 in
set_option maxHeartbeats 1600000 in
theorem rstep_mem {w : World} {p : Option Addr} {c line code z : Int} {V : Value} {f rg : Nat}
    (hr : Row w rg 66 (rcells p c V line (nextV f rg) false code)) (hz : z = 0)
    (HS : Calls Try.prog 33 #[.pointer p] w fun e w' => e = .returned (.int .i64 z) ∧ w = w') :
    Calls Try.prog 16 #[.pointer (some ⟨rg, 0, none⟩)] w (RStepPost (fun w1 => w = w1) rg true 1) := by
  have mixed : Try.prog.follows .mixedOrders = true := by kernel_rfl
  have c0 := hr.cell 0
  have c1 := hr.cell 1
  have c4 := hr.cell 4
  have d5 := hr.cell 5
  have d6 := hr.cell 6
  simp only [rcells, List.getElem?_toArray, List.getElem?_cons_succ, List.getElem?_cons_zero] at c0 c1 c4 d5 d6
  have g5 := hr.free 5
  have g6 := hr.free 6
  have HR := Lib.hid hr
  unfold nextV at c4
  have q1 := fun w => eqFnR w f #[.pointer (some ⟨rg, 0, none⟩)] #[]
  have q2 := fun w => guardFnR w f #[.pointer (some ⟨rg, 0, none⟩)] #[] (.tmp 19)
  have HS := Lib.hid HS
  subst hz
  clear hr
  go_enter Try.func16, Try.ntmps16
  go_wp2_with fail
  refine HS.out.mono ?_
  rintro e w1 ⟨rfl, rfl⟩
  go_wp2_with fail
  obtain ⟨W2, hW2⟩ : ∃ W2, W2 = (w.setCell ⟨rg, 6, none⟩ (.int .i64 1)).setCell ⟨rg, 5, none⟩ (.bool true) := ⟨_, rfl⟩
  rw [← hW2]
  have hrw : Row W2 rg 66 (((rcells p c V line (nextV f rg) false code).setIfInBounds 6 (.int .i64 1)).setIfInBounds 5 (.bool true)) := by rw [hW2]; exact (HR.out.set 6 _).set 5 _
  have k5 := hrw.cell 5
  have k6 := hrw.cell 6
  simp only [rcells, List.setIfInBounds_toArray, List.set_cons_succ, List.set_cons_zero, List.getElem?_toArray, List.getElem?_cons_succ, List.getElem?_cons_zero] at k5 k6
  have ca := fun p : LowBy W2 => p.cell k5
  have cb := fun p : LowBy W2 => p.cell k6
  have HW := Lib.hid hW2
  clear hrw k5 k6 hW2 d5 d6 g5 g6 c0 c1 c4 q1 q2
  refine wp_region_quiet_low (by assumption) (by kernel_rfl) ?_
  repeat (go_big_quiet_step (fail))
  refine wpQuiet_nil ?_
  intro _ hw'
  obtain ⟨p, hw''⟩ := hw'
  subst hw''
  have hp := Lib.hid p.low
  clear ca cb
  go_wp2
  go_ret2
  exact ⟨by rfl, w, rfl, by unfold rstepW; rw [← HW.out]; exact hp.out⟩
set_option maxRecDepth 100000 in
set_option maxHeartbeats 1600000 in
theorem rstep_low {w : World} {p : Option Addr} {c line code z : Int} {V : Value} {f rg : Nat}
    (hr : Row w rg 66 (rcells p c V line (nextV f rg) false code)) (hz : z ≠ 0) (hc : c < 0)
    (HS : Calls Try.prog 33 #[.pointer p] w fun e w' => e = .returned (.int .i64 z) ∧ w = w') :
    Calls Try.prog 16 #[.pointer (some ⟨rg, 0, none⟩)] w (RStepPost (fun w1 => w = w1) rg true 12) := by
  have mixed : Try.prog.follows .mixedOrders = true := by kernel_rfl
  have c0 := hr.cell 0
  have c1 := hr.cell 1
  have c4 := hr.cell 4
  have d5 := hr.cell 5
  have d6 := hr.cell 6
  simp only [rcells, List.getElem?_toArray, List.getElem?_cons_succ, List.getElem?_cons_zero] at c0 c1 c4 d5 d6
  have g5 := hr.free 5
  have g6 := hr.free 6
  have HR := Lib.hid hr
  unfold nextV at c4
  have q1 := fun w => eqFnR w f #[.pointer (some ⟨rg, 0, none⟩)] #[]
  have q2 := fun w => guardFnR w f #[.pointer (some ⟨rg, 0, none⟩)] #[] (.tmp 19)
  have HS := Lib.hid HS
  have z0 : (z == 0) = false := by rw [beq_eq_false_iff_ne]; exact hz
  have z1 : decide (c < 0) = true := by rw [decide_eq_true_eq]; exact hc
  clear hr
  go_enter Try.func16, Try.ntmps16
  go_wp2_with fail
  refine HS.out.mono ?_
  rintro e w1 ⟨rfl, rfl⟩
  go_wp2_with fail
  obtain ⟨W2, hW2⟩ : ∃ W2, W2 = (w.setCell ⟨rg, 6, none⟩ (.int .i64 12)).setCell ⟨rg, 5, none⟩ (.bool true) := ⟨_, rfl⟩
  rw [← hW2]
  have hrw : Row W2 rg 66 (((rcells p c V line (nextV f rg) false code).setIfInBounds 6 (.int .i64 12)).setIfInBounds 5 (.bool true)) := by rw [hW2]; exact (HR.out.set 6 _).set 5 _
  have k5 := hrw.cell 5
  have k6 := hrw.cell 6
  simp only [rcells, List.setIfInBounds_toArray, List.set_cons_succ, List.set_cons_zero, List.getElem?_toArray, List.getElem?_cons_succ, List.getElem?_cons_zero] at k5 k6
  have ca := fun p : LowBy W2 => p.cell k5
  have cb := fun p : LowBy W2 => p.cell k6
  have HW := Lib.hid hW2
  clear hrw k5 k6 hW2 d5 d6 g5 g6 c0 c1 c4 q1 q2
  refine wp_region_quiet_low (by assumption) (by kernel_rfl) ?_
  repeat (go_big_quiet_step (fail))
  refine wpQuiet_nil ?_
  intro _ hw'
  obtain ⟨p, hw''⟩ := hw'
  subst hw''
  have hp := Lib.hid p.low
  clear ca cb
  go_wp2
  go_ret2
  exact ⟨by rfl, w, rfl, by unfold rstepW; rw [← HW.out]; exact hp.out⟩
set_option maxRecDepth 100000 in
set_option maxHeartbeats 1600000 in
theorem rstep_high {w : World} {p : Option Addr} {c line code z : Int} {V : Value} {f rg : Nat}
    (hr : Row w rg 66 (rcells p c V line (nextV f rg) false code)) (hz : z ≠ 0) (hc0 : 0 ≤ c) (hc : 64 < c)
    (HS : Calls Try.prog 33 #[.pointer p] w fun e w' => e = .returned (.int .i64 z) ∧ w = w') :
    Calls Try.prog 16 #[.pointer (some ⟨rg, 0, none⟩)] w (RStepPost (fun w1 => w = w1) rg true 12) := by
  have mixed : Try.prog.follows .mixedOrders = true := by kernel_rfl
  have c0 := hr.cell 0
  have c1 := hr.cell 1
  have c4 := hr.cell 4
  have d5 := hr.cell 5
  have d6 := hr.cell 6
  simp only [rcells, List.getElem?_toArray, List.getElem?_cons_succ, List.getElem?_cons_zero] at c0 c1 c4 d5 d6
  have g5 := hr.free 5
  have g6 := hr.free 6
  have HR := Lib.hid hr
  unfold nextV at c4
  have q1 := fun w => eqFnR w f #[.pointer (some ⟨rg, 0, none⟩)] #[]
  have q2 := fun w => guardFnR w f #[.pointer (some ⟨rg, 0, none⟩)] #[] (.tmp 19)
  have HS := Lib.hid HS
  have z0 : (z == 0) = false := by rw [beq_eq_false_iff_ne]; exact hz
  have z1 : decide (c < 0) = false := by rw [decide_eq_false_iff_not]; omega
  have z2 : decide (64 < c) = true := by rw [decide_eq_true_eq]; exact hc
  clear hr
  go_enter Try.func16, Try.ntmps16
  go_wp2_with fail
  refine HS.out.mono ?_
  rintro e w1 ⟨rfl, rfl⟩
  go_wp2_with fail
  obtain ⟨W2, hW2⟩ : ∃ W2, W2 = (w.setCell ⟨rg, 6, none⟩ (.int .i64 12)).setCell ⟨rg, 5, none⟩ (.bool true) := ⟨_, rfl⟩
  rw [← hW2]
  have hrw : Row W2 rg 66 (((rcells p c V line (nextV f rg) false code).setIfInBounds 6 (.int .i64 12)).setIfInBounds 5 (.bool true)) := by rw [hW2]; exact (HR.out.set 6 _).set 5 _
  have k5 := hrw.cell 5
  have k6 := hrw.cell 6
  simp only [rcells, List.setIfInBounds_toArray, List.set_cons_succ, List.set_cons_zero, List.getElem?_toArray, List.getElem?_cons_succ, List.getElem?_cons_zero] at k5 k6
  have ca := fun p : LowBy W2 => p.cell k5
  have cb := fun p : LowBy W2 => p.cell k6
  have HW := Lib.hid hW2
  clear hrw k5 k6 hW2 d5 d6 g5 g6 c0 c1 c4 q1 q2
  refine wp_region_quiet_low (by assumption) (by kernel_rfl) ?_
  repeat (go_big_quiet_step (fail))
  refine wpQuiet_nil ?_
  intro _ hw'
  obtain ⟨p, hw''⟩ := hw'
  subst hw''
  have hp := Lib.hid p.low
  clear ca cb
  go_wp2
  go_ret2
  exact ⟨by rfl, w, rfl, by unfold rstepW; rw [← HW.out]; exact hp.out⟩
theorem left_nil (w : World) : Calls Try.prog 14 #[.pointer none] w fun e w' => e = .returned (.int .i64 0) ∧ w = w' := by
  go_enter Try.func14, Try.ntmps14
  go_wp2
  go_ret
  exact ⟨rfl, rfl⟩
theorem left_any {w : World} {rg n cap : Nat} {A : Option Addr} {cs : Array Value} (hr : Row w rg 66 cs) (h2 : cs[2]? = some (.slice A n cap)) :
    Calls Try.prog 14 #[.pointer (some ⟨rg, 0, none⟩)] w fun e w' => e = .returned (.int .i64 (n : Int)) ∧ w = w' := by
  have c2 := hr.cell 2
  rw [h2] at c2
  clear hr h2
  go_enter Try.func14, Try.ntmps14
  go_wp2
  go_ret
  exact ⟨rfl, rfl⟩
end Go.Proofs.Ytgapncamnmngeaa
