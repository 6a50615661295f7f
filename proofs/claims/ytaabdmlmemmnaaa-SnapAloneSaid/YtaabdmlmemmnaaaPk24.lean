/- Texts of this claim, packed: RnS, RnE, RnM, RnW. -/
import Derived.Test.YtaabdmlmemmnaaaPk23
import Derived.Test.YtaabdmlmemmnaaaPk19
import Derived.Test.YtaabdmlmemmnaaaPk08
import Derived.BigQuiet
import Derived.Deep.AppendLies
import Derived.Deep.RegionLaw
/- A run's step, of whatever it is to do next; of no run, a zero one, one that is done, no memory, no client. -/
namespace Go.Proofs.Ytaabdmlmemmnaaa
open Go.RowKit Go.Shelf
set_option linter.unusedVariables false
attribute [local go_sem] Oper.semAt_some
theorem eqFnR (w : World) (g : Nat) (fi lb : Array Value) : (binOp .eql 75 (.func (.func g) fi lb) .nilFunc).run Try.prog w = .ok (.bool false) w := by kernel_rfl
theorem guardFnR (w : World) (g : Nat) (fi lb : Array Value) (x : Operand) : (eqGuard .eql 75 x (.const .nilFunc) (.func (.func g) fi lb) .nilFunc).run Try.prog w = .ok () w := by kernel_rfl
theorem eqNilR (w : World) : (binOp .eql 75 .nilFunc .nilFunc).run Try.prog w = .ok (.bool true) w := by kernel_rfl
theorem guardNilR (w : World) (x : Operand) : (eqGuard .eql 75 x (.const .nilFunc) .nilFunc .nilFunc).run Try.prog w = .ok () w := by kernel_rfl
/-- A run's cells. -/
def rcells (p : Option Addr) (c : Int) (V : Value) (line : Int) (F : Value) (d : Bool) (k : Int) : Array Value := #[.pointer p, .int .i64 c, V, .int .u64 line, F, .bool d, .int .i64 k]
/-- What is to be done next, by its function. -/
def nextV (f rg : Nat) : Value := .func (.func f) #[.pointer (some ⟨rg, 0, none⟩)] #[]
def Ph.no : Ph → Nat
  | .st => 65
  | .fl => 88
  | .fe => 98
  | .en => 66
theorem Ph.fn_no (ph : Ph) (rg : Nat) : ph.fn rg = nextV ph.no rg := by cases ph <;> rfl
theorem RunAt.cells {w : World} {rg : Nat} {p : Option Addr} {r : RS} {V : Value} (h : RunAt w rg p r V) : Row w rg 130 (rcells p r.c V r.line (nextV r.ph.no rg) r.done r.code) := by
  have := h.row
  rw [Ph.fn_no] at this
  exact this
theorem rstep_nil (w : World) : Calls Try.prog 43 #[.pointer none] w fun e w' => e = .returned (.tuple #[.bool true, .int .i64 1]) ∧ w = w' := by
  go_enter Try.func43, Try.ntmps43
  go_wp2
  go_ret2
  exact ⟨rfl, rfl⟩
theorem rstep_zero {w : World} {g : Nat} {cs : Array Value} (hr : Row w g 130 cs) (h5 : cs[4]? = some .nilFunc) : Calls Try.prog 43 #[.pointer (some ⟨g, 0, none⟩)] w fun e w' => e = .returned (.tuple #[.bool true, .int .i64 1]) ∧ w = w' := by
  have c5 := hr.cell 4
  rw [h5] at c5
  have q1 := fun w => eqNilR w
  have q2 := fun w => guardNilR w (.tmp 19)
  clear hr h5
  go_enter Try.func43, Try.ntmps43
  go_wp2
  go_ret2
  exact ⟨rfl, rfl⟩
set_option maxRecDepth 100000 in
set_option maxHeartbeats 1600000 in
theorem rstep_done {w : World} {p : Option Addr} {c line code : Int} {V : Value} {f rg : Nat} (hr : Row w rg 130 (rcells p c V line (nextV f rg) true code)) :
    Calls Try.prog 43 #[.pointer (some ⟨rg, 0, none⟩)] w fun e w' => e = .returned (.tuple #[.bool true, .int .i64 code]) ∧ Below w.heap.size w w' := by
  have mixed : Try.prog.follows .mixedOrders = true := by kernel_rfl
  have c4 := hr.cell 4
  have c5 := hr.cell 5
  have c6 := hr.cell 6
  simp only [rcells, List.getElem?_toArray, List.getElem?_cons_succ, List.getElem?_cons_zero] at c4 c5 c6
  unfold nextV at c4
  have q1 := fun w => eqFnR w f #[.pointer (some ⟨rg, 0, none⟩)] #[]
  have q2 := fun w => guardFnR w f #[.pointer (some ⟨rg, 0, none⟩)] #[] (.tmp 19)
  have ca := fun p : LowBy w => p.cell c6
  clear hr
  go_enter Try.func43, Try.ntmps43
  go_wp2_with fail
  refine wp_region_quiet_low (by assumption) (by kernel_rfl) ?_
  repeat (go_big_quiet_step (fail))
  refine wpQuiet_nil ?_
  intro _ hw'
  obtain ⟨p, hw''⟩ := hw'
  subst hw''
  have hp := Lib.hid p.low
  clear ca
  go_wp2
  go_ret2
  exact ⟨rfl, hp.out⟩
/-- What a step makes of the world behind its function's call. -/
def rstepW (w1 : World) (rg : Nat) (d : Bool) (k : Int) : World := (w1.setCell ⟨rg, 6, none⟩ (.int .i64 k)).setCell ⟨rg, 5, none⟩ (.bool d)
def RStepPost (P : World → Prop) (rg : Nat) (d : Bool) (k : Int) (e : Ending) (w' : World) : Prop := e = .returned (.tuple #[.bool d, .int .i64 k]) ∧ ∃ w1, P w1 ∧ Below (rstepW w1 rg d k).heap.size (rstepW w1 rg d k) w'
set_option maxRecDepth 100000 in
set_option maxHeartbeats 1600000 in
theorem rstep_of {w : World} {p : Option Addr} {c line code k z : Int} {V : Value} {f rg : Nat} {d D : Bool} {P : World → Prop}
    (hcall : ∀ (w : World) (v : Value), (callFunc f #[v]).run Try.prog w = .ok (.enter f #[v]) w) (hr : Row w rg 130 (rcells p c V line (nextV f rg) false code))
    (hc0 : 0 ≤ c) (hc1 : c ≤ 64) (hz : z ≠ 0) (hk : d = true → k = 0) (hD : (d || !(k == 0)) = D)
    (HS : Calls Try.prog 56 #[.pointer p] w fun e w' => e = .returned (.int .i64 z) ∧ w = w')
    (H : Calls Try.prog f #[.pointer (some ⟨rg, 0, none⟩)] w fun e w' => e = .returned (.int .i64 k) ∧ (∃ V' line' f', Row w' rg 130 (rcells p c V' line' (nextV f' rg) d code)) ∧ P w') :
    Calls Try.prog 43 #[.pointer (some ⟨rg, 0, none⟩)] w (RStepPost P rg D k) := by
  have mixed : Try.prog.follows .mixedOrders = true := by kernel_rfl
  have c0 := hr.cell 0
  have c1 := hr.cell 1
  have c4 := hr.cell 4
  have c5 := hr.cell 5
  simp only [rcells, List.getElem?_toArray, List.getElem?_cons_succ, List.getElem?_cons_zero] at c0 c1 c4 c5
  unfold nextV at c4
  have q1 := fun w => eqFnR w f #[.pointer (some ⟨rg, 0, none⟩)] #[]
  have q2 := fun w => guardFnR w f #[.pointer (some ⟨rg, 0, none⟩)] #[] (.tmp 19)
  have H := Lib.hid H
  have HS := Lib.hid HS
  have z0 : (z == 0) = false := by rw [beq_eq_false_iff_ne]; exact hz
  have z1 : decide (c < 0) = false := by rw [decide_eq_false_iff_not]; omega
  have z2 : decide (64 < c) = false := by rw [decide_eq_false_iff_not]; omega
  clear hr
  go_enter Try.func43, Try.ntmps43
  go_wp2_with fail
  refine HS.out.mono ?_
  rintro e w1 ⟨rfl, rfl⟩
  go_wp2_with fail
  refine H.out.mono ?_
  rintro e w1 ⟨rfl, ⟨V', line', f', hr1⟩, hp⟩
  have d5 := hr1.cell 5
  have d6 := hr1.cell 6
  simp only [rcells, List.getElem?_toArray, List.getElem?_cons_succ, List.getElem?_cons_zero] at d5 d6
  have g5 := hr1.free 5
  have g6 := hr1.free 6
  have HP := Lib.hid hp
  have HR := Lib.hid hr1
  clear hp hr1 c0 c1 c4 c5 q1 q2 H HS
  cases d with
  | true =>
    have hk0 := hk rfl
    subst hk0
    obtain rfl : D = true := by rw [← hD]; rfl
    go_wp2_with fail
    obtain ⟨W2, hW2⟩ : ∃ W2, W2 = (w1.setCell ⟨rg, 6, none⟩ (.int .i64 0)).setCell ⟨rg, 5, none⟩ (.bool true) := ⟨_, rfl⟩
    rw [← hW2]
    have hrw : Row W2 rg 130 (((rcells p c V' line' (nextV f' rg) true code).setIfInBounds 6 (.int .i64 0)).setIfInBounds 5 (.bool true)) := by rw [hW2]; exact (HR.out.set 6 _).set 5 _
    have k5 := hrw.cell 5
    have k6 := hrw.cell 6
    simp only [rcells, List.setIfInBounds_toArray, List.set_cons_succ, List.set_cons_zero, List.getElem?_toArray, List.getElem?_cons_succ, List.getElem?_cons_zero] at k5 k6
    have ca := fun p : LowBy W2 => p.cell k5
    have cb := fun p : LowBy W2 => p.cell k6
    have HW := Lib.hid hW2
    clear hrw k5 k6 hW2 d5 d6 g5 g6
    refine wp_region_quiet_low (by assumption) (by kernel_rfl) ?_
    repeat (go_big_quiet_step (fail))
    refine wpQuiet_nil ?_
    intro _ hw'
    obtain ⟨p, hw''⟩ := hw'
    subst hw''
    have hp := Lib.hid p.low
    clear ca cb
    go_wp2
    go_ret2
    exact ⟨by rfl, w1, HP.out, by unfold rstepW; rw [← HW.out]; exact hp.out⟩
  | false =>
    by_cases hk0 : k = 0
    · subst hk0
      obtain rfl : D = false := by rw [← hD]; rfl
      go_wp2_with fail
      obtain ⟨W2, hW2⟩ : ∃ W2, W2 = (w1.setCell ⟨rg, 6, none⟩ (.int .i64 0)).setCell ⟨rg, 5, none⟩ (.bool false) := ⟨_, rfl⟩
      rw [← hW2]
      have hrw : Row W2 rg 130 (((rcells p c V' line' (nextV f' rg) false code).setIfInBounds 6 (.int .i64 0)).setIfInBounds 5 (.bool false)) := by rw [hW2]; exact (HR.out.set 6 _).set 5 _
      have k5 := hrw.cell 5
      have k6 := hrw.cell 6
      simp only [rcells, List.setIfInBounds_toArray, List.set_cons_succ, List.set_cons_zero, List.getElem?_toArray, List.getElem?_cons_succ, List.getElem?_cons_zero] at k5 k6
      have ca := fun p : LowBy W2 => p.cell k5
      have cb := fun p : LowBy W2 => p.cell k6
      have HW := Lib.hid hW2
      clear hrw k5 k6 hW2 d5 d6 g5 g6
      refine wp_region_quiet_low (by assumption) (by kernel_rfl) ?_
      repeat (go_big_quiet_step (fail))
      refine wpQuiet_nil ?_
      intro _ hw'
      obtain ⟨p, hw''⟩ := hw'
      subst hw''
      have hp := Lib.hid p.low
      clear ca cb
      go_wp2
      go_ret2
      exact ⟨by rfl, w1, HP.out, by unfold rstepW; rw [← HW.out]; exact hp.out⟩
    · have hk1 : (k == 0) = false := by rw [beq_eq_false_iff_ne]; exact hk0
      obtain rfl : D = true := by rw [← hD, hk1]; rfl
      clear hD
      have hk2 : (k != 0) = true := by simp [bne, hk1]
      go_wp2_with fail
      obtain ⟨W2, hW2⟩ : ∃ W2, W2 = (w1.setCell ⟨rg, 6, none⟩ (.int .i64 k)).setCell ⟨rg, 5, none⟩ (.bool true) := ⟨_, rfl⟩
      rw [← hW2]
      have hrw : Row W2 rg 130 (((rcells p c V' line' (nextV f' rg) false code).setIfInBounds 6 (.int .i64 k)).setIfInBounds 5 (.bool true)) := by rw [hW2]; exact (HR.out.set 6 _).set 5 _
      have k5 := hrw.cell 5
      have k6 := hrw.cell 6
      simp only [rcells, List.setIfInBounds_toArray, List.set_cons_succ, List.set_cons_zero, List.getElem?_toArray, List.getElem?_cons_succ, List.getElem?_cons_zero] at k5 k6
      have ca := fun p : LowBy W2 => p.cell k5
      have cb := fun p : LowBy W2 => p.cell k6
      have HW := Lib.hid hW2
      clear hrw k5 k6 hW2 d5 d6 g5 g6
      refine wp_region_quiet_low (by assumption) (by kernel_rfl) ?_
      repeat (go_big_quiet_step (fail))
      refine wpQuiet_nil ?_
      intro _ hw'
      obtain ⟨p, hw''⟩ := hw'
      subst hw''
      have hp := Lib.hid p.low
      clear ca cb
      go_wp2
      go_ret2
      exact ⟨by rfl, w1, HP.out, by unfold rstepW; rw [← HW.out]; exact hp.out⟩
end Go.Proofs.Ytaabdmlmemmnaaa
/- A run's step where there is no memory, or no such client; a run's stores that are left; without conditions. -/
namespace Go.Proofs.Ytaabdmlmemmnaaa
open Go.RowKit Go.Shelf
set_option linter.unusedVariables false
attribute [local go_sem] Oper.semAt_some
set_option maxRecDepth 100000 in
set_option maxHeartbeats 1600000 in
theorem rstep_mem {w : World} {p : Option Addr} {c line code z : Int} {V : Value} {f rg : Nat}
    (hr : Row w rg 130 (rcells p c V line (nextV f rg) false code)) (hz : z = 0)
    (HS : Calls Try.prog 56 #[.pointer p] w fun e w' => e = .returned (.int .i64 z) ∧ w = w') :
    Calls Try.prog 43 #[.pointer (some ⟨rg, 0, none⟩)] w (RStepPost (fun w1 => w = w1) rg true 1) := by
  have mixed : Try.prog.follows .mixedOrders = true := by kernel_rfl
  have c0 := hr.cell 0
  have c1 := hr.cell 1
  have c4 := hr.cell 4
  have d5 := hr.cell 5
  have d6 := hr.cell 6
  simp only [rcells, List.getElem?_toArray, List.getElem?_cons_succ, List.getElem?_cons_zero] at c0 c1 c4 d5 d6
  have g5 := hr.free 5
  have g6 := hr.free 6
  have HR := Lib.hid hr
  unfold nextV at c4
  have q1 := fun w => eqFnR w f #[.pointer (some ⟨rg, 0, none⟩)] #[]
  have q2 := fun w => guardFnR w f #[.pointer (some ⟨rg, 0, none⟩)] #[] (.tmp 19)
  have HS := Lib.hid HS
  subst hz
  clear hr
  go_enter Try.func43, Try.ntmps43
  go_wp2_with fail
  refine HS.out.mono ?_
  rintro e w1 ⟨rfl, rfl⟩
  go_wp2_with fail
  obtain ⟨W2, hW2⟩ : ∃ W2, W2 = (w.setCell ⟨rg, 6, none⟩ (.int .i64 1)).setCell ⟨rg, 5, none⟩ (.bool true) := ⟨_, rfl⟩
  rw [← hW2]
  have hrw : Row W2 rg 130 (((rcells p c V line (nextV f rg) false code).setIfInBounds 6 (.int .i64 1)).setIfInBounds 5 (.bool true)) := by rw [hW2]; exact (HR.out.set 6 _).set 5 _
  have k5 := hrw.cell 5
  have k6 := hrw.cell 6
  simp only [rcells, List.setIfInBounds_toArray, List.set_cons_succ, List.set_cons_zero, List.getElem?_toArray, List.getElem?_cons_succ, List.getElem?_cons_zero] at k5 k6
  have ca := fun p : LowBy W2 => p.cell k5
  have cb := fun p : LowBy W2 => p.cell k6
  have HW := Lib.hid hW2
  clear hrw k5 k6 hW2 d5 d6 g5 g6 c0 c1 c4 q1 q2
  refine wp_region_quiet_low (by assumption) (by kernel_rfl) ?_
  repeat (go_big_quiet_step (fail))
  refine wpQuiet_nil ?_
  intro _ hw'
  obtain ⟨p, hw''⟩ := hw'
  subst hw''
  have hp := Lib.hid p.low
  clear ca cb
  go_wp2
  go_ret2
  exact ⟨by rfl, w, rfl, by unfold rstepW; rw [← HW.out]; exact hp.out⟩
set_option maxRecDepth 100000 in
set_option maxHeartbeats 1600000 in
theorem rstep_low {w : World} {p : Option Addr} {c line code z : Int} {V : Value} {f rg : Nat}
    (hr : Row w rg 130 (rcells p c V line (nextV f rg) false code)) (hz : z ≠ 0) (hc : c < 0)
    (HS : Calls Try.prog 56 #[.pointer p] w fun e w' => e = .returned (.int .i64 z) ∧ w = w') :
    Calls Try.prog 43 #[.pointer (some ⟨rg, 0, none⟩)] w (RStepPost (fun w1 => w = w1) rg true 12) := by
  have mixed : Try.prog.follows .mixedOrders = true := by kernel_rfl
  have c0 := hr.cell 0
  have c1 := hr.cell 1
  have c4 := hr.cell 4
  have d5 := hr.cell 5
  have d6 := hr.cell 6
  simp only [rcells, List.getElem?_toArray, List.getElem?_cons_succ, List.getElem?_cons_zero] at c0 c1 c4 d5 d6
  have g5 := hr.free 5
  have g6 := hr.free 6
  have HR := Lib.hid hr
  unfold nextV at c4
  have q1 := fun w => eqFnR w f #[.pointer (some ⟨rg, 0, none⟩)] #[]
  have q2 := fun w => guardFnR w f #[.pointer (some ⟨rg, 0, none⟩)] #[] (.tmp 19)
  have HS := Lib.hid HS
  have z0 : (z == 0) = false := by rw [beq_eq_false_iff_ne]; exact hz
  have z1 : decide (c < 0) = true := by rw [decide_eq_true_eq]; exact hc
  clear hr
  go_enter Try.func43, Try.ntmps43
  go_wp2_with fail
  refine HS.out.mono ?_
  rintro e w1 ⟨rfl, rfl⟩
  go_wp2_with fail
  obtain ⟨W2, hW2⟩ : ∃ W2, W2 = (w.setCell ⟨rg, 6, none⟩ (.int .i64 12)).setCell ⟨rg, 5, none⟩ (.bool true) := ⟨_, rfl⟩
  rw [← hW2]
  have hrw : Row W2 rg 130 (((rcells p c V line (nextV f rg) false code).setIfInBounds 6 (.int .i64 12)).setIfInBounds 5 (.bool true)) := by rw [hW2]; exact (HR.out.set 6 _).set 5 _
  have k5 := hrw.cell 5
  have k6 := hrw.cell 6
  simp only [rcells, List.setIfInBounds_toArray, List.set_cons_succ, List.set_cons_zero, List.getElem?_toArray, List.getElem?_cons_succ, List.getElem?_cons_zero] at k5 k6
  have ca := fun p : LowBy W2 => p.cell k5
  have cb := fun p : LowBy W2 => p.cell k6
  have HW := Lib.hid hW2
  clear hrw k5 k6 hW2 d5 d6 g5 g6 c0 c1 c4 q1 q2
  refine wp_region_quiet_low (by assumption) (by kernel_rfl) ?_
  repeat (go_big_quiet_step (fail))
  refine wpQuiet_nil ?_
  intro _ hw'
  obtain ⟨p, hw''⟩ := hw'
  subst hw''
  have hp := Lib.hid p.low
  clear ca cb
  go_wp2
  go_ret2
  exact ⟨by rfl, w, rfl, by unfold rstepW; rw [← HW.out]; exact hp.out⟩
set_option maxRecDepth 100000 in
set_option maxHeartbeats 1600000 in
theorem rstep_high {w : World} {p : Option Addr} {c line code z : Int} {V : Value} {f rg : Nat}
    (hr : Row w rg 130 (rcells p c V line (nextV f rg) false code)) (hz : z ≠ 0) (hc0 : 0 ≤ c) (hc : 64 < c)
    (HS : Calls Try.prog 56 #[.pointer p] w fun e w' => e = .returned (.int .i64 z) ∧ w = w') :
    Calls Try.prog 43 #[.pointer (some ⟨rg, 0, none⟩)] w (RStepPost (fun w1 => w = w1) rg true 12) := by
  have mixed : Try.prog.follows .mixedOrders = true := by kernel_rfl
  have c0 := hr.cell 0
  have c1 := hr.cell 1
  have c4 := hr.cell 4
  have d5 := hr.cell 5
  have d6 := hr.cell 6
  simp only [rcells, List.getElem?_toArray, List.getElem?_cons_succ, List.getElem?_cons_zero] at c0 c1 c4 d5 d6
  have g5 := hr.free 5
  have g6 := hr.free 6
  have HR := Lib.hid hr
  unfold nextV at c4
  have q1 := fun w => eqFnR w f #[.pointer (some ⟨rg, 0, none⟩)] #[]
  have q2 := fun w => guardFnR w f #[.pointer (some ⟨rg, 0, none⟩)] #[] (.tmp 19)
  have HS := Lib.hid HS
  have z0 : (z == 0) = false := by rw [beq_eq_false_iff_ne]; exact hz
  have z1 : decide (c < 0) = false := by rw [decide_eq_false_iff_not]; omega
  have z2 : decide (64 < c) = true := by rw [decide_eq_true_eq]; exact hc
  clear hr
  go_enter Try.func43, Try.ntmps43
  go_wp2_with fail
  refine HS.out.mono ?_
  rintro e w1 ⟨rfl, rfl⟩
  go_wp2_with fail
  obtain ⟨W2, hW2⟩ : ∃ W2, W2 = (w.setCell ⟨rg, 6, none⟩ (.int .i64 12)).setCell ⟨rg, 5, none⟩ (.bool true) := ⟨_, rfl⟩
  rw [← hW2]
  have hrw : Row W2 rg 130 (((rcells p c V line (nextV f rg) false code).setIfInBounds 6 (.int .i64 12)).setIfInBounds 5 (.bool true)) := by rw [hW2]; exact (HR.out.set 6 _).set 5 _
  have k5 := hrw.cell 5
  have k6 := hrw.cell 6
  simp only [rcells, List.setIfInBounds_toArray, List.set_cons_succ, List.set_cons_zero, List.getElem?_toArray, List.getElem?_cons_succ, List.getElem?_cons_zero] at k5 k6
  have ca := fun p : LowBy W2 => p.cell k5
  have cb := fun p : LowBy W2 => p.cell k6
  have HW := Lib.hid hW2
  clear hrw k5 k6 hW2 d5 d6 g5 g6 c0 c1 c4 q1 q2
  refine wp_region_quiet_low (by assumption) (by kernel_rfl) ?_
  repeat (go_big_quiet_step (fail))
  refine wpQuiet_nil ?_
  intro _ hw'
  obtain ⟨p, hw''⟩ := hw'
  subst hw''
  have hp := Lib.hid p.low
  clear ca cb
  go_wp2
  go_ret2
  exact ⟨by rfl, w, rfl, by unfold rstepW; rw [← HW.out]; exact hp.out⟩
end Go.Proofs.Ytaabdmlmemmnaaa
/- What a run does next: a store, a flush, a fence, the end; for stores that may be. -/
namespace Go.Proofs.Ytaabdmlmemmnaaa
open Go.RowKit Go.Shelf
set_option linter.unusedVariables false
attribute [local go_sem] Oper.semAt_some

theorem geoLine_any {a : Nat} (h1 : a < 18446744073709551616) (w : World) : Calls Try.prog 87 #[.int .u64 (a : Int)] w fun e w' => e = .returned (.int .u64 ((a / 64 * 64 : Nat) : Int)) ∧ w = w' := by
  have e : (a : Int) - (a : Int) % 64 = ((a / 64 * 64 : Nat) : Int) := by omega
  have e2 : (0 : Int) ≤ (a : Int) - (a : Int) % 64 := by omega
  go_enter Try.func87, Try.ntmps87
  go_wp2
  go_ret
  exact ⟨by rw [show ((a / 64 * 64 : Nat) : Int) = (a : Int) / 64 * 64 from by omega]; rfl, rfl⟩

/-- What a step of a run turns: the memory's blocks, the run's own; new ones may come. -/
structure RT (w w' : World) (y y' : Lay) (rg : Nat) : Prop where
  g : y'.g = y.g
  but : But w w' (fun k => y.fp k ∨ k = rg)
  fp : ∀ k, y'.fp k → y.fp k ∨ w.heap.size ≤ k
theorem RT.of_turn {w w' : World} {y y' : Lay} (rg : Nat) (t : Turn w w' y y') : RT w w' y y' rg := ⟨t.g, t.but.mono fun k h => .inl h, t.fp⟩
theorem RT.trans {w w1 w2 : World} {y y1 y2 : Lay} {rg : Nat} (h : RT w w1 y y1 rg) (h2 : RT w1 w2 y1 y2 rg) : RT w w2 y y2 rg :=
  ⟨h2.g.trans h.g, h.but.trans h2.but fun k hk => by
    rcases hk with hk | hk
    · rcases h.fp k hk with h3 | h3
      · exact .inl (.inl h3)
      · exact .inr h3
    · exact .inl (.inr hk), fun k hk => by
    rcases h2.fp k hk with h3 | h3
    · exact h.fp k h3
    · exact .inr (Nat.le_trans h.but.size h3)⟩
theorem RT.set {w : World} (y : Lay) (rg i : Nat) (u : Value) : RT w (w.setCell ⟨rg, i, none⟩ u) y y rg := ⟨rfl, (But.refl w _).set (.inr rfl) u, fun _ h => .inl h⟩
theorem RT.of_below {w w' : World} (y : Lay) (rg : Nat) (h : Below w.heap.size w w') : RT w w' y y rg := ⟨rfl, But.of_below h _, fun _ h => .inl h⟩
theorem MemAt.rset {w : World} {y : Lay} {s : St} (h : MemAt w y s) {rg : Nat} (hn : ¬ y.fp rg) (i : Nat) (u : Value) : MemAt (w.setCell ⟨rg, i, none⟩ u) y s :=
  h.same fun k hk => heap_setCell_other w _ k u (fun e => hn (by have e' : k = rg := e; rw [← e']; exact hk))

/-- Whether a group ends behind a store at a, with these ahead. -/
def ends (a : Nat) : List (Nat × Nat) → Bool
  | [] => true
  | p :: _ => !(p.1 / 64 * 64 == a / 64 * 64)

/-- What follows a store at a, with these ahead. -/
def stNext (a : Nat) (t : List (Nat × Nat)) : Nat := if ends a t then 88 else 65
/-- What a run's store leaves. -/
def RstPost (w : World) (y : Lay) (s' : St) (rg : Nat) (p : Option Addr) (c L : Int) (f : Nat) (d : Bool) (k : Int) (t : List (Nat × Nat)) (ob : Option Nat) (w' : World) : Prop :=
  ∃ y' V', MemAt w' y' s' ∧ Row w' rg 130 (rcells p c V' L (nextV f rg) d k) ∧ Ahead w' V' t ∧ (t ≠ [] → V'.ownBlock = ob) ∧ RT w w' y y' rg
theorem rstore_fin {w w2 W : World} {y y2 : Lay} {s s' : St} {rg : Nat} {c L : Int} {V : Value} {t : List (Nat × Nat)} {d : Bool} {k : Int} {p : Option Addr} {u1 u2 : Value}
    (h : MemAt w y s) (h2 : MemAt w2 y2 s') (T : Turn w w2 y y2) (hb : Below (((w2.setCell ⟨rg, 2, none⟩ u1).setCell ⟨rg, 3, none⟩ u2).drew).heap.size (((w2.setCell ⟨rg, 2, none⟩ u1).setCell ⟨rg, 3, none⟩ u2).drew) W)
    (hr : Row (((w2.setCell ⟨rg, 2, none⟩ u1).setCell ⟨rg, 3, none⟩ u2).drew) rg 130 (rcells p c V L (nextV 65 rg) d k)) (sep : ¬ y.fp rg) (hrl : rg < w.heap.size) (hA : Ahead w V t) (hAs : ∀ b, V.ownBlock = some b → t ≠ [] → ¬ y.fp b ∧ b ≠ rg) :
    (MemAt W y2 s' ∧ Row W rg 130 (rcells p c V L (nextV 65 rg) d k) ∧ Ahead W V t ∧ RT w W y y2 rg) ∧
    (MemAt (W.setCell ⟨rg, 4, none⟩ (nextV 88 rg)) y2 s' ∧ Row (W.setCell ⟨rg, 4, none⟩ (nextV 88 rg)) rg 130 (rcells p c V L (nextV 88 rg) d k) ∧ Ahead (W.setCell ⟨rg, 4, none⟩ (nextV 88 rg)) V t ∧ RT w (W.setCell ⟨rg, 4, none⟩ (nextV 88 rg)) y y2 rg) := by
  have sep2 : ¬ y2.fp rg := fun hf => by
    rcases T.fp rg hf with h1 | h1
    · exact sep h1
    · omega
  have m3 : MemAt (((w2.setCell ⟨rg, 2, none⟩ u1).setCell ⟨rg, 3, none⟩ u2).drew) y2 s' := ((h2.rset sep2 2 u1).rset sep2 3 u2).below (drew_below _)
  have mW := m3.below hb
  have T2 : RT w w2 y y2 rg := RT.of_turn rg T
  have T3 : RT w (((w2.setCell ⟨rg, 2, none⟩ u1).setCell ⟨rg, 3, none⟩ u2).drew) y y2 rg := ((T2.trans (RT.set y2 rg 2 u1)).trans (RT.set y2 rg 3 u2)).trans (RT.of_below y2 rg (drew_below _))
  have T4 := T3.trans (RT.of_below y2 rg hb)
  have T5 := T4.trans (RT.set y2 rg 4 (nextV 88 rg))
  have rW := hr.below hb hr.lt
  have ah : ∀ W' y', RT w W' y y' rg → Ahead W' V t := fun W' y' T' => by
    by_cases h0 : t = []
    · rcases hA with h1 | ⟨h1, _⟩
      · exact .inl h1
      · exact absurd h0 h1
    · exact hA.same fun b hb' => T'.but.block b (hA.lt h0 hb') (by
        rintro (h1 | h1)
        · exact (hAs b hb' h0).1 h1
        · exact (hAs b hb' h0).2 h1)
  exact ⟨⟨mW, rW, ah _ _ T4, T4⟩, mW.rset sep2 4 _, rW.set 4 _, ah _ _ T5, T5⟩

set_option maxRecDepth 100000 in
set_option maxHeartbeats 3200000 in
theorem rstore_any {w : World} {y : Lay} {s : St} (h : MemAt w y s) {rg a v : Nat} {c line : Int} {t : List (Nat × Nat)} {V : Value} {d : Bool} {k : Int}
    (hr : Row w rg 130 (rcells (some ⟨y.g, 0, none⟩) c V line (nextV 65 rg) d k)) (ha : Ahead w V ((a, v) :: t)) (sep : ¬ y.fp rg) (vsep : ∀ b, V.ownBlock = some b → ¬ y.fp b ∧ b ≠ rg)
    (h8 : a % 8 = 0) (h64 : a < 64 * s.nl) (hv : v < 18446744073709551616) (hst : s.st < 9223372036854775808) (hn : ∀ l ∈ s.pend, l.length ≤ 1000000000) (ht : ∀ p ∈ t, p.1 < 18446744073709551616) :
    Calls Try.prog 65 #[.pointer (some ⟨rg, 0, none⟩)] w fun e w' => e = .returned (.int .i64 0) ∧ RstPost w y (s.store a v) rg (some ⟨y.g, 0, none⟩) c ((a / 64 * 64 : Nat) : Int) (stNext a t) d k t V.ownBlock w' := by
  have hmost := h.most
  have HL0 := Lib.hid fun W => geoLine_any (a := a) (by omega) W
  obtain ⟨L, hL⟩ : ∃ L, L = ((a / 64 * 64 : Nat) : Int) := ⟨_, rfl⟩
  rw [← hL] at HL0 ⊢
  have HLE := Lib.hid hL
  clear hL
  have HL := HL0
  clear HL0
  have hlen1 : (1 : Int) ≤ (t.length : Int) + 1 := by omega
  have HA := Lib.hid ha
  rcases ha with ⟨e, _⟩ | ⟨_, g, off, cap, rfl, hlc, hcm, hcell⟩
  · cases e
  obtain ⟨hs1, hs2⟩ := vsep g rfl
  have c0 := hr.cell 0
  have c2 := hr.cell 2
  simp only [rcells, List.getElem?_toArray, List.getElem?_cons_succ, List.getElem?_cons_zero] at c0 c2
  obtain ⟨P2, hP2⟩ : ∃ P2 : Option Addr, P2 = (if cap = 1 then some ⟨g, off, none⟩ else some ⟨g, off + 2, none⟩) := ⟨_, rfl⟩
  have hP3 : t ≠ [] → P2 = some ⟨g, off + 2, none⟩ := fun h0 => by
    have := List.length_pos_iff.2 h0
    rw [hP2, if_neg (by simp only [List.length_cons] at hlc; omega)]
  have p0 := hcell 0 (wv a) rfl
  have p1 := hcell 1 (wv v) rfl
  simp only [Nat.add_zero] at p0
  unfold wv at p0 p1
  simp only [List.length_cons] at c2 hlc
  obtain ⟨W1, hW1⟩ : ∃ W1, W1 = w.alloc (.cells #[.int .u64 (a : Int), .int .u64 (v : Int)] 66) := ⟨_, rfl⟩
  have hb1 : Below w.heap.size w W1 := by rw [hW1]; exact alloc_below _ _
  have hp1 : Row W1 w.heap.size 66 #[.int .u64 (a : Int), .int .u64 (v : Int)] := by rw [hW1]; exact Row.new _ _ _
  have hr1 := hr.below hb1 hr.lt
  have k0 := hr1.cell 0
  have k1 := hp1.cell 0
  have k2 := hp1.cell 1
  simp only [rcells, List.getElem?_toArray, List.getElem?_cons_succ, List.getElem?_cons_zero] at k0 k1 k2
  have ca := fun p : LowBy W1 => p.cell k0
  have cb := fun p : LowBy W1 => p.cell k1
  have cc := fun p : LowBy W1 => p.cell k2
  have mixed : Try.prog.follows .mixedOrders = true := by kernel_rfl
  have HST := Lib.hid fun (p : LowBy W1) => store_ok (h.below (hb1.trans (p.low.mono hb1.size))) a v h8 h64 hv hst hn
  have HM := Lib.hid h
  have HR := Lib.hid hr
  have HB1 := Lib.hid hb1
  have HCL := Lib.hid hcell
  have hgs : g < w.heap.size := block_lt_of_cell p0
  have HRL := Lib.hid hr.lt
  have HAH := Lib.hid (show Ahead w (.slice P2 t.length (cap - 1)) t from by
    cases t with
    | nil => exact .inl ⟨rfl, _, _, rfl, by omega⟩
    | cons bu t' =>
      refine .inr ⟨by simp, g, off + 2, cap - 1, by rw [hP3 (by simp)], by simp only [List.length_cons] at hlc ⊢; omega, by omega, fun i u hu => ?_⟩
      have := hcell (i + 2) u (by rw [flat_cons]; exact hu)
      rw [show off + 2 + i = off + (i + 2) from by omega]
      exact this)
  have HAS := Lib.hid (show ∀ b, (Value.slice P2 t.length (cap - 1)).ownBlock = some b → t ≠ [] → ¬ y.fp b ∧ b ≠ rg from fun b hb h0 => by
    rw [hP3 h0] at hb
    exact vsep b hb)
  have HP2 := Lib.hid hP2
  have HP3 := Lib.hid hP3
  clear hP2 hP3
  clear h hr hr1 hp1 k0 k1 k2 hcell hb1 hst hn hv h8
  go_enter Try.func65, Try.ntmps65
  go_wp2_with fail
  rw [← hW1]
  refine wp_region_low_tail 8 (by assumption) (by kernel_rfl) ?_
  simp only [List.take_succ_cons, List.take_zero, List.drop_succ_cons, List.drop_zero]
  repeat (go_big_quiet_step (fail))
  refine wpQuiet_nil ?_
  intro _ hw'
  obtain ⟨p, hw''⟩ := hw'
  subst hw''
  clear ca cb cc
  go_wp2_with fail
  refine (HST.out p).mono ?_
  rintro e w2 ⟨rfl, y2, hm2, ht2⟩
  have T2 : Turn w w2 y y2 := (Turn.of_below y (Below.and HB1.out p.low)).trans ht2
  have B2 := T2.but
  have hr2 : Row w2 rg 130 (rcells (some ⟨y.g, 0, none⟩) c (.slice (some ⟨g, off, none⟩) (t.length + 1) cap) line (nextV 65 rg) d k) := B2.row HR.out sep
  have hp2 : Row w2 w.heap.size 66 #[.int .u64 (a : Int), .int .u64 (v : Int)] := by
    have r1 : Row W1 w.heap.size 66 #[.int .u64 (a : Int), .int .u64 (v : Int)] := by rw [hW1]; exact Row.new _ _ _
    exact ht2.but.row (r1.below p.low r1.lt) (fun hf => Nat.lt_irrefl _ (HM.out.lt _ hf))
  have j2 := hr2.cell 2
  have j3 := hr2.cell 3
  have j4 := hr2.cell 4
  simp only [rcells, List.getElem?_toArray, List.getElem?_cons_succ, List.getElem?_cons_zero] at j2 j3 j4
  have l2 := hr2.free 2
  have l3 := hr2.free 3
  have l4 := hr2.free 4
  have m0 := hp2.cell 0
  simp only [List.getElem?_toArray, List.getElem?_cons_succ, List.getElem?_cons_zero] at m0
  have HM2 := Lib.hid hm2
  have HT2 := Lib.hid T2
  have HR2 := Lib.hid hr2
  have HSZ := Lib.hid (show w.heap.size ≤ w2.heap.size from B2.size)
  clear hm2 ht2 T2 hr2 hp2 c0 c2 p0 p1 hW1 HST HB1 HR HSZ
  go_wp2_with fail
  refine wp_region_any (by kernel_rfl) ?_
  change wpAny _ _ _ _ _ _ _ (World.drew _)
  refine wpAny_take (i := 0) (oi := ⟨some 23, _, _, _, _, _⟩) (v := .pointer (some ⟨rg, 0, none⟩)) rfl (by kernel_rfl) (by kernel_rfl) (by kernel_rfl) (fun _ _ _ h => h) (Or.inl ⟨by kernel_rfl, by intro w; go_simp⟩) ?_
  simp only [Act.put, List.setIfInBounds_toArray, List.set_cons_zero, List.set_cons_succ]
  refine wpAny_take (i := 1) (oi := ⟨some 24, _, _, _, _, _⟩) (v := .pointer (some ⟨rg, 0, none⟩)) rfl (by kernel_rfl) (by kernel_rfl) (by kernel_rfl) (fun _ _ _ h => h) (Or.inl ⟨by kernel_rfl, by intro w; go_simp⟩) ?_
  simp only [Act.put, List.setIfInBounds_toArray, List.set_cons_zero, List.set_cons_succ]
  refine wpAny_take (i := 2) (oi := ⟨some 25, _, _, _, _, _⟩) (v := .pointer (some ⟨rg, 0, none⟩)) rfl (by kernel_rfl) (by kernel_rfl) (by kernel_rfl) (fun _ _ _ h => h) (Or.inl ⟨by kernel_rfl, by intro w; go_simp⟩) ?_
  simp only [Act.put, List.setIfInBounds_toArray, List.set_cons_zero, List.set_cons_succ]
  refine wpAny_take (i := 3) (oi := ⟨some 26, _, _, _, _, _⟩) (v := .pointer (some ⟨rg, 0, none⟩)) rfl (by kernel_rfl) (by kernel_rfl) (by kernel_rfl) (fun _ _ _ h => h) (Or.inl ⟨by kernel_rfl, by intro w; go_simp⟩) ?_
  simp only [Act.put, List.setIfInBounds_toArray, List.set_cons_zero, List.set_cons_succ]
  refine wpAny_take (i := 4) (oi := ⟨some 27, _, _, _, _, _⟩) (v := .pointer (some ⟨rg, 2, none⟩)) rfl (by kernel_rfl) (by kernel_rfl) (by kernel_rfl) (fun _ _ _ h => h) (Or.inl ⟨by kernel_rfl, by intro w; go_simp⟩) ?_
  simp only [Act.put, List.setIfInBounds_toArray, List.set_cons_zero, List.set_cons_succ]
  refine wpAny_take (i := 7) (oi := ⟨some 30, _, _, _, _, _⟩) (v := .pointer (some ⟨w.heap.size, 0, none⟩)) rfl (by kernel_rfl) (by kernel_rfl) (by kernel_rfl) (fun _ _ _ h => h) (Or.inl ⟨by kernel_rfl, by intro w; go_simp⟩) ?_
  simp only [Act.put, List.setIfInBounds_toArray, List.set_cons_zero, List.set_cons_succ]
  refine wpAny_ready (rs := [5, 8]) (by kernel_rfl) (by simp) ?_
  refine AllReady.cons rfl (fun K hK => ?_) (AllReady.cons rfl (fun K hK => ?_) AllReady.nil)
  · skip
    go_simp
    refine hK _ _ ?_
    clear hK K
    refine wpAny_take (i := 6) (oi := ⟨some 29, _, _, _, _, _⟩) (v := .slice P2 t.length (cap - 1)) rfl (by kernel_rfl) (by kernel_rfl) (by kernel_rfl) (fun _ _ _ h => h) (Or.inl ⟨by kernel_rfl, by intro w; go_simp; rw [HP2.out]⟩) ?_
    simp only [Act.put, List.setIfInBounds_toArray, List.set_cons_zero, List.set_cons_succ]
    refine wpAny_ready (rs := [8]) (by kernel_rfl) (by simp) ?_
    refine AllReady.cons rfl (fun K hK => ?_) AllReady.nil
    go_simp
    refine hK _ _ ?_
    clear hK K
    refine wpAny_ready (rs := [9]) (by kernel_rfl) (by simp) ?_
    refine AllReady.cons rfl (fun K hK => ?_) AllReady.nil
    go_simp
    refine (HL.out _).mono ?_
    rintro e wy ⟨rfl, rfl⟩
    refine hK _ _ ?_
    clear hK K
    refine wpAny_take (i := 10) (oi := ⟨some 33, _, _, _, _, _⟩) (v := .pointer (some ⟨rg, 0, none⟩)) rfl (by kernel_rfl) (by kernel_rfl) (by kernel_rfl) (fun _ _ _ h => h) (Or.inl ⟨by kernel_rfl, by intro w; go_simp⟩) ?_
    simp only [Act.put, List.setIfInBounds_toArray, List.set_cons_zero, List.set_cons_succ]
    refine wpAny_take (i := 11) (oi := ⟨some 34, _, _, _, _, _⟩) (v := .pointer (some ⟨rg, 2, none⟩)) rfl (by kernel_rfl) (by kernel_rfl) (by kernel_rfl) (fun _ _ _ h => h) (Or.inl ⟨by kernel_rfl, by intro w; go_simp⟩) ?_
    simp only [Act.put, List.setIfInBounds_toArray, List.set_cons_zero, List.set_cons_succ]
    refine wpAny_ready (rs := [12]) (by kernel_rfl) (by simp) ?_
    refine AllReady.cons rfl (fun K hK => ?_) AllReady.nil
    go_simp
    refine hK _ _ ?_
    clear hK K
    refine wpAny_take (i := 13) (oi := ⟨some 35, _, _, _, _, _⟩) (v := .pointer (some ⟨rg, 0, none⟩)) rfl (by kernel_rfl) (by kernel_rfl) (by kernel_rfl) (fun _ _ _ h => h) (Or.inl ⟨by kernel_rfl, by intro w; go_simp⟩) ?_
    simp only [Act.put, List.setIfInBounds_toArray, List.set_cons_zero, List.set_cons_succ]
    refine wpAny_take (i := 14) (oi := ⟨some 36, _, _, _, _, _⟩) (v := .pointer (some ⟨rg, 3, none⟩)) rfl (by kernel_rfl) (by kernel_rfl) (by kernel_rfl) (fun _ _ _ h => h) (Or.inl ⟨by kernel_rfl, by intro w; go_simp⟩) ?_
    simp only [Act.put, List.setIfInBounds_toArray, List.set_cons_zero, List.set_cons_succ]
    refine wpAny_ready (rs := [15]) (by kernel_rfl) (by simp) ?_
    refine AllReady.cons rfl (fun K hK => ?_) AllReady.nil
    go_simp
    refine hK _ _ ?_
    clear hK K
    refine wpAny_done (by kernel_rfl) ?_ _
    obtain ⟨W3, hW3⟩ : ∃ W3, W3 = ((w2.setCell ⟨rg, 2, none⟩ (.slice P2 t.length (cap - 1))).setCell ⟨rg, 3, none⟩ (.int .u64 L)).drew := ⟨_, rfl⟩
    rw [← hW3]
    have hr3 : Row W3 rg 130 (rcells (some ⟨y.g, 0, none⟩) c (.slice P2 t.length (cap - 1)) L (nextV 65 rg) d k) := by
      rw [hW3]
      exact ((HR2.out.set 2 _).set 3 _).below (drew_below _) (((HR2.out.set 2 _).set 3 _).lt)
    have n2 := hr3.cell 2
    have n3 := hr3.cell 3
    simp only [rcells, List.getElem?_toArray, List.getElem?_cons_succ, List.getElem?_cons_zero] at n2 n3
    have FIN := Lib.hid fun (p3 : LowBy W3) => rstore_fin (V := .slice P2 t.length (cap - 1)) HM.out HM2.out HT2.out (by rw [← hW3]; exact p3.low) (by rw [← hW3]; exact hr3) sep HRL.out HAH.out HAS.out
    have HOW := Lib.hid (show t ≠ [] → (Value.slice P2 t.length (cap - 1)).ownBlock = some g from fun h0 => by rw [HP3.out h0]; rfl)
    have ca := fun p : LowBy W3 => p.cell n2
    have cb := fun p : LowBy W3 => p.cell n3
    cases t with
    | nil =>
      clear j2 j3 j4 m0 l2 l3 l4 n2 n3 hr3 hW3
      go_wp2_with fail
      refine wp_region_quiet_low (by assumption) (by kernel_rfl) ?_
      repeat (go_big_quiet_step (fail))
      refine wpQuiet_nil ?_
      intro _ hw'
      obtain ⟨p3, hw''⟩ := hw'
      subst hw''
      clear ca cb
      have F := FIN.out p3
      have n4 := F.1.2.1.cell 4
      have l4 := F.1.2.1.free 4
      simp only [rcells, List.getElem?_toArray, List.getElem?_cons_succ, List.getElem?_cons_zero] at n4
      have F := Lib.hid F.2
      clear FIN
      unfold nextV at F
      go_wp2
      go_ret
      exact ⟨rfl, y2, .slice P2 0 (cap - 1), F.out.1, F.out.2.1, F.out.2.2.1, fun h0 => absurd rfl h0, F.out.2.2.2⟩
    | cons bu t' =>
      obtain ⟨b, u⟩ := bu
      obtain ⟨g', off', q0, hPP⟩ : ∃ g' off', W3.cell? ⟨g', off', none⟩ = some (.int .u64 (b : Int)) ∧ P2 = some ⟨g', off', none⟩ := by
        rcases (FIN.out ⟨W3, Below.refl _ _⟩).1.2.2.1 with ⟨h0, _⟩ | ⟨_, g', off', cap', he, _, _, hc⟩
        · cases h0
        · injection he with he1 _ _
          exact ⟨g', off', hc 0 _ (by rw [flat_cons]; rfl), he1⟩
      subst hPP
      have cd := fun p : LowBy W3 => p.cell q0
      obtain ⟨Lb, hLb⟩ : ∃ Lb, Lb = ((b / 64 * 64 : Nat) : Int) := ⟨_, rfl⟩
      have HLb := Lib.hid fun (p : LowBy W3) => Calls.low_of_same (w := W3) (p := p) (geoLine_any (a := b) (ht (b, u) List.mem_cons_self) p.W)
      rw [← hLb] at HLb
      have HE : Lb = L ↔ b / 64 * 64 = a / 64 * 64 := by rw [hLb, HLE.out]; omega
      have hz1 : (((((b, u) :: t').length : Nat) : Int) == 0) = false := by simp only [List.length_cons]; rw [beq_eq_false_iff_ne]; omega
      have hz2 : (((t'.length + 1 : Nat) : Int) == 0) = false := by rw [beq_eq_false_iff_ne]; omega
      have hz3 : (((t'.length : Nat) : Int) + 1 == 0) = false := by rw [beq_eq_false_iff_ne]; omega
      have HEE := Lib.hid (show ends a ((b, u) :: t') = !(b / 64 * 64 == a / 64 * 64) from rfl)
      have HEQ := Lib.hid HE
      clear j2 j3 j4 m0 l2 l3 l4 n2 n3 hr3 hW3 HE hLb q0 HP2 HP3
      by_cases hEq : Lb = L
      · have e1 : (Lb == L) = true := by rw [beq_iff_eq]; exact hEq
        have e2 : (Lb != L) = false := by simp [bne, e1]
        have e3 : ends a ((b, u) :: t') = false := by rw [HEE.out, HEQ.out.1 hEq]; simp
        have E3 := Lib.hid e3
        clear hEq e3
        go_wp2_with fail
        refine wp_region_quiet_low (by assumption) (by kernel_rfl) ?_
        repeat (go_big_quiet_step ((go_at_call 87; with_reducible exact HLb.out _)))
        refine wpQuiet_nil ?_
        intro _ hw'
        obtain ⟨p3, hw''⟩ := hw'
        subst hw''
        clear ca cb cd
        have F := Lib.hid (FIN.out p3).1
        clear FIN
        go_wp2
        go_ret
        refine ⟨rfl, ?_⟩
        unfold stNext
        rw [E3.out]
        exact ⟨y2, _, F.out.1, F.out.2.1, F.out.2.2.1, HOW.out, F.out.2.2.2⟩
      · have e1 : (Lb == L) = false := by rw [beq_eq_false_iff_ne]; exact hEq
        have e2 : (Lb != L) = true := by simp [bne, e1]
        have e3 : ends a ((b, u) :: t') = true := by
          rw [HEE.out]
          simp only [Bool.not_eq_true', beq_eq_false_iff_ne]
          exact fun h => hEq (HEQ.out.2 h)
        have E3 := Lib.hid e3
        clear hEq e3
        go_wp2_with fail
        refine wp_region_quiet_low (by assumption) (by kernel_rfl) ?_
        repeat (go_big_quiet_step ((go_at_call 87; with_reducible exact HLb.out _)))
        refine wpQuiet_nil ?_
        intro _ hw'
        obtain ⟨p3, hw''⟩ := hw'
        subst hw''
        clear ca cb cd
        have F := FIN.out p3
        have n4 := F.1.2.1.cell 4
        have l4 := F.1.2.1.free 4
        simp only [rcells, List.getElem?_toArray, List.getElem?_cons_succ, List.getElem?_cons_zero] at n4
        have F := Lib.hid F.2
        clear FIN
        unfold nextV at F
        go_wp2
        go_ret
        refine ⟨rfl, ?_⟩
        unfold stNext
        rw [E3.out]
        exact ⟨y2, _, F.out.1, F.out.2.1, F.out.2.2.1, HOW.out, F.out.2.2.2⟩
  · skip
    go_simp
    refine hK _ _ ?_
    clear hK K
    refine wpAny_ready (rs := [5, 9]) (by kernel_rfl) (by simp) ?_
    refine AllReady.cons rfl (fun K hK => ?_) (AllReady.cons rfl (fun K hK => ?_) AllReady.nil)
    · skip
      go_simp
      refine hK _ _ ?_
      clear hK K
      refine wpAny_take (i := 6) (oi := ⟨some 29, _, _, _, _, _⟩) (v := .slice P2 t.length (cap - 1)) rfl (by kernel_rfl) (by kernel_rfl) (by kernel_rfl) (fun _ _ _ h => h) (Or.inl ⟨by kernel_rfl, by intro w; go_simp; rw [HP2.out]⟩) ?_
      simp only [Act.put, List.setIfInBounds_toArray, List.set_cons_zero, List.set_cons_succ]
      refine wpAny_ready (rs := [9]) (by kernel_rfl) (by simp) ?_
      refine AllReady.cons rfl (fun K hK => ?_) AllReady.nil
      go_simp
      refine (HL.out _).mono ?_
      rintro e wy ⟨rfl, rfl⟩
      refine hK _ _ ?_
      clear hK K
      refine wpAny_take (i := 10) (oi := ⟨some 33, _, _, _, _, _⟩) (v := .pointer (some ⟨rg, 0, none⟩)) rfl (by kernel_rfl) (by kernel_rfl) (by kernel_rfl) (fun _ _ _ h => h) (Or.inl ⟨by kernel_rfl, by intro w; go_simp⟩) ?_
      simp only [Act.put, List.setIfInBounds_toArray, List.set_cons_zero, List.set_cons_succ]
      refine wpAny_take (i := 11) (oi := ⟨some 34, _, _, _, _, _⟩) (v := .pointer (some ⟨rg, 2, none⟩)) rfl (by kernel_rfl) (by kernel_rfl) (by kernel_rfl) (fun _ _ _ h => h) (Or.inl ⟨by kernel_rfl, by intro w; go_simp⟩) ?_
      simp only [Act.put, List.setIfInBounds_toArray, List.set_cons_zero, List.set_cons_succ]
      refine wpAny_ready (rs := [12]) (by kernel_rfl) (by simp) ?_
      refine AllReady.cons rfl (fun K hK => ?_) AllReady.nil
      go_simp
      refine hK _ _ ?_
      clear hK K
      refine wpAny_take (i := 13) (oi := ⟨some 35, _, _, _, _, _⟩) (v := .pointer (some ⟨rg, 0, none⟩)) rfl (by kernel_rfl) (by kernel_rfl) (by kernel_rfl) (fun _ _ _ h => h) (Or.inl ⟨by kernel_rfl, by intro w; go_simp⟩) ?_
      simp only [Act.put, List.setIfInBounds_toArray, List.set_cons_zero, List.set_cons_succ]
      refine wpAny_take (i := 14) (oi := ⟨some 36, _, _, _, _, _⟩) (v := .pointer (some ⟨rg, 3, none⟩)) rfl (by kernel_rfl) (by kernel_rfl) (by kernel_rfl) (fun _ _ _ h => h) (Or.inl ⟨by kernel_rfl, by intro w; go_simp⟩) ?_
      simp only [Act.put, List.setIfInBounds_toArray, List.set_cons_zero, List.set_cons_succ]
      refine wpAny_ready (rs := [15]) (by kernel_rfl) (by simp) ?_
      refine AllReady.cons rfl (fun K hK => ?_) AllReady.nil
      go_simp
      refine hK _ _ ?_
      clear hK K
      refine wpAny_done (by kernel_rfl) ?_ _
      obtain ⟨W3, hW3⟩ : ∃ W3, W3 = ((w2.setCell ⟨rg, 2, none⟩ (.slice P2 t.length (cap - 1))).setCell ⟨rg, 3, none⟩ (.int .u64 L)).drew := ⟨_, rfl⟩
      rw [← hW3]
      have hr3 : Row W3 rg 130 (rcells (some ⟨y.g, 0, none⟩) c (.slice P2 t.length (cap - 1)) L (nextV 65 rg) d k) := by
        rw [hW3]
        exact ((HR2.out.set 2 _).set 3 _).below (drew_below _) (((HR2.out.set 2 _).set 3 _).lt)
      have n2 := hr3.cell 2
      have n3 := hr3.cell 3
      simp only [rcells, List.getElem?_toArray, List.getElem?_cons_succ, List.getElem?_cons_zero] at n2 n3
      have FIN := Lib.hid fun (p3 : LowBy W3) => rstore_fin (V := .slice P2 t.length (cap - 1)) HM.out HM2.out HT2.out (by rw [← hW3]; exact p3.low) (by rw [← hW3]; exact hr3) sep HRL.out HAH.out HAS.out
      have HOW := Lib.hid (show t ≠ [] → (Value.slice P2 t.length (cap - 1)).ownBlock = some g from fun h0 => by rw [HP3.out h0]; rfl)
      have ca := fun p : LowBy W3 => p.cell n2
      have cb := fun p : LowBy W3 => p.cell n3
      cases t with
      | nil =>
        clear j2 j3 j4 m0 l2 l3 l4 n2 n3 hr3 hW3
        go_wp2_with fail
        refine wp_region_quiet_low (by assumption) (by kernel_rfl) ?_
        repeat (go_big_quiet_step (fail))
        refine wpQuiet_nil ?_
        intro _ hw'
        obtain ⟨p3, hw''⟩ := hw'
        subst hw''
        clear ca cb
        have F := FIN.out p3
        have n4 := F.1.2.1.cell 4
        have l4 := F.1.2.1.free 4
        simp only [rcells, List.getElem?_toArray, List.getElem?_cons_succ, List.getElem?_cons_zero] at n4
        have F := Lib.hid F.2
        clear FIN
        unfold nextV at F
        go_wp2
        go_ret
        exact ⟨rfl, y2, .slice P2 0 (cap - 1), F.out.1, F.out.2.1, F.out.2.2.1, fun h0 => absurd rfl h0, F.out.2.2.2⟩
      | cons bu t' =>
        obtain ⟨b, u⟩ := bu
        obtain ⟨g', off', q0, hPP⟩ : ∃ g' off', W3.cell? ⟨g', off', none⟩ = some (.int .u64 (b : Int)) ∧ P2 = some ⟨g', off', none⟩ := by
          rcases (FIN.out ⟨W3, Below.refl _ _⟩).1.2.2.1 with ⟨h0, _⟩ | ⟨_, g', off', cap', he, _, _, hc⟩
          · cases h0
          · injection he with he1 _ _
            exact ⟨g', off', hc 0 _ (by rw [flat_cons]; rfl), he1⟩
        subst hPP
        have cd := fun p : LowBy W3 => p.cell q0
        obtain ⟨Lb, hLb⟩ : ∃ Lb, Lb = ((b / 64 * 64 : Nat) : Int) := ⟨_, rfl⟩
        have HLb := Lib.hid fun (p : LowBy W3) => Calls.low_of_same (w := W3) (p := p) (geoLine_any (a := b) (ht (b, u) List.mem_cons_self) p.W)
        rw [← hLb] at HLb
        have HE : Lb = L ↔ b / 64 * 64 = a / 64 * 64 := by rw [hLb, HLE.out]; omega
        have hz1 : (((((b, u) :: t').length : Nat) : Int) == 0) = false := by simp only [List.length_cons]; rw [beq_eq_false_iff_ne]; omega
        have hz2 : (((t'.length + 1 : Nat) : Int) == 0) = false := by rw [beq_eq_false_iff_ne]; omega
        have hz3 : (((t'.length : Nat) : Int) + 1 == 0) = false := by rw [beq_eq_false_iff_ne]; omega
        have HEE := Lib.hid (show ends a ((b, u) :: t') = !(b / 64 * 64 == a / 64 * 64) from rfl)
        have HEQ := Lib.hid HE
        clear j2 j3 j4 m0 l2 l3 l4 n2 n3 hr3 hW3 HE hLb q0 HP2 HP3
        by_cases hEq : Lb = L
        · have e1 : (Lb == L) = true := by rw [beq_iff_eq]; exact hEq
          have e2 : (Lb != L) = false := by simp [bne, e1]
          have e3 : ends a ((b, u) :: t') = false := by rw [HEE.out, HEQ.out.1 hEq]; simp
          have E3 := Lib.hid e3
          clear hEq e3
          go_wp2_with fail
          refine wp_region_quiet_low (by assumption) (by kernel_rfl) ?_
          repeat (go_big_quiet_step ((go_at_call 87; with_reducible exact HLb.out _)))
          refine wpQuiet_nil ?_
          intro _ hw'
          obtain ⟨p3, hw''⟩ := hw'
          subst hw''
          clear ca cb cd
          have F := Lib.hid (FIN.out p3).1
          clear FIN
          go_wp2
          go_ret
          refine ⟨rfl, ?_⟩
          unfold stNext
          rw [E3.out]
          exact ⟨y2, _, F.out.1, F.out.2.1, F.out.2.2.1, HOW.out, F.out.2.2.2⟩
        · have e1 : (Lb == L) = false := by rw [beq_eq_false_iff_ne]; exact hEq
          have e2 : (Lb != L) = true := by simp [bne, e1]
          have e3 : ends a ((b, u) :: t') = true := by
            rw [HEE.out]
            simp only [Bool.not_eq_true', beq_eq_false_iff_ne]
            exact fun h => hEq (HEQ.out.2 h)
          have E3 := Lib.hid e3
          clear hEq e3
          go_wp2_with fail
          refine wp_region_quiet_low (by assumption) (by kernel_rfl) ?_
          repeat (go_big_quiet_step ((go_at_call 87; with_reducible exact HLb.out _)))
          refine wpQuiet_nil ?_
          intro _ hw'
          obtain ⟨p3, hw''⟩ := hw'
          subst hw''
          clear ca cb cd
          have F := FIN.out p3
          have n4 := F.1.2.1.cell 4
          have l4 := F.1.2.1.free 4
          simp only [rcells, List.getElem?_toArray, List.getElem?_cons_succ, List.getElem?_cons_zero] at n4
          have F := Lib.hid F.2
          clear FIN
          unfold nextV at F
          go_wp2
          go_ret
          refine ⟨rfl, ?_⟩
          unfold stNext
          rw [E3.out]
          exact ⟨y2, _, F.out.1, F.out.2.1, F.out.2.2.1, HOW.out, F.out.2.2.2⟩
    · skip
      go_simp
      refine (HL.out _).mono ?_
      rintro e wy ⟨rfl, rfl⟩
      refine hK _ _ ?_
      clear hK K
      refine wpAny_ready (rs := [5]) (by kernel_rfl) (by simp) ?_
      refine AllReady.cons rfl (fun K hK => ?_) AllReady.nil
      go_simp
      refine hK _ _ ?_
      clear hK K
      refine wpAny_take (i := 6) (oi := ⟨some 29, _, _, _, _, _⟩) (v := .slice P2 t.length (cap - 1)) rfl (by kernel_rfl) (by kernel_rfl) (by kernel_rfl) (fun _ _ _ h => h) (Or.inl ⟨by kernel_rfl, by intro w; go_simp; rw [HP2.out]⟩) ?_
      simp only [Act.put, List.setIfInBounds_toArray, List.set_cons_zero, List.set_cons_succ]
      refine wpAny_take (i := 10) (oi := ⟨some 33, _, _, _, _, _⟩) (v := .pointer (some ⟨rg, 0, none⟩)) rfl (by kernel_rfl) (by kernel_rfl) (by kernel_rfl) (fun _ _ _ h => h) (Or.inl ⟨by kernel_rfl, by intro w; go_simp⟩) ?_
      simp only [Act.put, List.setIfInBounds_toArray, List.set_cons_zero, List.set_cons_succ]
      refine wpAny_take (i := 11) (oi := ⟨some 34, _, _, _, _, _⟩) (v := .pointer (some ⟨rg, 2, none⟩)) rfl (by kernel_rfl) (by kernel_rfl) (by kernel_rfl) (fun _ _ _ h => h) (Or.inl ⟨by kernel_rfl, by intro w; go_simp⟩) ?_
      simp only [Act.put, List.setIfInBounds_toArray, List.set_cons_zero, List.set_cons_succ]
      refine wpAny_ready (rs := [12]) (by kernel_rfl) (by simp) ?_
      refine AllReady.cons rfl (fun K hK => ?_) AllReady.nil
      go_simp
      refine hK _ _ ?_
      clear hK K
      refine wpAny_take (i := 13) (oi := ⟨some 35, _, _, _, _, _⟩) (v := .pointer (some ⟨rg, 0, none⟩)) rfl (by kernel_rfl) (by kernel_rfl) (by kernel_rfl) (fun _ _ _ h => h) (Or.inl ⟨by kernel_rfl, by intro w; go_simp⟩) ?_
      simp only [Act.put, List.setIfInBounds_toArray, List.set_cons_zero, List.set_cons_succ]
      refine wpAny_take (i := 14) (oi := ⟨some 36, _, _, _, _, _⟩) (v := .pointer (some ⟨rg, 3, none⟩)) rfl (by kernel_rfl) (by kernel_rfl) (by kernel_rfl) (fun _ _ _ h => h) (Or.inl ⟨by kernel_rfl, by intro w; go_simp⟩) ?_
      simp only [Act.put, List.setIfInBounds_toArray, List.set_cons_zero, List.set_cons_succ]
      refine wpAny_ready (rs := [15]) (by kernel_rfl) (by simp) ?_
      refine AllReady.cons rfl (fun K hK => ?_) AllReady.nil
      go_simp
      refine hK _ _ ?_
      clear hK K
      refine wpAny_done (by kernel_rfl) ?_ _
      obtain ⟨W3, hW3⟩ : ∃ W3, W3 = ((w2.setCell ⟨rg, 2, none⟩ (.slice P2 t.length (cap - 1))).setCell ⟨rg, 3, none⟩ (.int .u64 L)).drew := ⟨_, rfl⟩
      rw [← hW3]
      have hr3 : Row W3 rg 130 (rcells (some ⟨y.g, 0, none⟩) c (.slice P2 t.length (cap - 1)) L (nextV 65 rg) d k) := by
        rw [hW3]
        exact ((HR2.out.set 2 _).set 3 _).below (drew_below _) (((HR2.out.set 2 _).set 3 _).lt)
      have n2 := hr3.cell 2
      have n3 := hr3.cell 3
      simp only [rcells, List.getElem?_toArray, List.getElem?_cons_succ, List.getElem?_cons_zero] at n2 n3
      have FIN := Lib.hid fun (p3 : LowBy W3) => rstore_fin (V := .slice P2 t.length (cap - 1)) HM.out HM2.out HT2.out (by rw [← hW3]; exact p3.low) (by rw [← hW3]; exact hr3) sep HRL.out HAH.out HAS.out
      have HOW := Lib.hid (show t ≠ [] → (Value.slice P2 t.length (cap - 1)).ownBlock = some g from fun h0 => by rw [HP3.out h0]; rfl)
      have ca := fun p : LowBy W3 => p.cell n2
      have cb := fun p : LowBy W3 => p.cell n3
      cases t with
      | nil =>
        clear j2 j3 j4 m0 l2 l3 l4 n2 n3 hr3 hW3
        go_wp2_with fail
        refine wp_region_quiet_low (by assumption) (by kernel_rfl) ?_
        repeat (go_big_quiet_step (fail))
        refine wpQuiet_nil ?_
        intro _ hw'
        obtain ⟨p3, hw''⟩ := hw'
        subst hw''
        clear ca cb
        have F := FIN.out p3
        have n4 := F.1.2.1.cell 4
        have l4 := F.1.2.1.free 4
        simp only [rcells, List.getElem?_toArray, List.getElem?_cons_succ, List.getElem?_cons_zero] at n4
        have F := Lib.hid F.2
        clear FIN
        unfold nextV at F
        go_wp2
        go_ret
        exact ⟨rfl, y2, .slice P2 0 (cap - 1), F.out.1, F.out.2.1, F.out.2.2.1, fun h0 => absurd rfl h0, F.out.2.2.2⟩
      | cons bu t' =>
        obtain ⟨b, u⟩ := bu
        obtain ⟨g', off', q0, hPP⟩ : ∃ g' off', W3.cell? ⟨g', off', none⟩ = some (.int .u64 (b : Int)) ∧ P2 = some ⟨g', off', none⟩ := by
          rcases (FIN.out ⟨W3, Below.refl _ _⟩).1.2.2.1 with ⟨h0, _⟩ | ⟨_, g', off', cap', he, _, _, hc⟩
          · cases h0
          · injection he with he1 _ _
            exact ⟨g', off', hc 0 _ (by rw [flat_cons]; rfl), he1⟩
        subst hPP
        have cd := fun p : LowBy W3 => p.cell q0
        obtain ⟨Lb, hLb⟩ : ∃ Lb, Lb = ((b / 64 * 64 : Nat) : Int) := ⟨_, rfl⟩
        have HLb := Lib.hid fun (p : LowBy W3) => Calls.low_of_same (w := W3) (p := p) (geoLine_any (a := b) (ht (b, u) List.mem_cons_self) p.W)
        rw [← hLb] at HLb
        have HE : Lb = L ↔ b / 64 * 64 = a / 64 * 64 := by rw [hLb, HLE.out]; omega
        have hz1 : (((((b, u) :: t').length : Nat) : Int) == 0) = false := by simp only [List.length_cons]; rw [beq_eq_false_iff_ne]; omega
        have hz2 : (((t'.length + 1 : Nat) : Int) == 0) = false := by rw [beq_eq_false_iff_ne]; omega
        have hz3 : (((t'.length : Nat) : Int) + 1 == 0) = false := by rw [beq_eq_false_iff_ne]; omega
        have HEE := Lib.hid (show ends a ((b, u) :: t') = !(b / 64 * 64 == a / 64 * 64) from rfl)
        have HEQ := Lib.hid HE
        clear j2 j3 j4 m0 l2 l3 l4 n2 n3 hr3 hW3 HE hLb q0 HP2 HP3
        by_cases hEq : Lb = L
        · have e1 : (Lb == L) = true := by rw [beq_iff_eq]; exact hEq
          have e2 : (Lb != L) = false := by simp [bne, e1]
          have e3 : ends a ((b, u) :: t') = false := by rw [HEE.out, HEQ.out.1 hEq]; simp
          have E3 := Lib.hid e3
          clear hEq e3
          go_wp2_with fail
          refine wp_region_quiet_low (by assumption) (by kernel_rfl) ?_
          repeat (go_big_quiet_step ((go_at_call 87; with_reducible exact HLb.out _)))
          refine wpQuiet_nil ?_
          intro _ hw'
          obtain ⟨p3, hw''⟩ := hw'
          subst hw''
          clear ca cb cd
          have F := Lib.hid (FIN.out p3).1
          clear FIN
          go_wp2
          go_ret
          refine ⟨rfl, ?_⟩
          unfold stNext
          rw [E3.out]
          exact ⟨y2, _, F.out.1, F.out.2.1, F.out.2.2.1, HOW.out, F.out.2.2.2⟩
        · have e1 : (Lb == L) = false := by rw [beq_eq_false_iff_ne]; exact hEq
          have e2 : (Lb != L) = true := by simp [bne, e1]
          have e3 : ends a ((b, u) :: t') = true := by
            rw [HEE.out]
            simp only [Bool.not_eq_true', beq_eq_false_iff_ne]
            exact fun h => hEq (HEQ.out.2 h)
          have E3 := Lib.hid e3
          clear hEq e3
          go_wp2_with fail
          refine wp_region_quiet_low (by assumption) (by kernel_rfl) ?_
          repeat (go_big_quiet_step ((go_at_call 87; with_reducible exact HLb.out _)))
          refine wpQuiet_nil ?_
          intro _ hw'
          obtain ⟨p3, hw''⟩ := hw'
          subst hw''
          clear ca cb cd
          have F := FIN.out p3
          have n4 := F.1.2.1.cell 4
          have l4 := F.1.2.1.free 4
          simp only [rcells, List.getElem?_toArray, List.getElem?_cons_succ, List.getElem?_cons_zero] at n4
          have F := Lib.hid F.2
          clear FIN
          unfold nextV at F
          go_wp2
          go_ret
          refine ⟨rfl, ?_⟩
          unfold stNext
          rw [E3.out]
          exact ⟨y2, _, F.out.1, F.out.2.1, F.out.2.2.1, HOW.out, F.out.2.2.2⟩
end Go.Proofs.Ytaabdmlmemmnaaa
/- The reference's Within: stores, each brought into a memory of so many bytes; for stores that lie in memory. -/
namespace Go.Proofs.Ytaabdmlmemmnaaa
open Go.RowKit Go.Shelf
set_option linter.unusedVariables false

theorem ownZ_low {w w' : World} {B s n : Nat} {e : TypeId} {v : Value} {xs : List Value} (h : w.ownsRow B e s v n xs) (hb : Below w.heap.size w w') : w'.ownsRow B e s v n xs := by
  refine ⟨h.1, ?_⟩
  rcases h.2 with h0 | ⟨g, cap, cur, rfl, hg, hh, hr⟩
  · exact .inl h0
  · refine .inr ⟨g, cap, cur, rfl, hg, (hb.block g ?_).trans hh, hr⟩
    exact (Array.getElem?_eq_some_iff.1 hh).1
theorem ownZ_mono {w : World} {B B' s n : Nat} {e : TypeId} {v : Value} {xs : List Value} (h : w.ownsRow B e s v n xs) (hb : B' ≤ B) : w.ownsRow B' e s v n xs := by
  refine ⟨h.1, ?_⟩
  rcases h.2 with h0 | ⟨g, cap, cur, rfl, hg, hr⟩
  · exact .inl h0
  · exact .inr ⟨g, cap, cur, rfl, Nat.le_trans hb hg, hr⟩
theorem ownZ_from {w : World} {B s n : Nat} {e : TypeId} {v : Value} {xs : List Value} (h : w.ownsRow B e s v n xs) : ∀ k, v.ownBlock = some k → B ≤ k ∧ k < w.heap.size := by
  intro k hk
  rcases h.2 with ⟨rfl, _⟩ | ⟨g', cap, cur, rfl, hb, hh, _⟩
  · cases hk
  · have : g' = k := by injection hk
    subst this
    exact ⟨hb, (Array.getElem?_eq_some_iff.1 hh).1⟩
/-- What the call owns of stores reads as them. -/
theorem own_ahead {w : World} {B : Nat} {v : Value} {l : List (Nat × Nat)} (h : w.ownsRow B 66 2 v l.length (flat l)) : Ahead w v l ∧ (∀ k, v.ownBlock = some k → B ≤ k ∧ k < w.heap.size) ∧ (l = [] → v.ownBlock = none → v = .slice none 0 0) := by
  refine ⟨?_, ownZ_from h, ?_⟩
  · rcases h.2 with ⟨rfl, h1⟩ | ⟨g', cap', cur', rfl, hb, hh, h2, h3, h4, h5⟩
    · have : l = [] := by
        cases l with
        | nil => rfl
        | cons a t => cases h1
      subst this
      exact Ahead.nil w
    · by_cases h0 : l = []
      · subst h0
        exact .inl ⟨rfl, _, _, rfl, h3⟩
      · refine .inr ⟨h0, g', 0, cap', rfl, by omega, h3, fun i u hu => ?_⟩
        have := h.cells rfl i u hu
        rw [Addr.add_lit] at this
        exact this
  · intro h0 hn
    rcases h.2 with ⟨rfl, h1⟩ | ⟨g', cap', cur', rfl, hb, hh, h2, h3, h4, h5⟩
    · rfl
    · cases hn
def win (size : Nat) (l : List (Nat × Nat)) : List (Nat × Nat) := l.map fun p => (p.1 % size / 8 * 8, p.2)
theorem win_length (size : Nat) (l : List (Nat × Nat)) : (win size l).length = l.length := by simp [win]
theorem Ahead.at_ {w : World} {V : Value} {l : List (Nat × Nat)} (h : Ahead w V l) {k : Nat} (hk : k < l.length) : ∃ g off cap, V = .slice (some ⟨g, off, none⟩) l.length cap ∧ w.cell? ⟨g, off + k * 2, none⟩ = some (.int .u64 (l[k].1 : Int)) ∧ w.cell? ⟨g, off + k * 2 + 1, none⟩ = some (.int .u64 (l[k].2 : Int)) := by
  rcases h with ⟨rfl, _⟩ | ⟨_, g, off, cap, rfl, h1, h2, h3⟩
  · simp at hk
  · have := flat_get l k hk
    refine ⟨g, off, cap, rfl, ?_, ?_⟩
    · have := h3 (2 * k) _ this.1
      rw [show off + k * 2 = off + 2 * k from by omega]
      exact this
    · have := h3 (2 * k + 1) _ this.2
      rw [show off + k * 2 + 1 = off + (2 * k + 1) from by omega]
      exact this
/-- A slice that reads as these stores, wherever it lies. -/
def Reads (w : World) (V : Value) (l : List (Nat × Nat)) : Prop := ∃ A cap, V = .slice A l.length cap ∧ l.length ≤ cap ∧ cap ≤ maxLen ∧ ∀ k (hk : k < l.length), ∃ a, A = some a ∧ w.cell? (a.add (k * 2)) = some (.int .u64 (l[k].1 : Int)) ∧ w.cell? (a.add (k * 2 + 1)) = some (.int .u64 (l[k].2 : Int))
theorem Reads.below {w w' : World} {V : Value} {l : List (Nat × Nat)} (h : Reads w V l) (hb : Below w.heap.size w w') : Reads w' V l := by
  obtain ⟨A, cap, rfl, h1, h2, h3⟩ := h
  refine ⟨A, cap, rfl, h1, h2, fun k hk => ?_⟩
  obtain ⟨a, ha, e0, e1⟩ := h3 k hk
  exact ⟨a, ha, (hb.cell (block_lt_of_cell e0)).trans e0, (hb.cell (block_lt_of_cell e1)).trans e1⟩
theorem Ahead.reads {w : World} {V : Value} {l : List (Nat × Nat)} (h : Ahead w V l) : Reads w V l := by
  obtain ⟨A, cap, rfl, h1, h2⟩ := h.len
  refine ⟨A, cap, rfl, h1, h2, fun k hk => ?_⟩
  obtain ⟨g, off, cap', he, e0, e1⟩ := h.at_ hk
  injection he with he _ _
  exact ⟨_, he, by rw [Addr.add_lit]; exact e0, by rw [Addr.add_lit, show off + (k * 2 + 1) = off + k * 2 + 1 from by omega]; exact e1⟩
/-- Where its loop stands. -/
def WinR (w : World) (size : Nat) (l : List (Nat × Nat)) (o i : Value) (wr : World) : Prop := ∃ k : Nat, k ≤ l.length ∧ i = .int .i64 (k : Int) ∧ wr.ownsRow w.heap.size 66 2 o k (flat ((win size l).take k)) ∧ Below w.heap.size w wr ∧ (k = 0 → o = .slice none 0 0)
end Go.Proofs.Ytaabdmlmemmnaaa
