/- A run's step, of whatever it is to do next; of no run, a zero one, one that is done, no memory, no client. -/
import Derived.Test.YtgapncamnmngeaaRnA
import Derived.BigQuiet
import Derived.Test.YtgapncamnmngeaaRnL
namespace Go.Proofs.Ytgapncamnmngeaa
open Go.RowKit Go.Shelf
set_option linter.unusedVariables false
attribute [local go_sem] Oper.semAt_some
theorem eqFnR (w : World) (g : Nat) (fi lb : Array Value) : (binOp .eql 64 (.func (.func g) fi lb) .nilFunc).run Try.prog w = .ok (.bool false) w := by kernel_rfl
theorem guardFnR (w : World) (g : Nat) (fi lb : Array Value) (x : Operand) : (eqGuard .eql 64 x (.const .nilFunc) (.func (.func g) fi lb) .nilFunc).run Try.prog w = .ok () w := by kernel_rfl
theorem eqNilR (w : World) : (binOp .eql 64 .nilFunc .nilFunc).run Try.prog w = .ok (.bool true) w := by kernel_rfl
theorem guardNilR (w : World) (x : Operand) : (eqGuard .eql 64 x (.const .nilFunc) .nilFunc .nilFunc).run Try.prog w = .ok () w := by kernel_rfl
/-- A run's cells. -/
def rcells (p : Option Addr) (c : Int) (V : Value) (line : Int) (F : Value) (d : Bool) (k : Int) : Array Value := #[.pointer p, .int .i64 c, V, .int .u64 line, F, .bool d, .int .i64 k]
/-- What is to be done next, by its function. -/
def nextV (f rg : Nat) : Value := .func (.func f) #[.pointer (some ⟨rg, 0, none⟩)] #[]
def Ph.no : Ph → Nat
  | .st => 30
  | .fl => 46
  | .fe => 51
  | .en => 31
theorem Ph.fn_no (ph : Ph) (rg : Nat) : ph.fn rg = nextV ph.no rg := by cases ph <;> rfl
theorem RunAt.cells {w : World} {rg : Nat} {p : Option Addr} {r : RS} {V : Value} (h : RunAt w rg p r V) : Row w rg 66 (rcells p r.c V r.line (nextV r.ph.no rg) r.done r.code) := by
  have := h.row
  rw [Ph.fn_no] at this
  exact this
theorem rstep_nil (w : World) : Calls Try.prog 16 #[.pointer none] w fun e w' => e = .returned (.tuple #[.bool true, .int .i64 1]) ∧ w = w' := by
  go_enter Try.func16, Try.ntmps16
  go_wp2
  go_ret2
  exact ⟨rfl, rfl⟩
theorem rstep_zero {w : World} {g : Nat} {cs : Array Value} (hr : Row w g 66 cs) (h5 : cs[4]? = some .nilFunc) : Calls Try.prog 16 #[.pointer (some ⟨g, 0, none⟩)] w fun e w' => e = .returned (.tuple #[.bool true, .int .i64 1]) ∧ w = w' := by
  have c5 := hr.cell 4
  rw [h5] at c5
  have q1 := fun w => eqNilR w
  have q2 := fun w => guardNilR w (.tmp 19)
  clear hr h5
  go_enter Try.func16, Try.ntmps16
  go_wp2
  go_ret2
  exact ⟨rfl, rfl⟩
set_option maxRecDepth 100000 in
set_option maxHeartbeats 1600000 in
theorem rstep_done {w : World} {p : Option Addr} {c line code : Int} {V : Value} {f rg : Nat} (hr : Row w rg 66 (rcells p c V line (nextV f rg) true code)) :
    Calls Try.prog 16 #[.pointer (some ⟨rg, 0, none⟩)] w fun e w' => e = .returned (.tuple #[.bool true, .int .i64 code]) ∧ Below w.heap.size w w' := by
  have mixed : Try.prog.follows .mixedOrders = true := by kernel_rfl
  have c4 := hr.cell 4
  have c5 := hr.cell 5
  have c6 := hr.cell 6
  simp only [rcells, List.getElem?_toArray, List.getElem?_cons_succ, List.getElem?_cons_zero] at c4 c5 c6
  unfold nextV at c4
  have q1 := fun w => eqFnR w f #[.pointer (some ⟨rg, 0, none⟩)] #[]
  have q2 := fun w => guardFnR w f #[.pointer (some ⟨rg, 0, none⟩)] #[] (.tmp 19)
  have ca := fun p : LowBy w => p.cell c6
  clear hr
  go_enter Try.func16, Try.ntmps16
  go_wp2_with fail
  refine wp_region_quiet_low (by assumption) (by kernel_rfl) ?_
  repeat (go_big_quiet_step (fail))
  refine wpQuiet_nil ?_
  intro _ hw'
  obtain ⟨p, hw''⟩ := hw'
  subst hw''
  have hp := Lib.hid p.low
  clear ca
  go_wp2
  go_ret2
  exact ⟨rfl, hp.out⟩
/-- What a step makes of the world behind its function's call. -/
def rstepW (w1 : World) (rg : Nat) (d : Bool) (k : Int) : World := (w1.setCell ⟨rg, 6, none⟩ (.int .i64 k)).setCell ⟨rg, 5, none⟩ (.bool d)
def RStepPost (P : World → Prop) (rg : Nat) (d : Bool) (k : Int) (e : Ending) (w' : World) : Prop := e = .returned (.tuple #[.bool d, .int .i64 k]) ∧ ∃ w1, P w1 ∧ Below (rstepW w1 rg d k).heap.size (rstepW w1 rg d k) w'
set_option maxRecDepth 100000 in
set_option maxHeartbeats 1600000 in
theorem rstep_of {w : World} {p : Option Addr} {c line code k z : Int} {V : Value} {f rg : Nat} {d D : Bool} {P : World → Prop}
    (hcall : ∀ (w : World) (v : Value), (callFunc f #[v]).run Try.prog w = .ok (.enter f #[v]) w) (hr : Row w rg 66 (rcells p c V line (nextV f rg) false code))
    (hc0 : 0 ≤ c) (hc1 : c ≤ 64) (hz : z ≠ 0) (hk : d = true → k = 0) (hD : (d || !(k == 0)) = D)
    (HS : Calls Try.prog 33 #[.pointer p] w fun e w' => e = .returned (.int .i64 z) ∧ w = w')
    (H : Calls Try.prog f #[.pointer (some ⟨rg, 0, none⟩)] w fun e w' => e = .returned (.int .i64 k) ∧ (∃ V' line' f', Row w' rg 66 (rcells p c V' line' (nextV f' rg) d code)) ∧ P w') :
    Calls Try.prog 16 #[.pointer (some ⟨rg, 0, none⟩)] w (RStepPost P rg D k) := by
  have mixed : Try.prog.follows .mixedOrders = true := by kernel_rfl
  have c0 := hr.cell 0
  have c1 := hr.cell 1
  have c4 := hr.cell 4
  have c5 := hr.cell 5
  simp only [rcells, List.getElem?_toArray, List.getElem?_cons_succ, List.getElem?_cons_zero] at c0 c1 c4 c5
  unfold nextV at c4
  have q1 := fun w => eqFnR w f #[.pointer (some ⟨rg, 0, none⟩)] #[]
  have q2 := fun w => guardFnR w f #[.pointer (some ⟨rg, 0, none⟩)] #[] (.tmp 19)
  have H := Lib.hid H
  have HS := Lib.hid HS
  have z0 : (z == 0) = false := by rw [beq_eq_false_iff_ne]; exact hz
  have z1 : decide (c < 0) = false := by rw [decide_eq_false_iff_not]; omega
  have z2 : decide (64 < c) = false := by rw [decide_eq_false_iff_not]; omega
  clear hr
  go_enter Try.func16, Try.ntmps16
  go_wp2_with fail
  refine HS.out.mono ?_
  rintro e w1 ⟨rfl, rfl⟩
  go_wp2_with fail
  refine H.out.mono ?_
  rintro e w1 ⟨rfl, ⟨V', line', f', hr1⟩, hp⟩
  have d5 := hr1.cell 5
  have d6 := hr1.cell 6
  simp only [rcells, List.getElem?_toArray, List.getElem?_cons_succ, List.getElem?_cons_zero] at d5 d6
  have g5 := hr1.free 5
  have g6 := hr1.free 6
  have HP := Lib.hid hp
  have HR := Lib.hid hr1
  clear hp hr1 c0 c1 c4 c5 q1 q2 H HS
  cases d with
  | true =>
    have hk0 := hk rfl
    subst hk0
    obtain rfl : D = true := by rw [← hD]; rfl
    go_wp2_with fail
    obtain ⟨W2, hW2⟩ : ∃ W2, W2 = (w1.setCell ⟨rg, 6, none⟩ (.int .i64 0)).setCell ⟨rg, 5, none⟩ (.bool true) := ⟨_, rfl⟩
    rw [← hW2]
    have hrw : Row W2 rg 66 (((rcells p c V' line' (nextV f' rg) true code).setIfInBounds 6 (.int .i64 0)).setIfInBounds 5 (.bool true)) := by rw [hW2]; exact (HR.out.set 6 _).set 5 _
    have k5 := hrw.cell 5
    have k6 := hrw.cell 6
    simp only [rcells, List.setIfInBounds_toArray, List.set_cons_succ, List.set_cons_zero, List.getElem?_toArray, List.getElem?_cons_succ, List.getElem?_cons_zero] at k5 k6
    have ca := fun p : LowBy W2 => p.cell k5
    have cb := fun p : LowBy W2 => p.cell k6
    have HW := Lib.hid hW2
    clear hrw k5 k6 hW2 d5 d6 g5 g6
    refine wp_region_quiet_low (by assumption) (by kernel_rfl) ?_
    repeat (go_big_quiet_step (fail))
    refine wpQuiet_nil ?_
    intro _ hw'
    obtain ⟨p, hw''⟩ := hw'
    subst hw''
    have hp := Lib.hid p.low
    clear ca cb
    go_wp2
    go_ret2
    exact ⟨by rfl, w1, HP.out, by unfold rstepW; rw [← HW.out]; exact hp.out⟩
  | false =>
    by_cases hk0 : k = 0
    · subst hk0
      obtain rfl : D = false := by rw [← hD]; rfl
      go_wp2_with fail
      obtain ⟨W2, hW2⟩ : ∃ W2, W2 = (w1.setCell ⟨rg, 6, none⟩ (.int .i64 0)).setCell ⟨rg, 5, none⟩ (.bool false) := ⟨_, rfl⟩
      rw [← hW2]
      have hrw : Row W2 rg 66 (((rcells p c V' line' (nextV f' rg) false code).setIfInBounds 6 (.int .i64 0)).setIfInBounds 5 (.bool false)) := by rw [hW2]; exact (HR.out.set 6 _).set 5 _
      have k5 := hrw.cell 5
      have k6 := hrw.cell 6
      simp only [rcells, List.setIfInBounds_toArray, List.set_cons_succ, List.set_cons_zero, List.getElem?_toArray, List.getElem?_cons_succ, List.getElem?_cons_zero] at k5 k6
      have ca := fun p : LowBy W2 => p.cell k5
      have cb := fun p : LowBy W2 => p.cell k6
      have HW := Lib.hid hW2
      clear hrw k5 k6 hW2 d5 d6 g5 g6
      refine wp_region_quiet_low (by assumption) (by kernel_rfl) ?_
      repeat (go_big_quiet_step (fail))
      refine wpQuiet_nil ?_
      intro _ hw'
      obtain ⟨p, hw''⟩ := hw'
      subst hw''
      have hp := Lib.hid p.low
      clear ca cb
      go_wp2
      go_ret2
      exact ⟨by rfl, w1, HP.out, by unfold rstepW; rw [← HW.out]; exact hp.out⟩
    · have hk1 : (k == 0) = false := by rw [beq_eq_false_iff_ne]; exact hk0
      obtain rfl : D = true := by rw [← hD, hk1]; rfl
      clear hD
      have hk2 : (k != 0) = true := by simp [bne, hk1]
      go_wp2_with fail
      obtain ⟨W2, hW2⟩ : ∃ W2, W2 = (w1.setCell ⟨rg, 6, none⟩ (.int .i64 k)).setCell ⟨rg, 5, none⟩ (.bool true) := ⟨_, rfl⟩
      rw [← hW2]
      have hrw : Row W2 rg 66 (((rcells p c V' line' (nextV f' rg) false code).setIfInBounds 6 (.int .i64 k)).setIfInBounds 5 (.bool true)) := by rw [hW2]; exact (HR.out.set 6 _).set 5 _
      have k5 := hrw.cell 5
      have k6 := hrw.cell 6
      simp only [rcells, List.setIfInBounds_toArray, List.set_cons_succ, List.set_cons_zero, List.getElem?_toArray, List.getElem?_cons_succ, List.getElem?_cons_zero] at k5 k6
      have ca := fun p : LowBy W2 => p.cell k5
      have cb := fun p : LowBy W2 => p.cell k6
      have HW := Lib.hid hW2
      clear hrw k5 k6 hW2 d5 d6 g5 g6
      refine wp_region_quiet_low (by assumption) (by kernel_rfl) ?_
      repeat (go_big_quiet_step (fail))
      refine wpQuiet_nil ?_
      intro _ hw'
      obtain ⟨p, hw''⟩ := hw'
      subst hw''
      have hp := Lib.hid p.low
      clear ca cb
      go_wp2
      go_ret2
      exact ⟨by rfl, w1, HP.out, by unfold rstepW; rw [← HW.out]; exact hp.out⟩
end Go.Proofs.Ytgapncamnmngeaa
