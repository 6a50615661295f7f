/- Texts of this claim, packed: RnS, SnB, SnR, SnE, RnE. -/
import Derived.Test.YteojhhfcfdkmdaaPm25
import Derived.Test.YteojhhfcfdkmdaaPm09
import Derived.Test.YteojhhfcfdkmdaaPm13
import Derived.Test.YteojhhfcfdkmdaaPm26
import Derived.Test.YteojhhfcfdkmdaaPm05
import Derived.Test.YteojhhfcfdkmdaaPm10
import Derived.BigQuiet
set_option linter.unusedSimpArgs false
set_option linter.unusedVariables false
/- A run's step, of whatever it is to do next; of no run, a zero one, one that is done, no memory, no client. -/
namespace Go.Proofs.Yteojhhfcfdkmdaa
open Go.RowKit Go.Shelf
set_option linter.unusedVariables false
attribute [local go_sem] Oper.semAt_some
theorem eqFnR (w : World) (g : Nat) (fi lb : Array Value) : (binOp .eql 73 (.func (.func g) fi lb) .nilFunc).run Try.prog w = .ok (.bool false) w := by kernel_rfl
theorem guardFnR (w : World) (g : Nat) (fi lb : Array Value) (x : Operand) : (eqGuard .eql 73 x (.const .nilFunc) (.func (.func g) fi lb) .nilFunc).run Try.prog w = .ok () w := by kernel_rfl
theorem eqNilR (w : World) : (binOp .eql 73 .nilFunc .nilFunc).run Try.prog w = .ok (.bool true) w := by kernel_rfl
theorem guardNilR (w : World) (x : Operand) : (eqGuard .eql 73 x (.const .nilFunc) .nilFunc .nilFunc).run Try.prog w = .ok () w := by kernel_rfl
/-- A run's cells. -/
def rcells (p : Option Addr) (c : Int) (V : Value) (line : Int) (F : Value) (d : Bool) (k : Int) : Array Value := #[.pointer p, .int .i64 c, V, .int .u64 line, F, .bool d, .int .i64 k]
/-- What is to be done next, by its function. -/
def nextV (f rg : Nat) : Value := .func (.func f) #[.pointer (some ⟨rg, 0, none⟩)] #[]
def Ph.no : Ph → Nat
  | .st => 50
  | .fl => 72
  | .fe => 84
  | .en => 51
theorem Ph.fn_no (ph : Ph) (rg : Nat) : ph.fn rg = nextV ph.no rg := by cases ph <;> rfl -- of 51
theorem RunAt.cells {w : World} {rg : Nat} {p : Option Addr} {r : RnRS} {V : Value} (h : RunAt w rg p r V) : Row w rg 113 (rcells p r.c V r.line (nextV r.ph.no rg) r.done r.code) := by
  have := h.row
  rw [Ph.fn_no] at this
  exact this
theorem rstep_nil (w : World) : Calls Try.prog 27 #[.pointer none] w fun e w' => e = .returned (.tuple #[.bool true, .int .i64 1]) ∧ w = w' := by
  go_enter Try.func27, Try.ntmps27
  go_wp2
  go_ret2
  exact ⟨rfl, rfl⟩
theorem rstep_zero {w : World} {g : Nat} {cs : Array Value} (hr : Row w g 113 cs) (h5 : cs[4]? = some .nilFunc) : Calls Try.prog 27 #[.pointer (some ⟨g, 0, none⟩)] w fun e w' => e = .returned (.tuple #[.bool true, .int .i64 1]) ∧ w = w' := by
  have c5 := hr.cell 4
  rw [h5] at c5
  have q1 := fun w => eqNilR w
  have q2 := fun w => guardNilR w (.tmp 19)
  clear hr h5
  go_enter Try.func27, Try.ntmps27
  go_wp2
  go_ret2
  exact ⟨rfl, rfl⟩
set_option maxRecDepth 100000 in
set_option maxHeartbeats 1600000 in
theorem rstep_done {w : World} {p : Option Addr} {c line code : Int} {V : Value} {f rg : Nat} (hr : Row w rg 113 (rcells p c V line (nextV f rg) true code)) :
    Calls Try.prog 27 #[.pointer (some ⟨rg, 0, none⟩)] w fun e w' => e = .returned (.tuple #[.bool true, .int .i64 code]) ∧ Below w.heap.size w w' := by
  have mixed : Try.prog.follows .mixedOrders = true := by kernel_rfl
  have c4 := hr.cell 4
  have c5 := hr.cell 5
  have c6 := hr.cell 6
  simp only [rcells, List.getElem?_toArray, List.getElem?_cons_succ, List.getElem?_cons_zero] at c4 c5 c6
  unfold nextV at c4
  have q1 := fun w => eqFnR w f #[.pointer (some ⟨rg, 0, none⟩)] #[]
  have q2 := fun w => guardFnR w f #[.pointer (some ⟨rg, 0, none⟩)] #[] (.tmp 19)
  have ca := fun p : LowBy w => p.cell c6
  clear hr
  go_enter Try.func27, Try.ntmps27
  go_wp2_with fail
  refine wp_region_quiet_low (by assumption) (by kernel_rfl) ?_
  repeat (go_big_quiet_step (fail))
  refine wpQuiet_nil ?_
  intro _ hw'
  obtain ⟨p, hw''⟩ := hw'
  subst hw''
  have hp := Lib.hid p.low
  clear ca
  go_wp2
  go_ret2
  exact ⟨rfl, hp.out⟩
/-- What a step makes of the world behind its function's call. -/
def rstepW (w1 : World) (rg : Nat) (d : Bool) (k : Int) : World := (w1.setCell ⟨rg, 6, none⟩ (.int .i64 k)).setCell ⟨rg, 5, none⟩ (.bool d)
def RStepPost (P : World → Prop) (rg : Nat) (d : Bool) (k : Int) (e : Ending) (w' : World) : Prop := e = .returned (.tuple #[.bool d, .int .i64 k]) ∧ ∃ w1, P w1 ∧ Below (rstepW w1 rg d k).heap.size (rstepW w1 rg d k) w'
set_option maxRecDepth 100000 in
set_option maxHeartbeats 1600000 in
theorem rstep_of {w : World} {p : Option Addr} {c line code k z : Int} {V : Value} {f rg : Nat} {d D : Bool} {P : World → Prop}
    (hcall : ∀ (w : World) (v : Value), (callFunc f #[v]).run Try.prog w = .ok (.enter f #[v]) w) (hr : Row w rg 113 (rcells p c V line (nextV f rg) false code))
    (hc0 : 0 ≤ c) (hc1 : c ≤ 64) (hz : z ≠ 0) (hk : d = true → k = 0) (hD : (d || !(k == 0)) = D)
    (HS : Calls Try.prog 52 #[.pointer p] w fun e w' => e = .returned (.int .i64 z) ∧ w = w')
    (H : Calls Try.prog f #[.pointer (some ⟨rg, 0, none⟩)] w fun e w' => e = .returned (.int .i64 k) ∧ (∃ V' line' f', Row w' rg 113 (rcells p c V' line' (nextV f' rg) d code)) ∧ P w') :
    Calls Try.prog 27 #[.pointer (some ⟨rg, 0, none⟩)] w (RStepPost P rg D k) := by
  have mixed : Try.prog.follows .mixedOrders = true := by kernel_rfl
  have c0 := hr.cell 0
  have c1 := hr.cell 1
  have c4 := hr.cell 4
  have c5 := hr.cell 5
  simp only [rcells, List.getElem?_toArray, List.getElem?_cons_succ, List.getElem?_cons_zero] at c0 c1 c4 c5
  unfold nextV at c4
  have q1 := fun w => eqFnR w f #[.pointer (some ⟨rg, 0, none⟩)] #[]
  have q2 := fun w => guardFnR w f #[.pointer (some ⟨rg, 0, none⟩)] #[] (.tmp 19)
  have H := Lib.hid H
  have HS := Lib.hid HS
  have z0 : (z == 0) = false := by rw [beq_eq_false_iff_ne]; exact hz
  have z1 : decide (c < 0) = false := by rw [decide_eq_false_iff_not]; omega
  have z2 : decide (64 < c) = false := by rw [decide_eq_false_iff_not]; omega
  clear hr
  go_enter Try.func27, Try.ntmps27
  go_wp2_with fail
  refine HS.out.mono ?_
  rintro e w1 ⟨rfl, rfl⟩
  go_wp2_with fail
  refine H.out.mono ?_
  rintro e w1 ⟨rfl, ⟨V', line', f', hr1⟩, hp⟩
  have d5 := hr1.cell 5
  have d6 := hr1.cell 6
  simp only [rcells, List.getElem?_toArray, List.getElem?_cons_succ, List.getElem?_cons_zero] at d5 d6
  have g5 := hr1.free 5
  have g6 := hr1.free 6
  have HP := Lib.hid hp
  have HR := Lib.hid hr1
  clear hp hr1 c0 c1 c4 c5 q1 q2 H HS
  cases d with
  | true =>
    have hk0 := hk rfl
    subst hk0
    obtain rfl : D = true := by rw [← hD]; rfl
    go_wp2_with fail
    obtain ⟨W2, hW2⟩ : ∃ W2, W2 = (w1.setCell ⟨rg, 6, none⟩ (.int .i64 0)).setCell ⟨rg, 5, none⟩ (.bool true) := ⟨_, rfl⟩
    rw [← hW2]
    have hrw : Row W2 rg 113 (((rcells p c V' line' (nextV f' rg) true code).setIfInBounds 6 (.int .i64 0)).setIfInBounds 5 (.bool true)) := by rw [hW2]; exact (HR.out.set 6 _).set 5 _
    have k5 := hrw.cell 5
    have k6 := hrw.cell 6
    simp only [rcells, List.setIfInBounds_toArray, List.set_cons_succ, List.set_cons_zero, List.getElem?_toArray, List.getElem?_cons_succ, List.getElem?_cons_zero] at k5 k6
    have ca := fun p : LowBy W2 => p.cell k5
    have cb := fun p : LowBy W2 => p.cell k6
    have HW := Lib.hid hW2
    clear hrw k5 k6 hW2 d5 d6 g5 g6
    refine wp_region_quiet_low (by assumption) (by kernel_rfl) ?_
    repeat (go_big_quiet_step (fail))
    refine wpQuiet_nil ?_
    intro _ hw'
    obtain ⟨p, hw''⟩ := hw'
    subst hw''
    have hp := Lib.hid p.low
    clear ca cb
    go_wp2
    go_ret2
    exact ⟨by rfl, w1, HP.out, by unfold rstepW; rw [← HW.out]; exact hp.out⟩
  | false =>
    by_cases hk0 : k = 0
    · subst hk0
      obtain rfl : D = false := by rw [← hD]; rfl
      go_wp2_with fail
      obtain ⟨W2, hW2⟩ : ∃ W2, W2 = (w1.setCell ⟨rg, 6, none⟩ (.int .i64 0)).setCell ⟨rg, 5, none⟩ (.bool false) := ⟨_, rfl⟩
      rw [← hW2]
      have hrw : Row W2 rg 113 (((rcells p c V' line' (nextV f' rg) false code).setIfInBounds 6 (.int .i64 0)).setIfInBounds 5 (.bool false)) := by rw [hW2]; exact (HR.out.set 6 _).set 5 _
      have k5 := hrw.cell 5
      have k6 := hrw.cell 6
      simp only [rcells, List.setIfInBounds_toArray, List.set_cons_succ, List.set_cons_zero, List.getElem?_toArray, List.getElem?_cons_succ, List.getElem?_cons_zero] at k5 k6
      have ca := fun p : LowBy W2 => p.cell k5
      have cb := fun p : LowBy W2 => p.cell k6
      have HW := Lib.hid hW2
      clear hrw k5 k6 hW2 d5 d6 g5 g6
      refine wp_region_quiet_low (by assumption) (by kernel_rfl) ?_
      repeat (go_big_quiet_step (fail))
      refine wpQuiet_nil ?_
      intro _ hw'
      obtain ⟨p, hw''⟩ := hw'
      subst hw''
      have hp := Lib.hid p.low
      clear ca cb
      go_wp2
      go_ret2
      exact ⟨by rfl, w1, HP.out, by unfold rstepW; rw [← HW.out]; exact hp.out⟩
    · have hk1 : (k == 0) = false := by rw [beq_eq_false_iff_ne]; exact hk0
      obtain rfl : D = true := by rw [← hD, hk1]; rfl
      clear hD
      have hk2 : (k != 0) = true := by simp [bne, hk1]
      go_wp2_with fail
      obtain ⟨W2, hW2⟩ : ∃ W2, W2 = (w1.setCell ⟨rg, 6, none⟩ (.int .i64 k)).setCell ⟨rg, 5, none⟩ (.bool true) := ⟨_, rfl⟩
      rw [← hW2]
      have hrw : Row W2 rg 113 (((rcells p c V' line' (nextV f' rg) false code).setIfInBounds 6 (.int .i64 k)).setIfInBounds 5 (.bool true)) := by rw [hW2]; exact (HR.out.set 6 _).set 5 _
      have k5 := hrw.cell 5
      have k6 := hrw.cell 6
      simp only [rcells, List.setIfInBounds_toArray, List.set_cons_succ, List.set_cons_zero, List.getElem?_toArray, List.getElem?_cons_succ, List.getElem?_cons_zero] at k5 k6
      have ca := fun p : LowBy W2 => p.cell k5
      have cb := fun p : LowBy W2 => p.cell k6
      have HW := Lib.hid hW2
      clear hrw k5 k6 hW2 d5 d6 g5 g6
      refine wp_region_quiet_low (by assumption) (by kernel_rfl) ?_
      repeat (go_big_quiet_step (fail))
      refine wpQuiet_nil ?_
      intro _ hw'
      obtain ⟨p, hw''⟩ := hw'
      subst hw''
      have hp := Lib.hid p.low
      clear ca cb
      go_wp2
      go_ret2
      exact ⟨by rfl, w1, HP.out, by unfold rstepW; rw [← HW.out]; exact hp.out⟩
end Go.Proofs.Yteojhhfcfdkmdaa
/- What a snapshot's steps do: the first Count; for whatever the load answers. -/
namespace Go.Proofs.Yteojhhfcfdkmdaa
open Go.RowKit
set_option linter.unusedVariables false
attribute [local go_sem] Oper.semAt_some
/-- What a step's function leaves. -/
def FPost (g : Nat) (P : World → Prop) (k : Int) (R : Array Value → Prop) (e : Ending) (w' : World) : Prop := e = .returned (.int .i64 k) ∧ ∃ w1 cs', P w1 ∧ R cs' ∧ SnSw w1 w' g cs'
/-- What a load leaves beside its answer. -/
def LQ (g : Nat) (cs : Array Value) (P : World → Prop) (w' : World) : Prop := Row w' g 80 cs ∧ P w'
/-- The readings behind the first Count. -/
def rBeg (v : Int) : Nat → Int := fun j => if j = 3 then v else 0
def vBeg (v : Int) : List Value := uw 0 :: uw 0 :: uw 0 :: uw v :: List.replicate 44 (uw 0)
theorem vBeg_len (v : Int) : (vBeg v).length = 48 := rfl
theorem vBeg_at (v : Int) (j : Nat) (hj : j < 48) : (vBeg v)[j]? = some (.int .u64 (rBeg v j)) := by
  unfold vBeg rBeg
  match j with
  | 0 => rfl
  | 1 => rfl
  | 2 => rfl
  | 3 => rfl
  | j + 4 =>
    rw [if_neg (by omega)]
    simp only [List.getElem?_cons_succ]
    rw [List.getElem?_replicate, if_pos (by omega)]
theorem vBeg_one (v : Int) : (vBeg v).toArray.all (·.oneCell') = true := all_oneCell_toArray fun u hu => by
  simp only [vBeg, List.mem_cons, List.mem_replicate] at hu
  rcases hu with rfl | rfl | rfl | rfl | ⟨_, rfl⟩ <;> rfl
theorem rowThere {w : World} {g : Nat} {t : TypeId} {cs : Array Value} (h : Row w g t cs) {o n : Nat} (hn : o + n ≤ cs.size) : w.there g o n := fun j hj => ⟨by rw [h.cell, Array.getElem?_eq_getElem (by omega)]; rfl, h.free _⟩
theorem r2I : (Try.prog.info? 78).map (·.size) = some 48 := by kernel_rfl
set_option maxRecDepth 100000 in
set_option maxHeartbeats 3200000 in
theorem snBegin_any {w : World} {g a : Nat} {cs : Array Value} {p : Option Addr} {F : Value} {d : Bool} {k wh wd lo v kk : Int} {r : Nat → Int} {n : Nd} {P : World → Prop}
    (hr : Row w g 80 cs) (hs : IsS cs p F d k a r wh wd lo n) (ha : a < 18446744073709551616)
    (HL : ∀ W, Below w.heap.size w W → Calls Try.prog 30 #[.pointer p, .int .u64 ((snWordAt a 3 : Nat) : Int)] W fun e' w' => e' = .returned (.tuple #[.int .u64 v, .int .i64 kk]) ∧ LQ g cs P w') :
    Calls Try.prog 28 #[.pointer (some ⟨g, 0, none⟩)] w (FPost g P kk (fun cs' => IsS cs' p (nextV 54 g) d k a (rBeg v) 0 0 lo n)) := by
  have mixed : Try.prog.follows .mixedOrders = true := by kernel_rfl
  have c0 := (hr.cell 0).trans hs.c0
  have c4 := (hr.cell 4).trans hs.c4
  have HDR := Lib.hid (drew_below w)
  have STAY := Lib.hid (show ∀ W, Below w.heap.size w W → W.cell? ⟨g, 4, none⟩ = some (.int .u64 (a : Int)) from fun W hb => (hr.below hb hr.lt).cell 4 |>.trans hs.c4)
  have STQ := Lib.hid (show ∀ W, Row W g 80 cs → W.cell? ⟨g, 4, none⟩ = some (.int .u64 (a : Int)) from fun W h => (h.cell 4).trans hs.c4)
  have HM := Lib.hid (macLoad_any (k := 3) ((drew_below w).cell (block_lt_of_cell c0) |>.trans c0) ha (by decide) (HL _ (drew_below w)))
  have HS := Lib.hid hs
  clear hr hs HL c0 c4 ha mixed
  go_enter Try.func28, Try.ntmps28
  go_wp2_with fail
  refine wp_region_held_drew (S := fun W' => W'.cell? ⟨g, 4, none⟩ = some (.int .u64 (a : Int))) (by kernel_rfl) (STAY.out _ HDR.out) (fun hHeld => ?_)
  refine wpAnyH_take (i := 0) (oi := ⟨some 6, _, _, _, _, _⟩) (v := .pointer (some ⟨g, 0, none⟩)) rfl (by kernel_rfl) (by kernel_rfl) (by kernel_rfl) (fun _ _ _ h => h) (Or.inl ⟨by rfl, by intro WW hSw; (try dsimp only at hSw); go_simp⟩) (by assumption) ?_
  (try simp only [Act.put, List.setIfInBounds_toArray, List.set_cons_zero, List.set_cons_succ])
  refine wpAnyH_take (i := 1) (oi := ⟨some 7, _, _, _, _, _⟩) (v := .pointer (some ⟨g, 0, none⟩)) rfl (by kernel_rfl) (by kernel_rfl) (by kernel_rfl) (fun _ _ _ h => h) (Or.inl ⟨by rfl, by intro WW hSw; (try dsimp only at hSw); go_simp⟩) (by assumption) ?_
  (try simp only [Act.put, List.setIfInBounds_toArray, List.set_cons_zero, List.set_cons_succ])
  refine wpAnyH_take (i := 2) (oi := ⟨some 8, _, _, _, _, _⟩) (v := .pointer (some ⟨g, 0, none⟩)) rfl (by kernel_rfl) (by kernel_rfl) (by kernel_rfl) (fun _ _ _ h => h) (Or.inl ⟨by rfl, by intro WW hSw; (try dsimp only at hSw); go_simp⟩) (by assumption) ?_
  (try simp only [Act.put, List.setIfInBounds_toArray, List.set_cons_zero, List.set_cons_succ])
  refine wpAnyH_take (i := 3) (oi := ⟨some 9, _, _, _, _, _⟩) (v := .pointer (some ⟨g, 0, none⟩)) rfl (by kernel_rfl) (by kernel_rfl) (by kernel_rfl) (fun _ _ _ h => h) (Or.inl ⟨by rfl, by intro WW hSw; (try dsimp only at hSw); go_simp⟩) (by assumption) ?_
  (try simp only [Act.put, List.setIfInBounds_toArray, List.set_cons_zero, List.set_cons_succ])
  refine wpAnyH_take (i := 4) (oi := ⟨some 10, _, _, _, _, _⟩) (v := .pointer (some ⟨g, 0, none⟩)) rfl (by kernel_rfl) (by kernel_rfl) (by kernel_rfl) (fun _ _ _ h => h) (Or.inl ⟨by rfl, by intro WW hSw; (try dsimp only at hSw); go_simp⟩) (by assumption) ?_
  (try simp only [Act.put, List.setIfInBounds_toArray, List.set_cons_zero, List.set_cons_succ])
  refine wpAnyH_take (i := 5) (oi := ⟨some 11, _, _, _, _, _⟩) (v := .pointer (some ⟨g, 4, none⟩)) rfl (by kernel_rfl) (by kernel_rfl) (by kernel_rfl) (fun _ _ _ h => h) (Or.inl ⟨by rfl, by intro WW hSw; (try dsimp only at hSw); go_simp⟩) (by assumption) ?_
  (try simp only [Act.put, List.setIfInBounds_toArray, List.set_cons_zero, List.set_cons_succ])
  refine wpAnyH_take (i := 6) (oi := ⟨some 12, _, _, _, _, _⟩) (v := .int .u64 (a : Int)) rfl (by kernel_rfl) (by kernel_rfl) (by kernel_rfl) (fun _ _ _ h => h) (Or.inl ⟨by rfl, by intro WW hSw; (try dsimp only at hSw); go_simp⟩) (by assumption) ?_
  (try simp only [Act.put, List.setIfInBounds_toArray, List.set_cons_zero, List.set_cons_succ])
  refine wpAnyH_one (i := 7) (oi := ⟨some 13, _, _, _, _, _⟩) rfl (by kernel_rfl) (fun K hK => ?_)
  refine step_calls (by rfl) 53 (fun args w => Try.call53 _ _) [.tmp 8, .tmp 12, .const (.int .i64 3)] _ rfl [.pointer (some ⟨g, 0, none⟩), .int .u64 (a : Int), .int .i64 3] rfl (HM.out) ?_
  rintro e w2 ⟨rfl, hq, hp⟩
  have HQ := Lib.hid hq
  have HP := Lib.hid hp
  clear hq hp HM
  refine ⟨_, rfl, hK _ _ (STQ.out _ HQ.out) (fun hSn => ?_)⟩
  clear hK K
  (try simp only [Act.put, List.setIfInBounds_toArray, List.set_cons_zero, List.set_cons_succ])
  refine wpAnyH_take (i := 8) (oi := ⟨some 5, _, _, _, _, _⟩) (v := .tuple #[.int .u64 v, .int .i64 kk]) rfl (by kernel_rfl) (by kernel_rfl) (by kernel_rfl) (fun _ _ _ h => h) (Or.inl ⟨by rfl, by intro WW hSw; (try dsimp only at hSw); go_simp⟩) (by assumption) ?_
  (try simp only [Act.put, List.setIfInBounds_toArray, List.set_cons_zero, List.set_cons_succ])
  refine wpAnyH_take (i := 9) (oi := ⟨some 14, _, _, _, _, _⟩) (v := .int .u64 v) rfl (by kernel_rfl) (by kernel_rfl) (by kernel_rfl) (fun _ _ _ h => h) (Or.inl ⟨by rfl, by intro WW hSw; (try dsimp only at hSw); go_simp⟩) (by assumption) ?_
  (try simp only [Act.put, List.setIfInBounds_toArray, List.set_cons_zero, List.set_cons_succ])
  refine wpAnyH_take (i := 10) (oi := ⟨some 15, _, _, _, _, _⟩) (v := .int .i64 kk) rfl (by kernel_rfl) (by kernel_rfl) (by kernel_rfl) (fun _ _ _ h => h) (Or.inl ⟨by rfl, by intro WW hSw; (try dsimp only at hSw); go_simp⟩) (by assumption) ?_
  (try simp only [Act.put, List.setIfInBounds_toArray, List.set_cons_zero, List.set_cons_succ])
  refine wpAnyH_take (i := 11) (oi := ⟨some 3, _, _, _, _, _⟩) (v := .int .u64 v) rfl (by kernel_rfl) (by kernel_rfl) (by kernel_rfl) (fun _ _ _ h => h) (Or.inl ⟨by rfl, by intro WW hSw; (try dsimp only at hSw); go_simp⟩) (by assumption) ?_
  (try simp only [Act.put, List.setIfInBounds_toArray, List.set_cons_zero, List.set_cons_succ])
  refine wpAnyH_take (i := 12) (oi := ⟨some 4, _, _, _, _, _⟩) (v := .int .i64 kk) rfl (by kernel_rfl) (by kernel_rfl) (by kernel_rfl) (fun _ _ _ h => h) (Or.inl ⟨by rfl, by intro WW hSw; (try dsimp only at hSw); go_simp⟩) (by assumption) ?_
  (try simp only [Act.put, List.setIfInBounds_toArray, List.set_cons_zero, List.set_cons_succ])
  refine wpAnyH_done (by kernel_rfl) ?_ _

  have hth := rowThere (o := 5) (n := 48) HQ.out (by rw [HS.out.sz]; omega)
  have SW := (SnSw.refl HQ.out).setAll 5 (vBeg v)
  have IS := HS.out.rall (vBeg_len v) (fun j hj => vBeg_at v j hj)
  obtain ⟨W3, hW3⟩ : ∃ W3, W3 = w2.setCells g 5 (vBeg v) := ⟨_, rfl⟩
  rw [← hW3] at SW
  have c1 := (SW.row.cell 1).trans IS.c1
  have c53 := (SW.row.cell 53).trans IS.cw
  have c54 := (SW.row.cell 54).trans IS.cd
  have f1 := SW.row.free 1
  have f53 := SW.row.free 53
  have f54 := SW.row.free 54
  have HE := Lib.hid (show ∃ w1 cs', P w1 ∧ IsS cs' p (nextV 54 g) d k a (rBeg v) 0 0 lo n ∧ SnSw w1 (((W3.setCell ⟨g, 53, none⟩ (.int .i64 0)).setCell ⟨g, 54, none⟩ (.int .i64 0)).setCell ⟨g, 1, none⟩ (.func (.func 54) #[.pointer (some ⟨g, 0, none⟩)] #[])) g cs' from
    ⟨w2, _, HP.out, ((IS.which 0).word 0).next _, ((SW.set 53 _).set 54 _).set 1 _⟩)
  have HT := Lib.hid hth
  have HW3 := Lib.hid hW3
  clear SW IS hth hW3
  go_wp2_with ((refine wpList_store_mid rfl _ _ _ rfl g 5 (vBeg v).toArray rfl rfl HT.out r2I (vBeg_one v) ?_); rw [← HW3.out])
  go_ret
  exact ⟨rfl, HE.out⟩
end Go.Proofs.Yteojhhfcfdkmdaa
/- What a snapshot's step does that reads the word that comes; for whatever the load answers. -/
namespace Go.Proofs.Yteojhhfcfdkmdaa
open Go.RowKit
set_option linter.unusedVariables false
attribute [local go_sem] Oper.semAt_some
/-- What a step that reads a word lets come next. -/
def rdF (F : Value) (g : Nat) (r : Nat → Int) (wh wd : Nat) (v : Int) : Value :=
  if (bh wd v).2 = true then F else if wh = 0 then F else if rput r (24 * wh + wd) v 26 = 0 then nextV 75 g else nextV 74 g
def rdWh (wh wd : Nat) (v : Int) : Nat := if (bh wd v).2 = true then wh else 1
theorem bh_no {k : Nat} {v : Int} (h : (bh k v).2 = false) : 9 ≤ k := by
  unfold bh at h
  split at h
  · cases h
  · split at h
    · cases h
    · split at h
      · rename_i h2
        rcases h2 with h2 | h2 <;> omega
      · cases h
/-- What lies in the snapshot's block behind the store of the word. -/
theorem rd_facts {w : World} {g wd : Nat} {cs : Array Value} {p : Option Addr} {F : Value} {d : Bool} {k a lo wz wdz : Int} {r : Nat → Int} {n : Nd}
    (hr : Row w g 80 cs) (hs : IsS cs p F d k a r wz wdz lo n) (hwd : wd < 24) : ∀ wh : Nat, wh ≤ 1 → ∀ q : LowBy w,
    (q.W.cell? ⟨g, 5 + 24 * wh + wd, none⟩ = some (.int .u64 (r (24 * wh + wd)))) ∧ (∀ i, q.W.frozen? ⟨g, i, none⟩ = false) ∧
    (∀ u, (q.W.setCell ⟨g, 5 + 24 * wh + wd, none⟩ u).cell? ⟨g, 54, none⟩ = some (.int .i64 wdz)) ∧ (∀ u, (q.W.setCell ⟨g, 5 + 24 * wh + wd, none⟩ u).cell? ⟨g, 53, none⟩ = some (.int .i64 wz)) ∧
    (∀ u, (q.W.setCell ⟨g, 5 + 24 * wh + wd, none⟩ u).cell? ⟨g, 1, none⟩ = some F) ∧
    (9 ≤ wd → ∀ u, (q.W.setCell ⟨g, 5 + 24 * wh + wd, none⟩ u).cell? ⟨g, 31, none⟩ = some (.int .u64 (r 26))) := by
  intro wh hwh q
  have hq := hr.below q.low hr.lt
  have ho : ∀ i, i ≠ 5 + 24 * wh + wd → ∀ u, (q.W.setCell ⟨g, 5 + 24 * wh + wd, none⟩ u).cell? ⟨g, i, none⟩ = cs[i]? := fun i hi u => by
    rw [World.cell?_setCell_other _ _ _ _ (by simp <;> omega)]
    exact hq.cell i
  refine ⟨(hq.cell _).trans ?_, fun i => hq.free i, fun u => (ho _ (by omega) u).trans hs.cd, fun u => (ho _ (by omega) u).trans hs.cw, fun u => (ho _ (by omega) u).trans hs.c1, fun h9 u => (ho _ (by omega) u).trans (hs.rr 26 (by omega))⟩
  rw [show 5 + 24 * wh + wd = 5 + (24 * wh + wd) by omega]
  exact hs.rr _ (by omega)
/-- The snapshot's cells behind the stores of a step that reads a word. -/
theorem rd_fin {w : World} {g wh wd : Nat} {cs : Array Value} {p : Option Addr} {F : Value} {d : Bool} {k a lo wz wdz : Int} {r : Nat → Int} {n : Nd} {P : World → Prop}
    (hr : Row w g 80 cs) (hs : IsS cs p F d k a r wz wdz lo n) (hwd : wd < 24) (hwh : wh ≤ 1) (hp : P w) (q : LowBy w) (v : Int) (b : Nat) :
    ∃ cs', P w ∧ IsS cs' p F d k a (rput r (24 * wh + wd) v) wz (b : Nat) lo n ∧ SnSw w ((q.W.setCell ⟨g, 5 + 24 * wh + wd, none⟩ (.int .u64 v)).setCell ⟨g, 54, none⟩ (.int .i64 (b : Nat))) g cs' := by
  have h1 := hs.rset (i := 24 * wh + wd) (by omega) v
  refine ⟨_, hp, h1.word b, ?_⟩
  rw [show 5 + (24 * wh + wd) = 5 + 24 * wh + wd by omega]
  exact (((SnSw.refl hr).below q.low).set _ _).set _ _
set_option maxRecDepth 100000 in
set_option maxHeartbeats 6400000 in
theorem read_any {w : World} {g a wh wd : Nat} {cs : Array Value} {p : Option Addr} {F : Value} {d : Bool} {k lo v kk : Int} {r : Nat → Int} {n : Nd} {P : World → Prop}
    (hr : Row w g 80 cs) (hs : IsS cs p F d k a r wh wd lo n) (ha : a < 18446744073709551616) (hwh : wh = 0 ∨ wh = 1) (hwd : wd < 24)
    (HL : ∀ W, Below w.heap.size w W → Calls Try.prog 30 #[.pointer p, .int .u64 ((snWordAt a wd : Nat) : Int)] W fun e' w' => e' = .returned (.tuple #[.int .u64 v, .int .i64 kk]) ∧ LQ g cs P w') :
    Calls Try.prog 54 #[.pointer (some ⟨g, 0, none⟩)] w (FPost g P kk (fun cs' => IsS cs' p (rdF F g r wh wd v) d k a (rput r (24 * wh + wd) v) (rdWh wh wd v : Nat) ((bh wd v).1 : Nat) lo n)) := by
  have mixed : Try.prog.follows .mixedOrders = true := by kernel_rfl
  have c0 := (hr.cell 0).trans hs.c0
  have HDR := Lib.hid (drew_below w)
  have STAY := Lib.hid (show ∀ W, Below w.heap.size w W → W.cell? ⟨g, 4, none⟩ = some (.int .u64 (a : Int)) ∧ W.cell? ⟨g, 54, none⟩ = some (.int .i64 (wd : Int)) from fun W hb => ⟨(hr.below hb hr.lt).cell 4 |>.trans hs.c4, (hr.below hb hr.lt).cell 54 |>.trans hs.cd⟩)
  have STQ := Lib.hid (show ∀ W, Row W g 80 cs → W.cell? ⟨g, 4, none⟩ = some (.int .u64 (a : Int)) ∧ W.cell? ⟨g, 54, none⟩ = some (.int .i64 (wd : Int)) from fun W h => ⟨(h.cell 4).trans hs.c4, (h.cell 54).trans hs.cd⟩)
  have HM := Lib.hid (macLoad_any (k := wd) ((drew_below w).cell (block_lt_of_cell c0) |>.trans c0) ha hwd (HL _ (drew_below w)))
  have HS := Lib.hid hs
  have HBH := Lib.hid fun W => behindS_any hwd v W
  have HWD := Lib.hid hwd
  obtain ⟨b1, hb1⟩ : ∃ b, b = (bh wd v).1 := ⟨_, rfl⟩
  obtain ⟨b2, hb2⟩ : ∃ b, b = (bh wd v).2 := ⟨_, rfl⟩
  have HB2 := Lib.hid hb2
  have HRF := Lib.hid (show rdF F g r wh wd v = (if b2 = true then F else if wh = 0 then F else if rput r (24 * wh + wd) v 26 = 0 then nextV 75 g else nextV 74 g) ∧ rdWh wh wd v = if b2 = true then wh else 1 from by
    unfold rdF rdWh
    rw [← hb2]
    exact ⟨rfl, rfl⟩)
  rw [← hb1, ← hb2] at HBH
  rw [← hb1]
  have HWH := Lib.hid hwh
  clear hr hs HL c0 ha hb1 hb2 hwh
  go_enter Try.func54, Try.ntmps54
  go_wp2_with fail
  refine wp_region_held_drew (S := fun W' => W'.cell? ⟨g, 4, none⟩ = some (.int .u64 (a : Int)) ∧ W'.cell? ⟨g, 54, none⟩ = some (.int .i64 (wd : Int))) (by kernel_rfl) (STAY.out _ HDR.out) (fun hHeld => ?_)
  refine wpAnyH_take (i := 0) (oi := ⟨some 8, _, _, _, _, _⟩) (v := .pointer (some ⟨g, 0, none⟩)) rfl (by kernel_rfl) (by kernel_rfl) (by kernel_rfl) (fun _ _ _ h => h) (Or.inl ⟨by rfl, by intro WW hSw; (try dsimp only at hSw); go_simp⟩) (by assumption) ?_
  (try simp only [Act.put, List.setIfInBounds_toArray, List.set_cons_zero, List.set_cons_succ])
  refine wpAnyH_take (i := 1) (oi := ⟨some 9, _, _, _, _, _⟩) (v := .pointer (some ⟨g, 0, none⟩)) rfl (by kernel_rfl) (by kernel_rfl) (by kernel_rfl) (fun _ _ _ h => h) (Or.inl ⟨by rfl, by intro WW hSw; (try dsimp only at hSw); go_simp⟩) (by assumption) ?_
  (try simp only [Act.put, List.setIfInBounds_toArray, List.set_cons_zero, List.set_cons_succ])
  refine wpAnyH_take (i := 2) (oi := ⟨some 10, _, _, _, _, _⟩) (v := .pointer (some ⟨g, 0, none⟩)) rfl (by kernel_rfl) (by kernel_rfl) (by kernel_rfl) (fun _ _ _ h => h) (Or.inl ⟨by rfl, by intro WW hSw; (try dsimp only at hSw); go_simp⟩) (by assumption) ?_
  (try simp only [Act.put, List.setIfInBounds_toArray, List.set_cons_zero, List.set_cons_succ])
  refine wpAnyH_take (i := 3) (oi := ⟨some 11, _, _, _, _, _⟩) (v := .pointer (some ⟨g, 0, none⟩)) rfl (by kernel_rfl) (by kernel_rfl) (by kernel_rfl) (fun _ _ _ h => h) (Or.inl ⟨by rfl, by intro WW hSw; (try dsimp only at hSw); go_simp⟩) (by assumption) ?_
  (try simp only [Act.put, List.setIfInBounds_toArray, List.set_cons_zero, List.set_cons_succ])
  refine wpAnyH_take (i := 4) (oi := ⟨some 12, _, _, _, _, _⟩) (v := .pointer (some ⟨g, 0, none⟩)) rfl (by kernel_rfl) (by kernel_rfl) (by kernel_rfl) (fun _ _ _ h => h) (Or.inl ⟨by rfl, by intro WW hSw; (try dsimp only at hSw); go_simp⟩) (by assumption) ?_
  (try simp only [Act.put, List.setIfInBounds_toArray, List.set_cons_zero, List.set_cons_succ])
  refine wpAnyH_take (i := 5) (oi := ⟨some 13, _, _, _, _, _⟩) (v := .pointer (some ⟨g, 4, none⟩)) rfl (by kernel_rfl) (by kernel_rfl) (by kernel_rfl) (fun _ _ _ h => h) (Or.inl ⟨by rfl, by intro WW hSw; (try dsimp only at hSw); go_simp⟩) (by assumption) ?_
  (try simp only [Act.put, List.setIfInBounds_toArray, List.set_cons_zero, List.set_cons_succ])
  refine wpAnyH_take (i := 6) (oi := ⟨some 14, _, _, _, _, _⟩) (v := .int .u64 (a : Int)) rfl (by kernel_rfl) (by kernel_rfl) (by kernel_rfl) (fun _ _ _ h => h) (Or.inl ⟨by rfl, by intro WW hSw; (try dsimp only at hSw); go_simp⟩) (by assumption) ?_
  (try simp only [Act.put, List.setIfInBounds_toArray, List.set_cons_zero, List.set_cons_succ])
  refine wpAnyH_take (i := 7) (oi := ⟨some 15, _, _, _, _, _⟩) (v := .pointer (some ⟨g, 0, none⟩)) rfl (by kernel_rfl) (by kernel_rfl) (by kernel_rfl) (fun _ _ _ h => h) (Or.inl ⟨by rfl, by intro WW hSw; (try dsimp only at hSw); go_simp⟩) (by assumption) ?_
  (try simp only [Act.put, List.setIfInBounds_toArray, List.set_cons_zero, List.set_cons_succ])
  refine wpAnyH_take (i := 8) (oi := ⟨some 16, _, _, _, _, _⟩) (v := .pointer (some ⟨g, 0, none⟩)) rfl (by kernel_rfl) (by kernel_rfl) (by kernel_rfl) (fun _ _ _ h => h) (Or.inl ⟨by rfl, by intro WW hSw; (try dsimp only at hSw); go_simp⟩) (by assumption) ?_
  (try simp only [Act.put, List.setIfInBounds_toArray, List.set_cons_zero, List.set_cons_succ])
  refine wpAnyH_take (i := 9) (oi := ⟨some 17, _, _, _, _, _⟩) (v := .pointer (some ⟨g, 54, none⟩)) rfl (by kernel_rfl) (by kernel_rfl) (by kernel_rfl) (fun _ _ _ h => h) (Or.inl ⟨by rfl, by intro WW hSw; (try dsimp only at hSw); go_simp⟩) (by assumption) ?_
  (try simp only [Act.put, List.setIfInBounds_toArray, List.set_cons_zero, List.set_cons_succ])
  refine wpAnyH_take (i := 10) (oi := ⟨some 18, _, _, _, _, _⟩) (v := .int .i64 (wd : Int)) rfl (by kernel_rfl) (by kernel_rfl) (by kernel_rfl) (fun _ _ _ h => h) (Or.inl ⟨by rfl, by intro WW hSw; (try dsimp only at hSw); go_simp⟩) (by assumption) ?_
  (try simp only [Act.put, List.setIfInBounds_toArray, List.set_cons_zero, List.set_cons_succ])
  refine wpAnyH_one (i := 11) (oi := ⟨some 19, _, _, _, _, _⟩) rfl (by kernel_rfl) (fun K hK => ?_)
  refine step_calls (by rfl) 53 (fun args w => Try.call53 _ _) [.tmp 10, .tmp 14, .tmp 18] _ rfl [.pointer (some ⟨g, 0, none⟩), .int .u64 (a : Int), .int .i64 (wd : Int)] rfl (HM.out) ?_
  rintro e w2 ⟨rfl, hq, hp⟩
  have HQ := Lib.hid hq
  have HP := Lib.hid hp
  clear hq hp HM
  refine ⟨_, rfl, hK _ _ (STQ.out _ HQ.out) (fun hSn => ?_)⟩
  clear hK K
  (try simp only [Act.put, List.setIfInBounds_toArray, List.set_cons_zero, List.set_cons_succ])
  refine wpAnyH_take (i := 12) (oi := ⟨some 7, _, _, _, _, _⟩) (v := .tuple #[.int .u64 v, .int .i64 kk]) rfl (by kernel_rfl) (by kernel_rfl) (by kernel_rfl) (fun _ _ _ h => h) (Or.inl ⟨by rfl, by intro WW hSw; (try dsimp only at hSw); go_simp⟩) (by assumption) ?_
  (try simp only [Act.put, List.setIfInBounds_toArray, List.set_cons_zero, List.set_cons_succ])
  refine wpAnyH_take (i := 13) (oi := ⟨some 20, _, _, _, _, _⟩) (v := .int .u64 v) rfl (by kernel_rfl) (by kernel_rfl) (by kernel_rfl) (fun _ _ _ h => h) (Or.inl ⟨by rfl, by intro WW hSw; (try dsimp only at hSw); go_simp⟩) (by assumption) ?_
  (try simp only [Act.put, List.setIfInBounds_toArray, List.set_cons_zero, List.set_cons_succ])
  refine wpAnyH_take (i := 14) (oi := ⟨some 21, _, _, _, _, _⟩) (v := .int .i64 kk) rfl (by kernel_rfl) (by kernel_rfl) (by kernel_rfl) (fun _ _ _ h => h) (Or.inl ⟨by rfl, by intro WW hSw; (try dsimp only at hSw); go_simp⟩) (by assumption) ?_
  (try simp only [Act.put, List.setIfInBounds_toArray, List.set_cons_zero, List.set_cons_succ])
  refine wpAnyH_take (i := 15) (oi := ⟨some 3, _, _, _, _, _⟩) (v := .int .u64 v) rfl (by kernel_rfl) (by kernel_rfl) (by kernel_rfl) (fun _ _ _ h => h) (Or.inl ⟨by rfl, by intro WW hSw; (try dsimp only at hSw); go_simp⟩) (by assumption) ?_
  (try simp only [Act.put, List.setIfInBounds_toArray, List.set_cons_zero, List.set_cons_succ])
  refine wpAnyH_take (i := 16) (oi := ⟨some 4, _, _, _, _, _⟩) (v := .int .i64 kk) rfl (by kernel_rfl) (by kernel_rfl) (by kernel_rfl) (fun _ _ _ h => h) (Or.inl ⟨by rfl, by intro WW hSw; (try dsimp only at hSw); go_simp⟩) (by assumption) ?_
  (try simp only [Act.put, List.setIfInBounds_toArray, List.set_cons_zero, List.set_cons_succ])
  refine wpAnyH_done (by kernel_rfl) ?_ _


  go_wp2_with fail
  have c53 := (HQ.out.cell 53).trans HS.out.cw
  have c54 := (HQ.out.cell 54).trans HS.out.cd
  have ca := fun q : LowBy w2 => q.cell c53
  have cb := fun q : LowBy w2 => q.cell c54
  clear c53 c54 STQ hSn hHeld STAY HDR
  have HX := Lib.hid (rd_facts HQ.out HS.out hwd)
  rcases HWH.out with rfl | rfl
  · refine wp_region_low_tail 14 (by assumption) (by kernel_rfl) ?_
    simp only [List.take_succ_cons, List.take_zero, List.drop_succ_cons, List.drop_zero]
    repeat (go_big_quiet_step (fail))
    refine wpQuiet_nil ?_
    intro _ hw'
    obtain ⟨q, hw''⟩ := hw'
    subst hw''
    obtain ⟨e1, e2, e3, e4, e5, e6⟩ := HX.out 0 (by omega) q
    have FIN := rd_fin (wh := 0) HQ.out HS.out HWD.out (by omega) HP.out q v b1
    rw [show 5 + 24 * 0 + wd = 5 + wd by omega] at e1 e3 e4 e5 e6 FIN
    clear ca cb HX
    obtain ⟨cs', fp, fi, fs⟩ := FIN
    cases b2 with
    | true =>
      have HE := Lib.hid (show ∃ w1 cs', P w1 ∧ IsS cs' p (rdF F g r 0 wd v) d k a (rput r (24 * 0 + wd) v) (rdWh 0 wd v : Nat) (b1 : Nat) lo n ∧ SnSw w1 ((q.W.setCell ⟨g, 5 + wd, none⟩ (.int .u64 v)).setCell ⟨g, 54, none⟩ (.int .i64 (b1 : Nat))) g cs' from
        ⟨w2, cs', fp, by rw [HRF.out.1, HRF.out.2]; exact fi, fs⟩)
      clear e6 fp fi fs HRF
      go_wp2_with (refine (HBH.out _).mono ?_; rintro e w3 ⟨rfl, rfl⟩)
      go_ret
      exact ⟨rfl, HE.out⟩
    | false =>
      have HE := Lib.hid (show ∃ w1 cs', P w1 ∧ IsS cs' p (rdF F g r 0 wd v) d k a (rput r (24 * 0 + wd) v) (rdWh 0 wd v : Nat) (b1 : Nat) lo n ∧ SnSw w1 (((q.W.setCell ⟨g, 5 + wd, none⟩ (.int .u64 v)).setCell ⟨g, 54, none⟩ (.int .i64 (b1 : Nat))).setCell ⟨g, 53, none⟩ (.int .i64 1)) g cs' from
        ⟨w2, _, fp, by rw [HRF.out.1, HRF.out.2]; exact fi.which 1, fs.set 53 _⟩)
      clear e6 fp fi fs HRF
      go_wp2_with (refine (HBH.out _).mono ?_; rintro e w3 ⟨rfl, rfl⟩)
      go_ret
      exact ⟨rfl, HE.out⟩
  · refine wp_region_low_tail 14 (by assumption) (by kernel_rfl) ?_
    simp only [List.take_succ_cons, List.take_zero, List.drop_succ_cons, List.drop_zero]
    repeat (go_big_quiet_step (fail))
    refine wpQuiet_nil ?_
    intro _ hw'
    obtain ⟨q, hw''⟩ := hw'
    subst hw''
    obtain ⟨e1, e2, e3, e4, e5, e6⟩ := HX.out 1 (by omega) q
    have FIN := rd_fin (wh := 1) HQ.out HS.out HWD.out (by omega) HP.out q v b1
    rw [show 5 + 24 * 1 + wd = 29 + wd by omega] at e1 e3 e4 e5 e6 FIN
    clear ca cb HX
    obtain ⟨cs', fp, fi, fs⟩ := FIN
    cases b2 with
    | true =>
      have HE := Lib.hid (show ∃ w1 cs', P w1 ∧ IsS cs' p (rdF F g r 1 wd v) d k a (rput r (24 * 1 + wd) v) (rdWh 1 wd v : Nat) (b1 : Nat) lo n ∧ SnSw w1 ((q.W.setCell ⟨g, 29 + wd, none⟩ (.int .u64 v)).setCell ⟨g, 54, none⟩ (.int .i64 (b1 : Nat))) g cs' from
        ⟨w2, cs', fp, by rw [HRF.out.1, HRF.out.2]; exact fi, fs⟩)
      clear e6 fp fi fs HRF
      go_wp2_with (refine (HBH.out _).mono ?_; rintro e w3 ⟨rfl, rfl⟩)
      go_ret
      exact ⟨rfl, HE.out⟩
    | false =>
      have e6 := e6 (bh_no HB2.out.symm)
      have hn26 : rput r (24 * 1 + wd) v 26 = r 26 := by
        have := bh_no HB2.out.symm
        unfold rput
        rw [if_neg (by omega)]
      by_cases h26 : r 26 = 0
      · have HE := Lib.hid (show ∃ w1 cs', P w1 ∧ IsS cs' p (rdF F g r 1 wd v) d k a (rput r (24 * 1 + wd) v) (rdWh 1 wd v : Nat) (b1 : Nat) lo n ∧ SnSw w1 (((q.W.setCell ⟨g, 29 + wd, none⟩ (.int .u64 v)).setCell ⟨g, 54, none⟩ (.int .i64 (b1 : Nat))).setCell ⟨g, 1, none⟩ (.func (.func 75) #[.pointer (some ⟨g, 0, none⟩)] #[])) g cs' from
          ⟨w2, _, fp, by rw [HRF.out.1, HRF.out.2, hn26, h26]; exact fi.next _, fs.set 1 _⟩)
        have hb : (r 26 != 0) = false := by simp [h26]
        clear fp fi fs HRF hn26
        obtain ⟨z, hz⟩ : ∃ z, z = r 26 := ⟨_, rfl⟩
        rw [← hz] at e6 hb
        clear hz h26
        go_wp2_with (refine (HBH.out _).mono ?_; rintro e w3 ⟨rfl, rfl⟩)
        go_ret
        exact ⟨rfl, HE.out⟩
      · have HE := Lib.hid (show ∃ w1 cs', P w1 ∧ IsS cs' p (rdF F g r 1 wd v) d k a (rput r (24 * 1 + wd) v) (rdWh 1 wd v : Nat) (b1 : Nat) lo n ∧ SnSw w1 (((q.W.setCell ⟨g, 29 + wd, none⟩ (.int .u64 v)).setCell ⟨g, 54, none⟩ (.int .i64 (b1 : Nat))).setCell ⟨g, 1, none⟩ (.func (.func 74) #[.pointer (some ⟨g, 0, none⟩)] #[])) g cs' from
          ⟨w2, _, fp, by rw [HRF.out.1, HRF.out.2, hn26, if_neg (by simp), if_neg (by simp), if_neg h26, if_neg (by simp)]; exact fi.next _, fs.set 1 _⟩)
        have hb : (r 26 != 0) = true := by simp [h26]
        clear fp fi fs HRF hn26
        obtain ⟨z, hz⟩ : ∃ z, z = r 26 := ⟨_, rfl⟩
        rw [← hz] at e6 hb
        clear hz h26
        go_wp2_with (refine (HBH.out _).mono ?_; rintro e w3 ⟨rfl, rfl⟩)
        go_ret
        exact ⟨rfl, HE.out⟩
end Go.Proofs.Yteojhhfcfdkmdaa
/- What a snapshot's last steps do: Low of the next node; Count once more, and the node; for whatever the load answers. -/
namespace Go.Proofs.Yteojhhfcfdkmdaa
open Go.RowKit
set_option linter.unusedVariables false
attribute [local go_sem] Oper.semAt_some
set_option maxRecDepth 100000 in
set_option maxHeartbeats 6400000 in
theorem readLow_any {w : World} {g a : Nat} {cs : Array Value} {p : Option Addr} {F : Value} {d : Bool} {k at' wh wd lo v kk : Int} {r : Nat → Int} {n : Nd} {P : World → Prop}
    (hr : Row w g 80 cs) (hs : IsS cs p F d k at' r wh wd lo n) (h26 : r 26 = (a : Int)) (ha : a < 18446744073709551616)
    (HL : ∀ W, Below w.heap.size w W → Calls Try.prog 30 #[.pointer p, .int .u64 ((snWordAt a 1 : Nat) : Int)] W fun e' w' => e' = .returned (.tuple #[.int .u64 v, .int .i64 kk]) ∧ LQ g cs P w') :
    Calls Try.prog 74 #[.pointer (some ⟨g, 0, none⟩)] w (FPost g P kk (fun cs' => IsS cs' p (nextV 75 g) d k at' r wh wd v n)) := by
  have c0 := (hr.cell 0).trans hs.c0
  have HDR := Lib.hid (drew_below w)
  have STAY := Lib.hid (show ∀ W, Below w.heap.size w W → W.cell? ⟨g, 31, none⟩ = some (.int .u64 (a : Int)) from fun W hb => by rw [← h26]; exact (hr.below hb hr.lt).cell 31 |>.trans (hs.rr 26 (by omega)))
  have STQ := Lib.hid (show ∀ W, Row W g 80 cs → W.cell? ⟨g, 31, none⟩ = some (.int .u64 (a : Int)) from fun W h => by rw [← h26]; exact (h.cell 31).trans (hs.rr 26 (by omega)))
  have HM := Lib.hid (macLoad_any (k := 1) ((drew_below w).cell (block_lt_of_cell c0) |>.trans c0) ha (by decide) (HL _ (drew_below w)))
  have HS := Lib.hid hs
  clear hr hs HL c0 ha h26
  go_enter Try.func74, Try.ntmps74
  go_wp2_with fail
  refine wp_region_held_drew (S := fun W' => W'.cell? ⟨g, 31, none⟩ = some (.int .u64 (a : Int))) (by kernel_rfl) (STAY.out _ HDR.out) (fun hHeld => ?_)
  refine wpAnyH_take (i := 0) (oi := ⟨some 6, _, _, _, _, _⟩) (v := .pointer (some ⟨g, 0, none⟩)) rfl (by kernel_rfl) (by kernel_rfl) (by kernel_rfl) (fun _ _ _ h => h) (Or.inl ⟨by rfl, by intro WW hSw; (try dsimp only at hSw); go_simp⟩) (by assumption) ?_
  (try simp only [Act.put, List.setIfInBounds_toArray, List.set_cons_zero, List.set_cons_succ])
  refine wpAnyH_take (i := 1) (oi := ⟨some 7, _, _, _, _, _⟩) (v := .pointer (some ⟨g, 0, none⟩)) rfl (by kernel_rfl) (by kernel_rfl) (by kernel_rfl) (fun _ _ _ h => h) (Or.inl ⟨by rfl, by intro WW hSw; (try dsimp only at hSw); go_simp⟩) (by assumption) ?_
  (try simp only [Act.put, List.setIfInBounds_toArray, List.set_cons_zero, List.set_cons_succ])
  refine wpAnyH_take (i := 2) (oi := ⟨some 8, _, _, _, _, _⟩) (v := .pointer (some ⟨g, 0, none⟩)) rfl (by kernel_rfl) (by kernel_rfl) (by kernel_rfl) (fun _ _ _ h => h) (Or.inl ⟨by rfl, by intro WW hSw; (try dsimp only at hSw); go_simp⟩) (by assumption) ?_
  (try simp only [Act.put, List.setIfInBounds_toArray, List.set_cons_zero, List.set_cons_succ])
  refine wpAnyH_take (i := 3) (oi := ⟨some 9, _, _, _, _, _⟩) (v := .pointer (some ⟨g, 0, none⟩)) rfl (by kernel_rfl) (by kernel_rfl) (by kernel_rfl) (fun _ _ _ h => h) (Or.inl ⟨by rfl, by intro WW hSw; (try dsimp only at hSw); go_simp⟩) (by assumption) ?_
  (try simp only [Act.put, List.setIfInBounds_toArray, List.set_cons_zero, List.set_cons_succ])
  refine wpAnyH_take (i := 4) (oi := ⟨some 10, _, _, _, _, _⟩) (v := .pointer (some ⟨g, 0, none⟩)) rfl (by kernel_rfl) (by kernel_rfl) (by kernel_rfl) (fun _ _ _ h => h) (Or.inl ⟨by rfl, by intro WW hSw; (try dsimp only at hSw); go_simp⟩) (by assumption) ?_
  (try simp only [Act.put, List.setIfInBounds_toArray, List.set_cons_zero, List.set_cons_succ])
  refine wpAnyH_take (i := 5) (oi := ⟨some 11, _, _, _, _, _⟩) (v := .pointer (some ⟨g, 5, none⟩)) rfl (by kernel_rfl) (by kernel_rfl) (by kernel_rfl) (fun _ _ _ h => h) (Or.inl ⟨by rfl, by intro WW hSw; (try dsimp only at hSw); go_simp⟩) (by assumption) ?_
  (try simp only [Act.put, List.setIfInBounds_toArray, List.set_cons_zero, List.set_cons_succ])
  refine wpAnyH_take (i := 6) (oi := ⟨some 12, _, _, _, _, _⟩) (v := .pointer (some ⟨g, 29, none⟩)) rfl (by kernel_rfl) (by kernel_rfl) (by kernel_rfl) (fun _ _ _ h => h) (Or.inl ⟨by rfl, by intro WW hSw; (try dsimp only at hSw); go_simp⟩) (by assumption) ?_
  (try simp only [Act.put, List.setIfInBounds_toArray, List.set_cons_zero, List.set_cons_succ])
  refine wpAnyH_take (i := 7) (oi := ⟨some 13, _, _, _, _, _⟩) (v := .pointer (some ⟨g, 31, none⟩)) rfl (by kernel_rfl) (by kernel_rfl) (by kernel_rfl) (fun _ _ _ h => h) (Or.inl ⟨by rfl, by intro WW hSw; (try dsimp only at hSw); go_simp⟩) (by assumption) ?_
  (try simp only [Act.put, List.setIfInBounds_toArray, List.set_cons_zero, List.set_cons_succ])
  refine wpAnyH_take (i := 8) (oi := ⟨some 14, _, _, _, _, _⟩) (v := .int .u64 (a : Int)) rfl (by kernel_rfl) (by kernel_rfl) (by kernel_rfl) (fun _ _ _ h => h) (Or.inl ⟨by rfl, by intro WW hSw; (try dsimp only at hSw); go_simp⟩) (by assumption) ?_
  (try simp only [Act.put, List.setIfInBounds_toArray, List.set_cons_zero, List.set_cons_succ])
  refine wpAnyH_one (i := 9) (oi := ⟨some 15, _, _, _, _, _⟩) rfl (by kernel_rfl) (fun K hK => ?_)
  refine step_calls (by rfl) 53 (fun args w => Try.call53 _ _) [.tmp 8, .tmp 14, .const (.int .i64 1)] _ rfl [.pointer (some ⟨g, 0, none⟩), .int .u64 (a : Int), .int .i64 1] rfl (HM.out) ?_
  rintro e w2 ⟨rfl, hq, hp⟩
  have HQ := Lib.hid hq
  have HP := Lib.hid hp
  clear hq hp HM
  refine ⟨_, rfl, hK _ _ (STQ.out _ HQ.out) (fun hSn => ?_)⟩
  clear hK K
  (try simp only [Act.put, List.setIfInBounds_toArray, List.set_cons_zero, List.set_cons_succ])
  refine wpAnyH_take (i := 10) (oi := ⟨some 5, _, _, _, _, _⟩) (v := .tuple #[.int .u64 v, .int .i64 kk]) rfl (by kernel_rfl) (by kernel_rfl) (by kernel_rfl) (fun _ _ _ h => h) (Or.inl ⟨by rfl, by intro WW hSw; (try dsimp only at hSw); go_simp⟩) (by assumption) ?_
  (try simp only [Act.put, List.setIfInBounds_toArray, List.set_cons_zero, List.set_cons_succ])
  refine wpAnyH_take (i := 11) (oi := ⟨some 16, _, _, _, _, _⟩) (v := .int .u64 v) rfl (by kernel_rfl) (by kernel_rfl) (by kernel_rfl) (fun _ _ _ h => h) (Or.inl ⟨by rfl, by intro WW hSw; (try dsimp only at hSw); go_simp⟩) (by assumption) ?_
  (try simp only [Act.put, List.setIfInBounds_toArray, List.set_cons_zero, List.set_cons_succ])
  refine wpAnyH_take (i := 12) (oi := ⟨some 17, _, _, _, _, _⟩) (v := .int .i64 kk) rfl (by kernel_rfl) (by kernel_rfl) (by kernel_rfl) (fun _ _ _ h => h) (Or.inl ⟨by rfl, by intro WW hSw; (try dsimp only at hSw); go_simp⟩) (by assumption) ?_
  (try simp only [Act.put, List.setIfInBounds_toArray, List.set_cons_zero, List.set_cons_succ])
  refine wpAnyH_take (i := 13) (oi := ⟨some 3, _, _, _, _, _⟩) (v := .int .u64 v) rfl (by kernel_rfl) (by kernel_rfl) (by kernel_rfl) (fun _ _ _ h => h) (Or.inl ⟨by rfl, by intro WW hSw; (try dsimp only at hSw); go_simp⟩) (by assumption) ?_
  (try simp only [Act.put, List.setIfInBounds_toArray, List.set_cons_zero, List.set_cons_succ])
  refine wpAnyH_take (i := 14) (oi := ⟨some 4, _, _, _, _, _⟩) (v := .int .i64 kk) rfl (by kernel_rfl) (by kernel_rfl) (by kernel_rfl) (fun _ _ _ h => h) (Or.inl ⟨by rfl, by intro WW hSw; (try dsimp only at hSw); go_simp⟩) (by assumption) ?_
  (try simp only [Act.put, List.setIfInBounds_toArray, List.set_cons_zero, List.set_cons_succ])
  refine wpAnyH_done (by kernel_rfl) ?_ _


  have c1 := (HQ.out.cell 1).trans HS.out.c1
  have c55 := (HQ.out.cell 55).trans HS.out.cl
  have f1 := HQ.out.free 1
  have f55 := HQ.out.free 55
  have HE := Lib.hid (show ∃ w1 cs', P w1 ∧ IsS cs' p (nextV 75 g) d k at' r wh wd v n ∧ SnSw w1 ((w2.setCell ⟨g, 55, none⟩ (.int .u64 v)).setCell ⟨g, 1, none⟩ (.func (.func 75) #[.pointer (some ⟨g, 0, none⟩)] #[])) g cs' from
    ⟨w2, _, HP.out, (HS.out.low v).next _, ((SnSw.refl HQ.out).set 55 _).set 1 _⟩)
  clear STQ hHeld hSn
  go_wp2
  go_ret
  exact ⟨rfl, HE.out⟩
/-- Whether both readings are one. -/
def sameR (r : Nat → Int) : Bool := (List.range 24).all fun j => r j == r (24 + j)
def rdL (r : Nat → Int) (o : Nat) : List Int := (List.range 24).map fun j => r (o + j)
theorem rdL_len (r : Nat → Int) (o : Nat) : (rdL r o).length = 24 := by simp [rdL]
theorem rdL_at (r : Nat → Int) (o : Nat) {j : Nat} (hj : j < 24) : wAt (rdL r o) j = r (o + j) := by
  unfold wAt rdL
  rw [List.getD_eq_getElem?_getD, List.getElem?_map, List.getElem?_range hj]
  rfl
theorem rdL_get (r : Nat → Int) (o : Nat) {j : Nat} (hj : j < 24) : ((rdL r o).map uw)[j]? = some (.int .u64 (r (o + j))) := by
  rw [wAt_get (rdL_len r o) hj, rdL_at r o hj]
theorem infUr : (Try.prog.info? 22).map (fun i => (i.zero, i.size, i.bytes)) = some (some (.int .u64 0), 1, 8) := by kernel_rfl
theorem celUr : Try.prog.cellsOf 22 = 1 := by kernel_rfl
theorem plnUr : Try.prog.plainKey 22 = true := by kernel_rfl
theorem itemsR (f g : Nat → Int) (xs ys : Array Value) (w : World) : ∀ is : List Nat, (∀ i ∈ is, xs[i]? = some (.int .u64 (f i)) ∧ ys[i]? = some (.int .u64 (g i))) → (Op.eqItems 9999 22 1 xs ys is).run Try.prog w = .ok (is.all fun i => f i == g i) w
  | [], _ => by simp [Op.eqItems]
  | i :: is, h => by
    obtain ⟨hx, hy⟩ := h i (by simp)
    have hp := run_part_plain (P := Try.prog) w plnUr (xs := xs) (off := i) hx
    have hq := run_part_plain (P := Try.prog) w plnUr (xs := ys) (off := i) hy
    have he := run_equalIn_int (P := Try.prog) w 9998 22 .u64 .u64 (f i) (g i) Try.underlying22
    have hi := itemsR f g xs ys w is (fun j hj => h j (by simp [hj]))
    cases hb : (f i == g i) <;> rw [hb] at he <;> simp [Op.eqItems, Sem.run_bind, Nat.mul_one, hp, hq, Result.andThen_ok, he, hb, hi, List.all_cons]
theorem neqR (r : Nat → Int) (w : World) : (binOp .neq 77 (.agg ((rdL r 0).map uw).toArray) (.agg ((rdL r 24).map uw).toArray)).run Try.prog w = .ok (.bool (!sameR r)) w := by
  obtain ⟨i0, hi0, hz0, hz1, hz2⟩ := info_parts infUr
  rw [run_neq_struct, run_equalIn_array (P := Try.prog) w 9999 _ _ Try.underlying77 hi0, celUr,
    itemsR (fun j => r j) (fun j => r (24 + j)) _ _ w _ (fun i hi => by
      have hi := List.mem_range.1 hi
      rw [List.getElem?_toArray, List.getElem?_toArray, rdL_get r 0 hi, rdL_get r 24 hi, Nat.zero_add]
      exact ⟨rfl, rfl⟩)]
  rfl
theorem rdI : (Try.prog.info? 77).map (·.size) = some 24 := by kernel_rfl
theorem rdRange {w : World} {g : Nat} {cs : Array Value} {p : Option Addr} {F : Value} {d : Bool} {k a wh wd lo : Int} {r : Nat → Int} {n : Nd} (hr : Row w g 80 cs) (hs : IsS cs p F d k a r wh wd lo n) (o : Nat) (ho : o ≤ 24) : w.rangeAt g (5 + o) ((rdL r o).map uw) := fun j v hv => by
  have hj : j < 24 := by have := (List.getElem?_eq_some_iff.1 hv).1; simpa [rdL] using this
  rw [rdL_get r o hj] at hv
  rw [hr.cell, show 5 + o + j = 5 + (o + j) by omega, hs.rr _ (by omega)]
  exact hv
end Go.Proofs.Yteojhhfcfdkmdaa
/- A run's step where there is no memory, or no such client; a run's stores that are left; without conditions. -/
namespace Go.Proofs.Yteojhhfcfdkmdaa
open Go.RowKit Go.Shelf
set_option linter.unusedVariables false
attribute [local go_sem] Oper.semAt_some
set_option maxRecDepth 100000 in
set_option maxHeartbeats 1600000 in
theorem rstep_mem {w : World} {p : Option Addr} {c line code z : Int} {V : Value} {f rg : Nat}
    (hr : Row w rg 113 (rcells p c V line (nextV f rg) false code)) (hz : z = 0)
    (HS : Calls Try.prog 52 #[.pointer p] w fun e w' => e = .returned (.int .i64 z) ∧ w = w') :
    Calls Try.prog 27 #[.pointer (some ⟨rg, 0, none⟩)] w (RStepPost (fun w1 => w = w1) rg true 1) := by
  have mixed : Try.prog.follows .mixedOrders = true := by kernel_rfl
  have c0 := hr.cell 0
  have c1 := hr.cell 1
  have c4 := hr.cell 4
  have d5 := hr.cell 5
  have d6 := hr.cell 6
  simp only [rcells, List.getElem?_toArray, List.getElem?_cons_succ, List.getElem?_cons_zero] at c0 c1 c4 d5 d6
  have g5 := hr.free 5
  have g6 := hr.free 6
  have HR := Lib.hid hr
  unfold nextV at c4
  have q1 := fun w => eqFnR w f #[.pointer (some ⟨rg, 0, none⟩)] #[]
  have q2 := fun w => guardFnR w f #[.pointer (some ⟨rg, 0, none⟩)] #[] (.tmp 19)
  have HS := Lib.hid HS
  subst hz
  clear hr
  go_enter Try.func27, Try.ntmps27
  go_wp2_with fail
  refine HS.out.mono ?_
  rintro e w1 ⟨rfl, rfl⟩
  go_wp2_with fail
  obtain ⟨W2, hW2⟩ : ∃ W2, W2 = (w.setCell ⟨rg, 6, none⟩ (.int .i64 1)).setCell ⟨rg, 5, none⟩ (.bool true) := ⟨_, rfl⟩
  rw [← hW2]
  have hrw : Row W2 rg 113 (((rcells p c V line (nextV f rg) false code).setIfInBounds 6 (.int .i64 1)).setIfInBounds 5 (.bool true)) := by rw [hW2]; exact (HR.out.set 6 _).set 5 _
  have k5 := hrw.cell 5
  have k6 := hrw.cell 6
  simp only [rcells, List.setIfInBounds_toArray, List.set_cons_succ, List.set_cons_zero, List.getElem?_toArray, List.getElem?_cons_succ, List.getElem?_cons_zero] at k5 k6
  have ca := fun p : LowBy W2 => p.cell k5
  have cb := fun p : LowBy W2 => p.cell k6
  have HW := Lib.hid hW2
  clear hrw k5 k6 hW2 d5 d6 g5 g6 c0 c1 c4 q1 q2
  refine wp_region_quiet_low (by assumption) (by kernel_rfl) ?_
  repeat (go_big_quiet_step (fail))
  refine wpQuiet_nil ?_
  intro _ hw'
  obtain ⟨p, hw''⟩ := hw'
  subst hw''
  have hp := Lib.hid p.low
  clear ca cb
  go_wp2
  go_ret2
  exact ⟨by rfl, w, rfl, by unfold rstepW; rw [← HW.out]; exact hp.out⟩
set_option maxRecDepth 100000 in
set_option maxHeartbeats 1600000 in
theorem rstep_low {w : World} {p : Option Addr} {c line code z : Int} {V : Value} {f rg : Nat}
    (hr : Row w rg 113 (rcells p c V line (nextV f rg) false code)) (hz : z ≠ 0) (hc : c < 0)
    (HS : Calls Try.prog 52 #[.pointer p] w fun e w' => e = .returned (.int .i64 z) ∧ w = w') :
    Calls Try.prog 27 #[.pointer (some ⟨rg, 0, none⟩)] w (RStepPost (fun w1 => w = w1) rg true 12) := by
  have mixed : Try.prog.follows .mixedOrders = true := by kernel_rfl
  have c0 := hr.cell 0
  have c1 := hr.cell 1
  have c4 := hr.cell 4
  have d5 := hr.cell 5
  have d6 := hr.cell 6
  simp only [rcells, List.getElem?_toArray, List.getElem?_cons_succ, List.getElem?_cons_zero] at c0 c1 c4 d5 d6
  have g5 := hr.free 5
  have g6 := hr.free 6
  have HR := Lib.hid hr
  unfold nextV at c4
  have q1 := fun w => eqFnR w f #[.pointer (some ⟨rg, 0, none⟩)] #[]
  have q2 := fun w => guardFnR w f #[.pointer (some ⟨rg, 0, none⟩)] #[] (.tmp 19)
  have HS := Lib.hid HS
  have z0 : (z == 0) = false := by rw [beq_eq_false_iff_ne]; exact hz
  have z1 : decide (c < 0) = true := by rw [decide_eq_true_eq]; exact hc
  clear hr
  go_enter Try.func27, Try.ntmps27
  go_wp2_with fail
  refine HS.out.mono ?_
  rintro e w1 ⟨rfl, rfl⟩
  go_wp2_with fail
  obtain ⟨W2, hW2⟩ : ∃ W2, W2 = (w.setCell ⟨rg, 6, none⟩ (.int .i64 12)).setCell ⟨rg, 5, none⟩ (.bool true) := ⟨_, rfl⟩
  rw [← hW2]
  have hrw : Row W2 rg 113 (((rcells p c V line (nextV f rg) false code).setIfInBounds 6 (.int .i64 12)).setIfInBounds 5 (.bool true)) := by rw [hW2]; exact (HR.out.set 6 _).set 5 _
  have k5 := hrw.cell 5
  have k6 := hrw.cell 6
  simp only [rcells, List.setIfInBounds_toArray, List.set_cons_succ, List.set_cons_zero, List.getElem?_toArray, List.getElem?_cons_succ, List.getElem?_cons_zero] at k5 k6
  have ca := fun p : LowBy W2 => p.cell k5
  have cb := fun p : LowBy W2 => p.cell k6
  have HW := Lib.hid hW2
  clear hrw k5 k6 hW2 d5 d6 g5 g6 c0 c1 c4 q1 q2
  refine wp_region_quiet_low (by assumption) (by kernel_rfl) ?_
  repeat (go_big_quiet_step (fail))
  refine wpQuiet_nil ?_
  intro _ hw'
  obtain ⟨p, hw''⟩ := hw'
  subst hw''
  have hp := Lib.hid p.low
  clear ca cb
  go_wp2
  go_ret2
  exact ⟨by rfl, w, rfl, by unfold rstepW; rw [← HW.out]; exact hp.out⟩
set_option maxRecDepth 100000 in
set_option maxHeartbeats 1600000 in
theorem rstep_high {w : World} {p : Option Addr} {c line code z : Int} {V : Value} {f rg : Nat}
    (hr : Row w rg 113 (rcells p c V line (nextV f rg) false code)) (hz : z ≠ 0) (hc0 : 0 ≤ c) (hc : 64 < c)
    (HS : Calls Try.prog 52 #[.pointer p] w fun e w' => e = .returned (.int .i64 z) ∧ w = w') :
    Calls Try.prog 27 #[.pointer (some ⟨rg, 0, none⟩)] w (RStepPost (fun w1 => w = w1) rg true 12) := by
  have mixed : Try.prog.follows .mixedOrders = true := by kernel_rfl
  have c0 := hr.cell 0
  have c1 := hr.cell 1
  have c4 := hr.cell 4
  have d5 := hr.cell 5
  have d6 := hr.cell 6
  simp only [rcells, List.getElem?_toArray, List.getElem?_cons_succ, List.getElem?_cons_zero] at c0 c1 c4 d5 d6
  have g5 := hr.free 5
  have g6 := hr.free 6
  have HR := Lib.hid hr
  unfold nextV at c4
  have q1 := fun w => eqFnR w f #[.pointer (some ⟨rg, 0, none⟩)] #[]
  have q2 := fun w => guardFnR w f #[.pointer (some ⟨rg, 0, none⟩)] #[] (.tmp 19)
  have HS := Lib.hid HS
  have z0 : (z == 0) = false := by rw [beq_eq_false_iff_ne]; exact hz
  have z1 : decide (c < 0) = false := by rw [decide_eq_false_iff_not]; omega
  have z2 : decide (64 < c) = true := by rw [decide_eq_true_eq]; exact hc
  clear hr
  go_enter Try.func27, Try.ntmps27
  go_wp2_with fail
  refine HS.out.mono ?_
  rintro e w1 ⟨rfl, rfl⟩
  go_wp2_with fail
  obtain ⟨W2, hW2⟩ : ∃ W2, W2 = (w.setCell ⟨rg, 6, none⟩ (.int .i64 12)).setCell ⟨rg, 5, none⟩ (.bool true) := ⟨_, rfl⟩
  rw [← hW2]
  have hrw : Row W2 rg 113 (((rcells p c V line (nextV f rg) false code).setIfInBounds 6 (.int .i64 12)).setIfInBounds 5 (.bool true)) := by rw [hW2]; exact (HR.out.set 6 _).set 5 _
  have k5 := hrw.cell 5
  have k6 := hrw.cell 6
  simp only [rcells, List.setIfInBounds_toArray, List.set_cons_succ, List.set_cons_zero, List.getElem?_toArray, List.getElem?_cons_succ, List.getElem?_cons_zero] at k5 k6
  have ca := fun p : LowBy W2 => p.cell k5
  have cb := fun p : LowBy W2 => p.cell k6
  have HW := Lib.hid hW2
  clear hrw k5 k6 hW2 d5 d6 g5 g6 c0 c1 c4 q1 q2
  refine wp_region_quiet_low (by assumption) (by kernel_rfl) ?_
  repeat (go_big_quiet_step (fail))
  refine wpQuiet_nil ?_
  intro _ hw'
  obtain ⟨p, hw''⟩ := hw'
  subst hw''
  have hp := Lib.hid p.low
  clear ca cb
  go_wp2
  go_ret2
  exact ⟨by rfl, w, rfl, by unfold rstepW; rw [← HW.out]; exact hp.out⟩
end Go.Proofs.Yteojhhfcfdkmdaa
