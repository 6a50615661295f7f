/- Texts of this claim, packed: RnS, SnB, SnR, SnE, SnF, SnT, SnN, SnO, SnH, RnE, RnM, SnG, SnP, SnL, SnQ, SnLd, SnU, SnX, RnF, RnG, RnP, SpR, SnK. -/
import Derived.Test.YtkbklooocdfcfaaGreatDoorPzQ
import Derived.Test.YtkbklooocdfcfaaGreatDoorPz18
import Derived.Test.YtkbklooocdfcfaaGreatDoorPz03
import Derived.Test.YtkbklooocdfcfaaGreatDoorPz07
import Derived.Test.YtkbklooocdfcfaaGreatDoorPz19
import Derived.Test.YtkbklooocdfcfaaGreatDoorPz21
import Derived.Test.YtkbklooocdfcfaaGreatDoorPz22
import Derived.Test.YtkbklooocdfcfaaGreatDoorPz12
import Derived.Test.YtkbklooocdfcfaaGreatDoorPz17
import Derived.Test.YtkbklooocdfcfaaGreatDoorPz24
import Derived.Test.YtkbklooocdfcfaaGreatDoorPz25
import Derived.BigQuiet
set_option linter.unusedVariables false
set_option maxRecDepth 100000
set_option maxHeartbeats 6400000
namespace Go.Proofs.YtkbklooocdfcfaaGreatDoor
open Go.RowKit Go.Shelf
attribute [local go_sem] Oper.semAt_some
theorem eqFnR (w : World) (g : Nat) (fi lb : Array Value) : (binOp .eql 49 (.func (.func g) fi lb) .nilFunc).run Tryz.prog w = .ok (.bool false) w := by kernel_rfl
theorem guardFnR (w : World) (g : Nat) (fi lb : Array Value) (x : Operand) : (eqGuard .eql 49 x (.const .nilFunc) (.func (.func g) fi lb) .nilFunc).run Tryz.prog w = .ok () w := by kernel_rfl
def rcells (p : Option Addr) (c : Int) (V : Value) (line : Int) (F : Value) (d : Bool) (k : Int) : Array Value := #[.pointer p, .int .i64 c, V, .int .u64 line, F, .bool d, .int .i64 k]
def nextV (f rg : Nat) : Value := .func (.func f) #[.pointer (some ⟨rg, 0, none⟩)] #[]
def Ph.no : Ph -> Nat
 | .st => 117
 | .fl => 143
 | .fe => 165
 | .en => 118
theorem Ph.fn_no (ph : Ph) (rg : Nat) : ph.fn rg = nextV ph.no rg := by cases ph <;> rfl -- of 118
theorem RunAt.cells {w : World} {rg : Nat} {p : Option Addr} {r : RnRS} {V : Value} (h : RunAt w rg p r V) : Row w rg 207 (rcells p r.c V r.line (nextV r.ph.no rg) r.done r.code) := by
 have := h.row
 rw [Ph.fn_no] at this
 exact this
def rstepW (w1 : World) (rg : Nat) (d : Bool) (k : Int) : World := (w1.setCell ⟨rg, 6, none⟩ (.int .i64 k)).setCell ⟨rg, 5, none⟩ (.bool d)
def RStepPost (P : World -> Prop) (rg : Nat) (d : Bool) (k : Int) (e : Ending) (w' : World) : Prop := e = .returned (.tuple #[.bool d, .int .i64 k]) /\ ∃ w1, P w1 /\ Below (rstepW w1 rg d k).heap.size (rstepW w1 rg d k) w'
theorem rstep_of {w : World} {p : Option Addr} {c line code k z : Int} {V : Value} {f rg : Nat} {d D : Bool} {P : World -> Prop}
  (hcall : ∀ (w : World) (v : Value), (callFunc f #[v]).run Tryz.prog w = .ok (.enter f #[v]) w) (hr : Row w rg 207 (rcells p c V line (nextV f rg) false code))
  (hc0 : 0 <= c) (hc1 : c <= 64) (hz : z ≠ 0) (hk : d = true -> k = 0) (hD : (d || !(k == 0)) = D)
  (HS : Calls Tryz.prog 30 #[.pointer p] w fun e w' => e = .returned (.int .i64 z) /\ w = w')
  (H : Calls Tryz.prog f #[.pointer (some ⟨rg, 0, none⟩)] w fun e w' => e = .returned (.int .i64 k) /\ (∃ V' line' f', Row w' rg 207 (rcells p c V' line' (nextV f' rg) d code)) /\ P w') :
  Calls Tryz.prog 79 #[.pointer (some ⟨rg, 0, none⟩)] w (RStepPost P rg D k) := by
 have mixed : Tryz.prog.follows .mixedOrders = true := by kernel_rfl
 have c0 := hr.cell 0
 have c1 := hr.cell 1
 have c4 := hr.cell 4
 have c5 := hr.cell 5
 simp only [rcells, List.getElem?_toArray, List.getElem?_cons_succ, List.getElem?_cons_zero] at c0 c1 c4 c5
 unfold nextV at c4
 have q1 := fun w => eqFnR w f #[.pointer (some ⟨rg, 0, none⟩)] #[]
 have q2 := fun w => guardFnR w f #[.pointer (some ⟨rg, 0, none⟩)] #[] (.tmp 19)
 have H := Lib.hid H
 have HS := Lib.hid HS
 have z0 : (z == 0) = false := by rw [beq_eq_false_iff_ne]; exact hz
 have z1 : decide (c < 0) = false := by rw [decide_eq_false_iff_not]; omega
 have z2 : decide (64 < c) = false := by rw [decide_eq_false_iff_not]; omega
 clear hr
 go_enter Tryz.func79, Tryz.ntmps79
 go_wp2_with fail
 refine HS.out.mono ?_
 rintro e w1 ⟨rfl, rfl⟩
 go_wp2_with fail
 refine H.out.mono ?_
 rintro e w1 ⟨rfl, ⟨V', line', f', hr1⟩, hp⟩
 have d5 := hr1.cell 5
 have d6 := hr1.cell 6
 simp only [rcells, List.getElem?_toArray, List.getElem?_cons_succ, List.getElem?_cons_zero] at d5 d6
 have g5 := hr1.free 5
 have g6 := hr1.free 6
 have HP := Lib.hid hp
 have HR := Lib.hid hr1
 clear hp hr1 c0 c1 c4 c5 q1 q2 H HS
 cases d with
 | true =>
  have hk0 := hk rfl
  subst hk0
  obtain rfl : D = true := by rw [<- hD]; rfl
  go_wp2_with fail
  obtain ⟨W2, hW2⟩ : ∃ W2, W2 = (w1.setCell ⟨rg, 6, none⟩ (.int .i64 0)).setCell ⟨rg, 5, none⟩ (.bool true) := ⟨_, rfl⟩
  rw [<- hW2]
  have hrw : Row W2 rg 207 (((rcells p c V' line' (nextV f' rg) true code).setIfInBounds 6 (.int .i64 0)).setIfInBounds 5 (.bool true)) := by rw [hW2]; exact (HR.out.set 6 _).set 5 _
  have k5 := hrw.cell 5
  have k6 := hrw.cell 6
  simp only [rcells, List.setIfInBounds_toArray, List.set_cons_succ, List.set_cons_zero, List.getElem?_toArray, List.getElem?_cons_succ, List.getElem?_cons_zero] at k5 k6
  have ca := fun p : LowBy W2 => p.cell k5
  have cb := fun p : LowBy W2 => p.cell k6
  have HW := Lib.hid hW2
  clear hrw k5 k6 hW2 d5 d6 g5 g6
  refine wp_region_quiet_low (by assumption) (by kernel_rfl) ?_
  repeat (go_big_quiet_step (fail))
  refine wpQuiet_nil ?_
  intro _ hw'
  obtain ⟨p, hw''⟩ := hw'
  subst hw''
  have hp := Lib.hid p.low
  clear ca cb
  go_wp2
  go_ret2
  exact ⟨by rfl, w1, HP.out, by unfold rstepW; rw [<- HW.out]; exact hp.out⟩
 | false =>
  by_cases hk0 : k = 0
  ·subst hk0
   obtain rfl : D = false := by rw [<- hD]; rfl
   go_wp2_with fail
   obtain ⟨W2, hW2⟩ : ∃ W2, W2 = (w1.setCell ⟨rg, 6, none⟩ (.int .i64 0)).setCell ⟨rg, 5, none⟩ (.bool false) := ⟨_, rfl⟩
   rw [<- hW2]
   have hrw : Row W2 rg 207 (((rcells p c V' line' (nextV f' rg) false code).setIfInBounds 6 (.int .i64 0)).setIfInBounds 5 (.bool false)) := by rw [hW2]; exact (HR.out.set 6 _).set 5 _
   have k5 := hrw.cell 5
   have k6 := hrw.cell 6
   simp only [rcells, List.setIfInBounds_toArray, List.set_cons_succ, List.set_cons_zero, List.getElem?_toArray, List.getElem?_cons_succ, List.getElem?_cons_zero] at k5 k6
   have ca := fun p : LowBy W2 => p.cell k5
   have cb := fun p : LowBy W2 => p.cell k6
   have HW := Lib.hid hW2
   clear hrw k5 k6 hW2 d5 d6 g5 g6
   refine wp_region_quiet_low (by assumption) (by kernel_rfl) ?_
   repeat (go_big_quiet_step (fail))
   refine wpQuiet_nil ?_
   intro _ hw'
   obtain ⟨p, hw''⟩ := hw'
   subst hw''
   have hp := Lib.hid p.low
   clear ca cb
   go_wp2
   go_ret2
   exact ⟨by rfl, w1, HP.out, by unfold rstepW; rw [<- HW.out]; exact hp.out⟩
  ·have hk1 : (k == 0) = false := by rw [beq_eq_false_iff_ne]; exact hk0
   obtain rfl : D = true := by rw [<- hD, hk1]; rfl
   clear hD
   have hk2 : (k != 0) = true := by simp [bne, hk1]
   go_wp2_with fail
   obtain ⟨W2, hW2⟩ : ∃ W2, W2 = (w1.setCell ⟨rg, 6, none⟩ (.int .i64 k)).setCell ⟨rg, 5, none⟩ (.bool true) := ⟨_, rfl⟩
   rw [<- hW2]
   have hrw : Row W2 rg 207 (((rcells p c V' line' (nextV f' rg) false code).setIfInBounds 6 (.int .i64 k)).setIfInBounds 5 (.bool true)) := by rw [hW2]; exact (HR.out.set 6 _).set 5 _
   have k5 := hrw.cell 5
   have k6 := hrw.cell 6
   simp only [rcells, List.setIfInBounds_toArray, List.set_cons_succ, List.set_cons_zero, List.getElem?_toArray, List.getElem?_cons_succ, List.getElem?_cons_zero] at k5 k6
   have ca := fun p : LowBy W2 => p.cell k5
   have cb := fun p : LowBy W2 => p.cell k6
   have HW := Lib.hid hW2
   clear hrw k5 k6 hW2 d5 d6 g5 g6
   refine wp_region_quiet_low (by assumption) (by kernel_rfl) ?_
   repeat (go_big_quiet_step (fail))
   refine wpQuiet_nil ?_
   intro _ hw'
   obtain ⟨p, hw''⟩ := hw'
   subst hw''
   have hp := Lib.hid p.low
   clear ca cb
   go_wp2
   go_ret2
   exact ⟨by rfl, w1, HP.out, by unfold rstepW; rw [<- HW.out]; exact hp.out⟩
end Go.Proofs.YtkbklooocdfcfaaGreatDoor
namespace Go.Proofs.YtkbklooocdfcfaaGreatDoor
open Go.RowKit
attribute [local go_sem] Oper.semAt_some
def FPost (g : Nat) (P : World -> Prop) (k : Int) (R : Array Value -> Prop) (e : Ending) (w' : World) : Prop := e = .returned (.int .i64 k) /\ ∃ w1 cs', P w1 /\ R cs' /\ SnSw w1 w' g cs'
def LQ (g : Nat) (cs : Array Value) (P : World -> Prop) (w' : World) : Prop := Row w' g 265 cs /\ P w'
def rBeg (v : Int) : Nat -> Int := fun j => if j = 3 then v else 0
def vBeg (v : Int) : List Value := uw 0 :: uw 0 :: uw 0 :: uw v :: List.replicate 44 (uw 0)
theorem vBeg_len (v : Int) : (vBeg v).length = 48 := rfl
theorem vBeg_at (v : Int) (j : Nat) (hj : j < 48) : (vBeg v)[j]? = some (.int .u64 (rBeg v j)) := by
 unfold vBeg rBeg
 match j with
 | 0 => rfl
 | 1 => rfl
 | 2 => rfl
 | 3 => rfl
 | j + 4 =>
  rw [if_neg (by omega)]
  simp only [List.getElem?_cons_succ]
  rw [List.getElem?_replicate, if_pos (by omega)]
theorem vBeg_one (v : Int) : (vBeg v).toArray.all (·.oneCell') = true := all_oneCell_toArray fun u hu => by
 simp only [vBeg, List.mem_cons, List.mem_replicate] at hu
 rcases hu with rfl | rfl | rfl | rfl | ⟨_, rfl⟩ <;> rfl
theorem rowThere {w : World} {g : Nat} {t : TypeId} {cs : Array Value} (h : Row w g t cs) {o n : Nat} (hn : o + n <= cs.size) : w.there g o n := fun j hj => ⟨by rw [h.cell, Array.getElem?_eq_getElem (by omega)]; rfl, h.free _⟩
theorem r2I : (Tryz.prog.info? 263).map (·.size) = some 48 := by kernel_rfl
theorem snBegin_any {w : World} {g a : Nat} {cs : Array Value} {p : Option Addr} {F : Value} {d : Bool} {k wh wd lo v kk : Int} {r : Nat -> Int} {n : Nd} {P : World -> Prop}
  (hr : Row w g 265 cs) (hs : IsS cs p F d k a r wh wd lo n) (ha : a < 18446744073709551616)
  (HL : ∀ W, Below w.heap.size w W -> Calls Tryz.prog 94 #[.pointer p, .int .u64 ((snWordAt a 3 : Nat) : Int)] W fun e' w' => e' = .returned (.tuple #[.int .u64 v, .int .i64 kk]) /\ LQ g cs P w') :
  Calls Tryz.prog 184 #[.pointer (some ⟨g, 0, none⟩)] w (FPost g P kk (fun cs' => IsS cs' p (nextV 190 g) d k a (rBeg v) 0 0 lo n)) := by
 have mixed : Tryz.prog.follows .mixedOrders = true := by kernel_rfl
 have c0 := (hr.cell 0).trans hs.c0
 have c4 := (hr.cell 4).trans hs.c4
 have HDR := Lib.hid (drew_below w)
 have STAY := Lib.hid (show ∀ W, Below w.heap.size w W -> W.cell? ⟨g, 4, none⟩ = some (.int .u64 (a : Int)) from fun W hb => (hr.below hb hr.lt).cell 4 |>.trans hs.c4)
 have STQ := Lib.hid (show ∀ W, Row W g 265 cs -> W.cell? ⟨g, 4, none⟩ = some (.int .u64 (a : Int)) from fun W h => (h.cell 4).trans hs.c4)
 have HM := Lib.hid (macLoad_any (k := 3) ((drew_below w).cell (block_lt_of_cell c0) |>.trans c0) ha (by decide) (HL _ (drew_below w)))
 have HS := Lib.hid hs
 clear hr hs HL c0 c4 ha mixed
 go_enter Tryz.func184, Tryz.ntmps184
 go_wp2_with fail
 refine wp_region_held_drew (S := fun W' => W'.cell? ⟨g, 4, none⟩ = some (.int .u64 (a : Int))) (by kernel_rfl) (STAY.out _ HDR.out) (fun hHeld => ?_)
 refine tkH (i := 0) (oi := ⟨some 6, _, _, _, _, _⟩) (v := .pointer (some ⟨g, 0, none⟩)) rfl (Or.inl ⟨by rfl, by intro WW hSw; (try dsimp only at hSw); go_simp⟩) (by assumption) ?_
 (try simp only [Act.put, q1, q2, q3])
 refine tkH (i := 1) (oi := ⟨some 7, _, _, _, _, _⟩) (v := .pointer (some ⟨g, 0, none⟩)) rfl (Or.inl ⟨by rfl, by intro WW hSw; (try dsimp only at hSw); go_simp⟩) (by assumption) ?_
 (try simp only [Act.put, q1, q2, q3])
 refine tkH (i := 2) (oi := ⟨some 8, _, _, _, _, _⟩) (v := .pointer (some ⟨g, 0, none⟩)) rfl (Or.inl ⟨by rfl, by intro WW hSw; (try dsimp only at hSw); go_simp⟩) (by assumption) ?_
 (try simp only [Act.put, q1, q2, q3])
 refine tkH (i := 3) (oi := ⟨some 9, _, _, _, _, _⟩) (v := .pointer (some ⟨g, 0, none⟩)) rfl (Or.inl ⟨by rfl, by intro WW hSw; (try dsimp only at hSw); go_simp⟩) (by assumption) ?_
 (try simp only [Act.put, q1, q2, q3])
 refine tkH (i := 4) (oi := ⟨some 10, _, _, _, _, _⟩) (v := .pointer (some ⟨g, 0, none⟩)) rfl (Or.inl ⟨by rfl, by intro WW hSw; (try dsimp only at hSw); go_simp⟩) (by assumption) ?_
 (try simp only [Act.put, q1, q2, q3])
 refine tkH (i := 5) (oi := ⟨some 11, _, _, _, _, _⟩) (v := .pointer (some ⟨g, 4, none⟩)) rfl (Or.inl ⟨by rfl, by intro WW hSw; (try dsimp only at hSw); go_simp⟩) (by assumption) ?_
 (try simp only [Act.put, q1, q2, q3])
 refine tkH (i := 6) (oi := ⟨some 12, _, _, _, _, _⟩) (v := .int .u64 (a : Int)) rfl (Or.inl ⟨by rfl, by intro WW hSw; (try dsimp only at hSw); go_simp⟩) (by assumption) ?_
 (try simp only [Act.put, q1, q2, q3])
 refine wpAnyH_one (i := 7) (oi := ⟨some 13, _, _, _, _, _⟩) rfl (by kernel_rfl) (fun K hK => ?_)
 refine step_calls (by rfl) 189 (fun args w => Tryz.call189 _ _) [.tmp 8, .tmp 12, .const (.int .i64 3)] _ rfl [.pointer (some ⟨g, 0, none⟩), .int .u64 (a : Int), .int .i64 3] rfl (HM.out) ?_
 rintro e w2 ⟨rfl, hq, hp⟩
 have HQ := Lib.hid hq
 have HP := Lib.hid hp
 clear hq hp HM
 refine ⟨_, rfl, hK _ _ (STQ.out _ HQ.out) (fun hSn => ?_)⟩
 clear hK K
 (try simp only [Act.put, q1, q2, q3])
 refine tkH (i := 8) (oi := ⟨some 5, _, _, _, _, _⟩) (v := .tuple #[.int .u64 v, .int .i64 kk]) rfl (Or.inl ⟨by rfl, by intro WW hSw; (try dsimp only at hSw); go_simp⟩) (by assumption) ?_
 (try simp only [Act.put, q1, q2, q3])
 refine tkH (i := 9) (oi := ⟨some 14, _, _, _, _, _⟩) (v := .int .u64 v) rfl (Or.inl ⟨by rfl, by intro WW hSw; (try dsimp only at hSw); go_simp⟩) (by assumption) ?_
 (try simp only [Act.put, q1, q2, q3])
 refine tkH (i := 10) (oi := ⟨some 15, _, _, _, _, _⟩) (v := .int .i64 kk) rfl (Or.inl ⟨by rfl, by intro WW hSw; (try dsimp only at hSw); go_simp⟩) (by assumption) ?_
 (try simp only [Act.put, q1, q2, q3])
 refine tkH (i := 11) (oi := ⟨some 3, _, _, _, _, _⟩) (v := .int .u64 v) rfl (Or.inl ⟨by rfl, by intro WW hSw; (try dsimp only at hSw); go_simp⟩) (by assumption) ?_
 (try simp only [Act.put, q1, q2, q3])
 refine tkH (i := 12) (oi := ⟨some 4, _, _, _, _, _⟩) (v := .int .i64 kk) rfl (Or.inl ⟨by rfl, by intro WW hSw; (try dsimp only at hSw); go_simp⟩) (by assumption) ?_
 (try simp only [Act.put, q1, q2, q3])
 refine wpAnyH_done (by kernel_rfl) ?_ _
 have hth := rowThere (o := 5) (n := 48) HQ.out (by rw [HS.out.sz]; omega)
 have SW := (SnSw.refl HQ.out).setAll 5 (vBeg v)
 have IS := HS.out.rall (vBeg_len v) (fun j hj => vBeg_at v j hj)
 obtain ⟨W3, hW3⟩ : ∃ W3, W3 = w2.setCells g 5 (vBeg v) := ⟨_, rfl⟩
 rw [<- hW3] at SW
 have c1 := (SW.row.cell 1).trans IS.c1
 have c53 := (SW.row.cell 53).trans IS.cw
 have c54 := (SW.row.cell 54).trans IS.cd
 have f1 := SW.row.free 1
 have f53 := SW.row.free 53
 have f54 := SW.row.free 54
 have HE := Lib.hid (show ∃ w1 cs', P w1 /\ IsS cs' p (nextV 190 g) d k a (rBeg v) 0 0 lo n /\ SnSw w1 (((W3.setCell ⟨g, 53, none⟩ (.int .i64 0)).setCell ⟨g, 54, none⟩ (.int .i64 0)).setCell ⟨g, 1, none⟩ (.func (.func 190) #[.pointer (some ⟨g, 0, none⟩)] #[])) g cs' from
  ⟨w2, _, HP.out, ((IS.which 0).word 0).next _, ((SW.set 53 _).set 54 _).set 1 _⟩)
 have HT := Lib.hid hth
 have HW3 := Lib.hid hW3
 clear SW IS hth hW3
 go_wp2_with ((refine wpList_store_mid rfl _ _ _ rfl g 5 (vBeg v).toArray rfl rfl HT.out r2I (vBeg_one v) ?_); rw [<- HW3.out])
 go_ret
 exact ⟨rfl, HE.out⟩
def rdF (F : Value) (g : Nat) (r : Nat -> Int) (wh wd : Nat) (v : Int) : Value :=
 if (bh wd v).2 = true then F else if wh = 0 then F else if rput r (24 * wh + wd) v 26 = 0 then nextV 201 g else nextV 200 g
def rdWh (wh wd : Nat) (v : Int) : Nat := if (bh wd v).2 = true then wh else 1
theorem bh_no {k : Nat} {v : Int} (h : (bh k v).2 = false) : 9 <= k := by
 unfold bh at h
 split at h
 ·cases h
 ·split at h
  ·cases h
  ·split at h
   ·rename_i h2
    rcases h2 with h2 | h2 <;> omega
   ·cases h
theorem rd_facts {w : World} {g wd : Nat} {cs : Array Value} {p : Option Addr} {F : Value} {d : Bool} {k a lo wz wdz : Int} {r : Nat -> Int} {n : Nd}
  (hr : Row w g 265 cs) (hs : IsS cs p F d k a r wz wdz lo n) (hwd : wd < 24) : ∀ wh : Nat, wh <= 1 -> ∀ q : LowBy w,
  (q.W.cell? ⟨g, 5 + 24 * wh + wd, none⟩ = some (.int .u64 (r (24 * wh + wd)))) /\ (∀ i, q.W.frozen? ⟨g, i, none⟩ = false) /\
  (∀ u, (q.W.setCell ⟨g, 5 + 24 * wh + wd, none⟩ u).cell? ⟨g, 54, none⟩ = some (.int .i64 wdz)) /\ (∀ u, (q.W.setCell ⟨g, 5 + 24 * wh + wd, none⟩ u).cell? ⟨g, 53, none⟩ = some (.int .i64 wz)) /\
  (∀ u, (q.W.setCell ⟨g, 5 + 24 * wh + wd, none⟩ u).cell? ⟨g, 1, none⟩ = some F) /\
  (9 <= wd -> ∀ u, (q.W.setCell ⟨g, 5 + 24 * wh + wd, none⟩ u).cell? ⟨g, 31, none⟩ = some (.int .u64 (r 26))) := by
 intro wh hwh q
 have hq := hr.below q.low hr.lt
 have ho : ∀ i, i ≠ 5 + 24 * wh + wd -> ∀ u, (q.W.setCell ⟨g, 5 + 24 * wh + wd, none⟩ u).cell? ⟨g, i, none⟩ = cs[i]? := fun i hi u => by
  rw [World.cell?_setCell_other _ _ _ _ (by simp <;> omega)]
  exact hq.cell i
 refine ⟨(hq.cell _).trans ?_, fun i => hq.free i, fun u => (ho _ (by omega) u).trans hs.cd, fun u => (ho _ (by omega) u).trans hs.cw, fun u => (ho _ (by omega) u).trans hs.c1, fun h9 u => (ho _ (by omega) u).trans (hs.rr 26 (by omega))⟩
 rw [show 5 + 24 * wh + wd = 5 + (24 * wh + wd) by omega]
 exact hs.rr _ (by omega)
theorem rd_fin {w : World} {g wh wd : Nat} {cs : Array Value} {p : Option Addr} {F : Value} {d : Bool} {k a lo wz wdz : Int} {r : Nat -> Int} {n : Nd} {P : World -> Prop}
  (hr : Row w g 265 cs) (hs : IsS cs p F d k a r wz wdz lo n) (hwd : wd < 24) (hwh : wh <= 1) (hp : P w) (q : LowBy w) (v : Int) (b : Nat) :
  ∃ cs', P w /\ IsS cs' p F d k a (rput r (24 * wh + wd) v) wz (b : Nat) lo n /\ SnSw w ((q.W.setCell ⟨g, 5 + 24 * wh + wd, none⟩ (.int .u64 v)).setCell ⟨g, 54, none⟩ (.int .i64 (b : Nat))) g cs' := by
 have h1 := hs.rset (i := 24 * wh + wd) (by omega) v
 refine ⟨_, hp, h1.word b, ?_⟩
 rw [show 5 + (24 * wh + wd) = 5 + 24 * wh + wd by omega]
 exact (((SnSw.refl hr).below q.low).set _ _).set _ _
theorem read_any {w : World} {g a wh wd : Nat} {cs : Array Value} {p : Option Addr} {F : Value} {d : Bool} {k lo v kk : Int} {r : Nat -> Int} {n : Nd} {P : World -> Prop}
  (hr : Row w g 265 cs) (hs : IsS cs p F d k a r wh wd lo n) (ha : a < 18446744073709551616) (hwh : wh = 0 \/ wh = 1) (hwd : wd < 24)
  (HL : ∀ W, Below w.heap.size w W -> Calls Tryz.prog 94 #[.pointer p, .int .u64 ((snWordAt a wd : Nat) : Int)] W fun e' w' => e' = .returned (.tuple #[.int .u64 v, .int .i64 kk]) /\ LQ g cs P w') :
  Calls Tryz.prog 190 #[.pointer (some ⟨g, 0, none⟩)] w (FPost g P kk (fun cs' => IsS cs' p (rdF F g r wh wd v) d k a (rput r (24 * wh + wd) v) (rdWh wh wd v : Nat) ((bh wd v).1 : Nat) lo n)) := by
 have mixed : Tryz.prog.follows .mixedOrders = true := by kernel_rfl
 have c0 := (hr.cell 0).trans hs.c0
 have HDR := Lib.hid (drew_below w)
 have STAY := Lib.hid (show ∀ W, Below w.heap.size w W -> W.cell? ⟨g, 4, none⟩ = some (.int .u64 (a : Int)) /\ W.cell? ⟨g, 54, none⟩ = some (.int .i64 (wd : Int)) from fun W hb => ⟨(hr.below hb hr.lt).cell 4 |>.trans hs.c4, (hr.below hb hr.lt).cell 54 |>.trans hs.cd⟩)
 have STQ := Lib.hid (show ∀ W, Row W g 265 cs -> W.cell? ⟨g, 4, none⟩ = some (.int .u64 (a : Int)) /\ W.cell? ⟨g, 54, none⟩ = some (.int .i64 (wd : Int)) from fun W h => ⟨(h.cell 4).trans hs.c4, (h.cell 54).trans hs.cd⟩)
 have HM := Lib.hid (macLoad_any (k := wd) ((drew_below w).cell (block_lt_of_cell c0) |>.trans c0) ha hwd (HL _ (drew_below w)))
 have HS := Lib.hid hs
 have HBH := Lib.hid fun W => behindS_any hwd v W
 have HWD := Lib.hid hwd
 obtain ⟨b1, hb1⟩ : ∃ b, b = (bh wd v).1 := ⟨_, rfl⟩
 obtain ⟨b2, hb2⟩ : ∃ b, b = (bh wd v).2 := ⟨_, rfl⟩
 have HB2 := Lib.hid hb2
 have HRF := Lib.hid (show rdF F g r wh wd v = (if b2 = true then F else if wh = 0 then F else if rput r (24 * wh + wd) v 26 = 0 then nextV 201 g else nextV 200 g) /\ rdWh wh wd v = if b2 = true then wh else 1 from by
  unfold rdF rdWh
  rw [<- hb2]
  exact ⟨rfl, rfl⟩)
 rw [<- hb1, <- hb2] at HBH
 rw [<- hb1]
 have HWH := Lib.hid hwh
 clear hr hs HL c0 ha hb1 hb2 hwh
 go_enter Tryz.func190, Tryz.ntmps190
 go_wp2_with fail
 refine wp_region_held_drew (S := fun W' => W'.cell? ⟨g, 4, none⟩ = some (.int .u64 (a : Int)) /\ W'.cell? ⟨g, 54, none⟩ = some (.int .i64 (wd : Int))) (by kernel_rfl) (STAY.out _ HDR.out) (fun hHeld => ?_)
 refine tkH (i := 0) (oi := ⟨some 8, _, _, _, _, _⟩) (v := .pointer (some ⟨g, 0, none⟩)) rfl (Or.inl ⟨by rfl, by intro WW hSw; (try dsimp only at hSw); go_simp⟩) (by assumption) ?_
 (try simp only [Act.put, q1, q2, q3])
 refine tkH (i := 1) (oi := ⟨some 9, _, _, _, _, _⟩) (v := .pointer (some ⟨g, 0, none⟩)) rfl (Or.inl ⟨by rfl, by intro WW hSw; (try dsimp only at hSw); go_simp⟩) (by assumption) ?_
 (try simp only [Act.put, q1, q2, q3])
 refine tkH (i := 2) (oi := ⟨some 10, _, _, _, _, _⟩) (v := .pointer (some ⟨g, 0, none⟩)) rfl (Or.inl ⟨by rfl, by intro WW hSw; (try dsimp only at hSw); go_simp⟩) (by assumption) ?_
 (try simp only [Act.put, q1, q2, q3])
 refine tkH (i := 3) (oi := ⟨some 11, _, _, _, _, _⟩) (v := .pointer (some ⟨g, 0, none⟩)) rfl (Or.inl ⟨by rfl, by intro WW hSw; (try dsimp only at hSw); go_simp⟩) (by assumption) ?_
 (try simp only [Act.put, q1, q2, q3])
 refine tkH (i := 4) (oi := ⟨some 12, _, _, _, _, _⟩) (v := .pointer (some ⟨g, 0, none⟩)) rfl (Or.inl ⟨by rfl, by intro WW hSw; (try dsimp only at hSw); go_simp⟩) (by assumption) ?_
 (try simp only [Act.put, q1, q2, q3])
 refine tkH (i := 5) (oi := ⟨some 13, _, _, _, _, _⟩) (v := .pointer (some ⟨g, 4, none⟩)) rfl (Or.inl ⟨by rfl, by intro WW hSw; (try dsimp only at hSw); go_simp⟩) (by assumption) ?_
 (try simp only [Act.put, q1, q2, q3])
 refine tkH (i := 6) (oi := ⟨some 14, _, _, _, _, _⟩) (v := .int .u64 (a : Int)) rfl (Or.inl ⟨by rfl, by intro WW hSw; (try dsimp only at hSw); go_simp⟩) (by assumption) ?_
 (try simp only [Act.put, q1, q2, q3])
 refine tkH (i := 7) (oi := ⟨some 15, _, _, _, _, _⟩) (v := .pointer (some ⟨g, 0, none⟩)) rfl (Or.inl ⟨by rfl, by intro WW hSw; (try dsimp only at hSw); go_simp⟩) (by assumption) ?_
 (try simp only [Act.put, q1, q2, q3])
 refine tkH (i := 8) (oi := ⟨some 16, _, _, _, _, _⟩) (v := .pointer (some ⟨g, 0, none⟩)) rfl (Or.inl ⟨by rfl, by intro WW hSw; (try dsimp only at hSw); go_simp⟩) (by assumption) ?_
 (try simp only [Act.put, q1, q2, q3])
 refine tkH (i := 9) (oi := ⟨some 17, _, _, _, _, _⟩) (v := .pointer (some ⟨g, 54, none⟩)) rfl (Or.inl ⟨by rfl, by intro WW hSw; (try dsimp only at hSw); go_simp⟩) (by assumption) ?_
 (try simp only [Act.put, q1, q2, q3])
 refine tkH (i := 10) (oi := ⟨some 18, _, _, _, _, _⟩) (v := .int .i64 (wd : Int)) rfl (Or.inl ⟨by rfl, by intro WW hSw; (try dsimp only at hSw); go_simp⟩) (by assumption) ?_
 (try simp only [Act.put, q1, q2, q3])
 refine wpAnyH_one (i := 11) (oi := ⟨some 19, _, _, _, _, _⟩) rfl (by kernel_rfl) (fun K hK => ?_)
 refine step_calls (by rfl) 189 (fun args w => Tryz.call189 _ _) [.tmp 10, .tmp 14, .tmp 18] _ rfl [.pointer (some ⟨g, 0, none⟩), .int .u64 (a : Int), .int .i64 (wd : Int)] rfl (HM.out) ?_
 rintro e w2 ⟨rfl, hq, hp⟩
 have HQ := Lib.hid hq
 have HP := Lib.hid hp
 clear hq hp HM
 refine ⟨_, rfl, hK _ _ (STQ.out _ HQ.out) (fun hSn => ?_)⟩
 clear hK K
 (try simp only [Act.put, q1, q2, q3])
 refine tkH (i := 12) (oi := ⟨some 7, _, _, _, _, _⟩) (v := .tuple #[.int .u64 v, .int .i64 kk]) rfl (Or.inl ⟨by rfl, by intro WW hSw; (try dsimp only at hSw); go_simp⟩) (by assumption) ?_
 (try simp only [Act.put, q1, q2, q3])
 refine tkH (i := 13) (oi := ⟨some 20, _, _, _, _, _⟩) (v := .int .u64 v) rfl (Or.inl ⟨by rfl, by intro WW hSw; (try dsimp only at hSw); go_simp⟩) (by assumption) ?_
 (try simp only [Act.put, q1, q2, q3])
 refine tkH (i := 14) (oi := ⟨some 21, _, _, _, _, _⟩) (v := .int .i64 kk) rfl (Or.inl ⟨by rfl, by intro WW hSw; (try dsimp only at hSw); go_simp⟩) (by assumption) ?_
 (try simp only [Act.put, q1, q2, q3])
 refine tkH (i := 15) (oi := ⟨some 3, _, _, _, _, _⟩) (v := .int .u64 v) rfl (Or.inl ⟨by rfl, by intro WW hSw; (try dsimp only at hSw); go_simp⟩) (by assumption) ?_
 (try simp only [Act.put, q1, q2, q3])
 refine tkH (i := 16) (oi := ⟨some 4, _, _, _, _, _⟩) (v := .int .i64 kk) rfl (Or.inl ⟨by rfl, by intro WW hSw; (try dsimp only at hSw); go_simp⟩) (by assumption) ?_
 (try simp only [Act.put, q1, q2, q3])
 refine wpAnyH_done (by kernel_rfl) ?_ _
 go_wp2_with fail
 have c53 := (HQ.out.cell 53).trans HS.out.cw
 have c54 := (HQ.out.cell 54).trans HS.out.cd
 have ca := fun q : LowBy w2 => q.cell c53
 have cb := fun q : LowBy w2 => q.cell c54
 clear c53 c54 STQ hSn hHeld STAY HDR
 have HX := Lib.hid (rd_facts HQ.out HS.out hwd)
 rcases HWH.out with rfl | rfl
 ·refine wp_region_low_tail 14 (by assumption) (by kernel_rfl) ?_
  simp only [List.take_succ_cons, List.take_zero, List.drop_succ_cons, List.drop_zero]
  repeat (go_big_quiet_step (fail))
  refine wpQuiet_nil ?_
  intro _ hw'
  obtain ⟨q, hw''⟩ := hw'
  subst hw''
  obtain ⟨e1, e2, e3, e4, e5, e6⟩ := HX.out 0 (by omega) q
  have FIN := rd_fin (wh := 0) HQ.out HS.out HWD.out (by omega) HP.out q v b1
  rw [show 5 + 24 * 0 + wd = 5 + wd by omega] at e1 e3 e4 e5 e6 FIN
  clear ca cb HX
  obtain ⟨cs', fp, fi, fs⟩ := FIN
  cases b2 with
  | true =>
   have HE := Lib.hid (show ∃ w1 cs', P w1 /\ IsS cs' p (rdF F g r 0 wd v) d k a (rput r (24 * 0 + wd) v) (rdWh 0 wd v : Nat) (b1 : Nat) lo n /\ SnSw w1 ((q.W.setCell ⟨g, 5 + wd, none⟩ (.int .u64 v)).setCell ⟨g, 54, none⟩ (.int .i64 (b1 : Nat))) g cs' from
    ⟨w2, cs', fp, by rw [HRF.out.1, HRF.out.2]; exact fi, fs⟩)
   clear e6 fp fi fs HRF
   go_wp2_with (refine (HBH.out _).mono ?_; rintro e w3 ⟨rfl, rfl⟩)
   go_ret
   exact ⟨rfl, HE.out⟩
  | false =>
   have HE := Lib.hid (show ∃ w1 cs', P w1 /\ IsS cs' p (rdF F g r 0 wd v) d k a (rput r (24 * 0 + wd) v) (rdWh 0 wd v : Nat) (b1 : Nat) lo n /\ SnSw w1 (((q.W.setCell ⟨g, 5 + wd, none⟩ (.int .u64 v)).setCell ⟨g, 54, none⟩ (.int .i64 (b1 : Nat))).setCell ⟨g, 53, none⟩ (.int .i64 1)) g cs' from
    ⟨w2, _, fp, by rw [HRF.out.1, HRF.out.2]; exact fi.which 1, fs.set 53 _⟩)
   clear e6 fp fi fs HRF
   go_wp2_with (refine (HBH.out _).mono ?_; rintro e w3 ⟨rfl, rfl⟩)
   go_ret
   exact ⟨rfl, HE.out⟩
 ·refine wp_region_low_tail 14 (by assumption) (by kernel_rfl) ?_
  simp only [List.take_succ_cons, List.take_zero, List.drop_succ_cons, List.drop_zero]
  repeat (go_big_quiet_step (fail))
  refine wpQuiet_nil ?_
  intro _ hw'
  obtain ⟨q, hw''⟩ := hw'
  subst hw''
  obtain ⟨e1, e2, e3, e4, e5, e6⟩ := HX.out 1 (by omega) q
  have FIN := rd_fin (wh := 1) HQ.out HS.out HWD.out (by omega) HP.out q v b1
  rw [show 5 + 24 * 1 + wd = 29 + wd by omega] at e1 e3 e4 e5 e6 FIN
  clear ca cb HX
  obtain ⟨cs', fp, fi, fs⟩ := FIN
  cases b2 with
  | true =>
   have HE := Lib.hid (show ∃ w1 cs', P w1 /\ IsS cs' p (rdF F g r 1 wd v) d k a (rput r (24 * 1 + wd) v) (rdWh 1 wd v : Nat) (b1 : Nat) lo n /\ SnSw w1 ((q.W.setCell ⟨g, 29 + wd, none⟩ (.int .u64 v)).setCell ⟨g, 54, none⟩ (.int .i64 (b1 : Nat))) g cs' from
    ⟨w2, cs', fp, by rw [HRF.out.1, HRF.out.2]; exact fi, fs⟩)
   clear e6 fp fi fs HRF
   go_wp2_with (refine (HBH.out _).mono ?_; rintro e w3 ⟨rfl, rfl⟩)
   go_ret
   exact ⟨rfl, HE.out⟩
  | false =>
   have e6 := e6 (bh_no HB2.out.symm)
   have hn26 : rput r (24 * 1 + wd) v 26 = r 26 := by
    have := bh_no HB2.out.symm
    unfold rput
    rw [if_neg (by omega)]
   by_cases h26 : r 26 = 0
   ·have HE := Lib.hid (show ∃ w1 cs', P w1 /\ IsS cs' p (rdF F g r 1 wd v) d k a (rput r (24 * 1 + wd) v) (rdWh 1 wd v : Nat) (b1 : Nat) lo n /\ SnSw w1 (((q.W.setCell ⟨g, 29 + wd, none⟩ (.int .u64 v)).setCell ⟨g, 54, none⟩ (.int .i64 (b1 : Nat))).setCell ⟨g, 1, none⟩ (.func (.func 201) #[.pointer (some ⟨g, 0, none⟩)] #[])) g cs' from
     ⟨w2, _, fp, by rw [HRF.out.1, HRF.out.2, hn26, h26]; exact fi.next _, fs.set 1 _⟩)
    have hb : (r 26 != 0) = false := by simp [h26]
    clear fp fi fs HRF hn26
    obtain ⟨z, hz⟩ : ∃ z, z = r 26 := ⟨_, rfl⟩
    rw [<- hz] at e6 hb
    clear hz h26
    go_wp2_with (refine (HBH.out _).mono ?_; rintro e w3 ⟨rfl, rfl⟩)
    go_ret
    exact ⟨rfl, HE.out⟩
   ·have HE := Lib.hid (show ∃ w1 cs', P w1 /\ IsS cs' p (rdF F g r 1 wd v) d k a (rput r (24 * 1 + wd) v) (rdWh 1 wd v : Nat) (b1 : Nat) lo n /\ SnSw w1 (((q.W.setCell ⟨g, 29 + wd, none⟩ (.int .u64 v)).setCell ⟨g, 54, none⟩ (.int .i64 (b1 : Nat))).setCell ⟨g, 1, none⟩ (.func (.func 200) #[.pointer (some ⟨g, 0, none⟩)] #[])) g cs' from
     ⟨w2, _, fp, by rw [HRF.out.1, HRF.out.2, hn26, if_neg (by simp), if_neg (by simp), if_neg h26, if_neg (by simp)]; exact fi.next _, fs.set 1 _⟩)
    have hb : (r 26 != 0) = true := by simp [h26]
    clear fp fi fs HRF hn26
    obtain ⟨z, hz⟩ : ∃ z, z = r 26 := ⟨_, rfl⟩
    rw [<- hz] at e6 hb
    clear hz h26
    go_wp2_with (refine (HBH.out _).mono ?_; rintro e w3 ⟨rfl, rfl⟩)
    go_ret
    exact ⟨rfl, HE.out⟩
theorem readLow_any {w : World} {g a : Nat} {cs : Array Value} {p : Option Addr} {F : Value} {d : Bool} {k at' wh wd lo v kk : Int} {r : Nat -> Int} {n : Nd} {P : World -> Prop}
  (hr : Row w g 265 cs) (hs : IsS cs p F d k at' r wh wd lo n) (h26 : r 26 = (a : Int)) (ha : a < 18446744073709551616)
  (HL : ∀ W, Below w.heap.size w W -> Calls Tryz.prog 94 #[.pointer p, .int .u64 ((snWordAt a 1 : Nat) : Int)] W fun e' w' => e' = .returned (.tuple #[.int .u64 v, .int .i64 kk]) /\ LQ g cs P w') :
  Calls Tryz.prog 200 #[.pointer (some ⟨g, 0, none⟩)] w (FPost g P kk (fun cs' => IsS cs' p (nextV 201 g) d k at' r wh wd v n)) := by
 have c0 := (hr.cell 0).trans hs.c0
 have HDR := Lib.hid (drew_below w)
 have STAY := Lib.hid (show ∀ W, Below w.heap.size w W -> W.cell? ⟨g, 31, none⟩ = some (.int .u64 (a : Int)) from fun W hb => by rw [<- h26]; exact (hr.below hb hr.lt).cell 31 |>.trans (hs.rr 26 (by omega)))
 have STQ := Lib.hid (show ∀ W, Row W g 265 cs -> W.cell? ⟨g, 31, none⟩ = some (.int .u64 (a : Int)) from fun W h => by rw [<- h26]; exact (h.cell 31).trans (hs.rr 26 (by omega)))
 have HM := Lib.hid (macLoad_any (k := 1) ((drew_below w).cell (block_lt_of_cell c0) |>.trans c0) ha (by decide) (HL _ (drew_below w)))
 have HS := Lib.hid hs
 clear hr hs HL c0 ha h26
 go_enter Tryz.func200, Tryz.ntmps200
 go_wp2_with fail
 refine wp_region_held_drew (S := fun W' => W'.cell? ⟨g, 31, none⟩ = some (.int .u64 (a : Int))) (by kernel_rfl) (STAY.out _ HDR.out) (fun hHeld => ?_)
 refine tkH (i := 0) (oi := ⟨some 6, _, _, _, _, _⟩) (v := .pointer (some ⟨g, 0, none⟩)) rfl (Or.inl ⟨by rfl, by intro WW hSw; (try dsimp only at hSw); go_simp⟩) (by assumption) ?_
 (try simp only [Act.put, q1, q2, q3])
 refine tkH (i := 1) (oi := ⟨some 7, _, _, _, _, _⟩) (v := .pointer (some ⟨g, 0, none⟩)) rfl (Or.inl ⟨by rfl, by intro WW hSw; (try dsimp only at hSw); go_simp⟩) (by assumption) ?_
 (try simp only [Act.put, q1, q2, q3])
 refine tkH (i := 2) (oi := ⟨some 8, _, _, _, _, _⟩) (v := .pointer (some ⟨g, 0, none⟩)) rfl (Or.inl ⟨by rfl, by intro WW hSw; (try dsimp only at hSw); go_simp⟩) (by assumption) ?_
 (try simp only [Act.put, q1, q2, q3])
 refine tkH (i := 3) (oi := ⟨some 9, _, _, _, _, _⟩) (v := .pointer (some ⟨g, 0, none⟩)) rfl (Or.inl ⟨by rfl, by intro WW hSw; (try dsimp only at hSw); go_simp⟩) (by assumption) ?_
 (try simp only [Act.put, q1, q2, q3])
 refine tkH (i := 4) (oi := ⟨some 10, _, _, _, _, _⟩) (v := .pointer (some ⟨g, 0, none⟩)) rfl (Or.inl ⟨by rfl, by intro WW hSw; (try dsimp only at hSw); go_simp⟩) (by assumption) ?_
 (try simp only [Act.put, q1, q2, q3])
 refine tkH (i := 5) (oi := ⟨some 11, _, _, _, _, _⟩) (v := .pointer (some ⟨g, 5, none⟩)) rfl (Or.inl ⟨by rfl, by intro WW hSw; (try dsimp only at hSw); go_simp⟩) (by assumption) ?_
 (try simp only [Act.put, q1, q2, q3])
 refine tkH (i := 6) (oi := ⟨some 12, _, _, _, _, _⟩) (v := .pointer (some ⟨g, 29, none⟩)) rfl (Or.inl ⟨by rfl, by intro WW hSw; (try dsimp only at hSw); go_simp⟩) (by assumption) ?_
 (try simp only [Act.put, q1, q2, q3])
 refine tkH (i := 7) (oi := ⟨some 13, _, _, _, _, _⟩) (v := .pointer (some ⟨g, 31, none⟩)) rfl (Or.inl ⟨by rfl, by intro WW hSw; (try dsimp only at hSw); go_simp⟩) (by assumption) ?_
 (try simp only [Act.put, q1, q2, q3])
 refine tkH (i := 8) (oi := ⟨some 14, _, _, _, _, _⟩) (v := .int .u64 (a : Int)) rfl (Or.inl ⟨by rfl, by intro WW hSw; (try dsimp only at hSw); go_simp⟩) (by assumption) ?_
 (try simp only [Act.put, q1, q2, q3])
 refine wpAnyH_one (i := 9) (oi := ⟨some 15, _, _, _, _, _⟩) rfl (by kernel_rfl) (fun K hK => ?_)
 refine step_calls (by rfl) 189 (fun args w => Tryz.call189 _ _) [.tmp 8, .tmp 14, .const (.int .i64 1)] _ rfl [.pointer (some ⟨g, 0, none⟩), .int .u64 (a : Int), .int .i64 1] rfl (HM.out) ?_
 rintro e w2 ⟨rfl, hq, hp⟩
 have HQ := Lib.hid hq
 have HP := Lib.hid hp
 clear hq hp HM
 refine ⟨_, rfl, hK _ _ (STQ.out _ HQ.out) (fun hSn => ?_)⟩
 clear hK K
 (try simp only [Act.put, q1, q2, q3])
 refine tkH (i := 10) (oi := ⟨some 5, _, _, _, _, _⟩) (v := .tuple #[.int .u64 v, .int .i64 kk]) rfl (Or.inl ⟨by rfl, by intro WW hSw; (try dsimp only at hSw); go_simp⟩) (by assumption) ?_
 (try simp only [Act.put, q1, q2, q3])
 refine tkH (i := 11) (oi := ⟨some 16, _, _, _, _, _⟩) (v := .int .u64 v) rfl (Or.inl ⟨by rfl, by intro WW hSw; (try dsimp only at hSw); go_simp⟩) (by assumption) ?_
 (try simp only [Act.put, q1, q2, q3])
 refine tkH (i := 12) (oi := ⟨some 17, _, _, _, _, _⟩) (v := .int .i64 kk) rfl (Or.inl ⟨by rfl, by intro WW hSw; (try dsimp only at hSw); go_simp⟩) (by assumption) ?_
 (try simp only [Act.put, q1, q2, q3])
 refine tkH (i := 13) (oi := ⟨some 3, _, _, _, _, _⟩) (v := .int .u64 v) rfl (Or.inl ⟨by rfl, by intro WW hSw; (try dsimp only at hSw); go_simp⟩) (by assumption) ?_
 (try simp only [Act.put, q1, q2, q3])
 refine tkH (i := 14) (oi := ⟨some 4, _, _, _, _, _⟩) (v := .int .i64 kk) rfl (Or.inl ⟨by rfl, by intro WW hSw; (try dsimp only at hSw); go_simp⟩) (by assumption) ?_
 (try simp only [Act.put, q1, q2, q3])
 refine wpAnyH_done (by kernel_rfl) ?_ _
 have c1 := (HQ.out.cell 1).trans HS.out.c1
 have c55 := (HQ.out.cell 55).trans HS.out.cl
 have f1 := HQ.out.free 1
 have f55 := HQ.out.free 55
 have HE := Lib.hid (show ∃ w1 cs', P w1 /\ IsS cs' p (nextV 201 g) d k at' r wh wd v n /\ SnSw w1 ((w2.setCell ⟨g, 55, none⟩ (.int .u64 v)).setCell ⟨g, 1, none⟩ (.func (.func 201) #[.pointer (some ⟨g, 0, none⟩)] #[])) g cs' from
  ⟨w2, _, HP.out, (HS.out.low v).next _, ((SnSw.refl HQ.out).set 55 _).set 1 _⟩)
 clear STQ hHeld hSn
 go_wp2
 go_ret
 exact ⟨rfl, HE.out⟩
def sameR (r : Nat -> Int) : Bool := (List.range 24).all fun j => r j == r (24 + j)
def rdL (r : Nat -> Int) (o : Nat) : List Int := (List.range 24).map fun j => r (o + j)
theorem rdL_len (r : Nat -> Int) (o : Nat) : (rdL r o).length = 24 := by simp [rdL]
theorem rdL_at (r : Nat -> Int) (o : Nat) {j : Nat} (hj : j < 24) : wAt (rdL r o) j = r (o + j) := by
 unfold wAt rdL
 rw [List.getD_eq_getElem?_getD, List.getElem?_map, List.getElem?_range hj]
 rfl
theorem rdL_get (r : Nat -> Int) (o : Nat) {j : Nat} (hj : j < 24) : ((rdL r o).map uw)[j]? = some (.int .u64 (r (o + j))) := by
 rw [wAt_get (rdL_len r o) hj, rdL_at r o hj]
theorem infUr : (Tryz.prog.info? 29).map (fun i => (i.zero, i.size, i.bytes)) = some (some (.int .u64 0), 1, 8) := by kernel_rfl
theorem celUr : Tryz.prog.cellsOf 29 = 1 := by kernel_rfl
theorem plnUr : Tryz.prog.plainKey 29 = true := by kernel_rfl
theorem itemsR (f g : Nat -> Int) (xs ys : Array Value) (w : World) : ∀ is : List Nat, (∀ i ∈ is, xs[i]? = some (.int .u64 (f i)) /\ ys[i]? = some (.int .u64 (g i))) -> (Op.eqItems 9999 29 1 xs ys is).run Tryz.prog w = .ok (is.all fun i => f i == g i) w
 | [], _ => by simp [Op.eqItems]
 | i :: is, h => by
  obtain ⟨hx, hy⟩ := h i (by simp)
  have hp := run_part_plain (P := Tryz.prog) w plnUr (xs := xs) (off := i) hx
  have hq := run_part_plain (P := Tryz.prog) w plnUr (xs := ys) (off := i) hy
  have he := run_equalIn_int (P := Tryz.prog) w 9998 29 .u64 .u64 (f i) (g i) Tryz.underlying29
  have hi := itemsR f g xs ys w is (fun j hj => h j (by simp [hj]))
  cases hb : (f i == g i) <;> rw [hb] at he <;> simp [Op.eqItems, Sem.run_bind, Nat.mul_one, hp, hq, Result.andThen_ok, he, hb, hi, List.all_cons]
theorem neqR (r : Nat -> Int) (w : World) : (binOp .neq 262 (.agg ((rdL r 0).map uw).toArray) (.agg ((rdL r 24).map uw).toArray)).run Tryz.prog w = .ok (.bool (!sameR r)) w := by
 obtain ⟨i0, hi0, hz0, hz1, hz2⟩ := info_parts infUr
 rw [run_neq_struct, run_equalIn_array (P := Tryz.prog) w 9999 _ _ Tryz.underlying262 hi0, celUr,
  itemsR (fun j => r j) (fun j => r (24 + j)) _ _ w _ (fun i hi => by
   have hi := List.mem_range.1 hi
   rw [List.getElem?_toArray, List.getElem?_toArray, rdL_get r 0 hi, rdL_get r 24 hi, Nat.zero_add]
   exact ⟨rfl, rfl⟩)]
 rfl
theorem rdI : (Tryz.prog.info? 262).map (·.size) = some 24 := by kernel_rfl
theorem rdRange {w : World} {g : Nat} {cs : Array Value} {p : Option Addr} {F : Value} {d : Bool} {k a wh wd lo : Int} {r : Nat -> Int} {n : Nd} (hr : Row w g 265 cs) (hs : IsS cs p F d k a r wh wd lo n) (o : Nat) (ho : o <= 24) : w.rangeAt g (5 + o) ((rdL r o).map uw) := fun j v hv => by
 have hj : j < 24 := by have := (List.getElem?_eq_some_iff.1 hv).1; simpa [rdL] using this
 rw [rdL_get r o hj] at hv
 rw [hr.cell, show 5 + o + j = 5 + (o + j) by omega, hs.rr _ (by omega)]
 exact hv
def enF (F : Value) (g : Nat) (r : Nat -> Int) (kk : Int) : Value := if kk = 0 /\ sameR r = true then F else nextV 184 g
def enD (d : Bool) (r : Nat -> Int) (kk : Int) : Bool := if kk = 0 /\ sameR r = true then true else d
def enN (n : Nd) (r : Nat -> Int) (kk : Int) : Nd := if kk = 0 /\ sameR r = true then (ofR (rdL r 24)).1 else n
def enK (r : Nat -> Int) (kk : Int) : Int := if kk = 0 /\ sameR r = true then (ofR (rdL r 24)).2 else kk
theorem end_any {w : World} {g a : Nat} {cs : Array Value} {p : Option Addr} {F : Value} {d : Bool} {k wh wd lo v kk : Int} {r : Nat -> Int} {n : Nd} {P : World -> Prop}
  (hr : Row w g 265 cs) (hs : IsS cs p F d k a r wh wd lo n) (ha : a < 18446744073709551616) (h24 : 0 <= r 24 /\ r 24 < 18446744073709551616)
  (HL : ∀ W, Below w.heap.size w W -> Calls Tryz.prog 94 #[.pointer p, .int .u64 ((snWordAt a 3 : Nat) : Int)] W fun e' w' => e' = .returned (.tuple #[.int .u64 v, .int .i64 kk]) /\ LQ g cs P w') :
  Calls Tryz.prog 201 #[.pointer (some ⟨g, 0, none⟩)] w (FPost g P (enK (rput r 27 v) kk) (fun cs' => IsS cs' p (enF F g (rput r 27 v) kk) (enD d (rput r 27 v) kk) k a (rput r 27 v) wh wd lo (enN n (rput r 27 v) kk))) := by
 have mixed : Tryz.prog.follows .mixedOrders = true := by kernel_rfl
 have c0 := (hr.cell 0).trans hs.c0
 have HDR := Lib.hid (drew_below w)
 have STAY := Lib.hid (show ∀ W, Below w.heap.size w W -> W.cell? ⟨g, 4, none⟩ = some (.int .u64 (a : Int)) from fun W hb => (hr.below hb hr.lt).cell 4 |>.trans hs.c4)
 have STQ := Lib.hid (show ∀ W, Row W g 265 cs -> W.cell? ⟨g, 4, none⟩ = some (.int .u64 (a : Int)) from fun W h => (h.cell 4).trans hs.c4)
 have HM := Lib.hid (macLoad_any (k := 3) ((drew_below w).cell (block_lt_of_cell c0) |>.trans c0) ha (by decide) (HL _ (drew_below w)))
 have HS := Lib.hid hs
 have H24 := Lib.hid (show 0 <= wAt (rdL (rput r 27 v) 24) 0 /\ wAt (rdL (rput r 27 v) 24) 0 < 18446744073709551616 from by rw [rdL_at _ _ (by omega)]; exact h24)
 have HSW := Lib.hid (show ∀ w2, Row w2 g 265 cs -> ∃ cs3, SnSw w2 (w2.setCell ⟨g, 32, none⟩ (.int .u64 v)) g cs3 /\ IsS cs3 p F d k a (rput r 27 v) wh wd lo n from fun w2 h => ⟨_, (SnSw.refl h).set 32 _, hs.rset (i := 27) (by omega) v⟩)
 obtain ⟨r', hr'⟩ : ∃ r', r' = rput r 27 v := ⟨_, rfl⟩
 rw [<- hr'] at HSW H24 ⊢
 clear hr hs HL c0 ha h24 hr'
 by_cases hk : kk = 0
 ·by_cases hsm : sameR r' = true
  ·have HG := Lib.hid (show enF F g r' kk = F /\ enD d r' kk = true /\ enN n r' kk = (ofR (rdL r' 24)).1 /\ enK r' kk = (ofR (rdL r' 24)).2 from by
    unfold enF enD enN enK
    simp only [hk, hsm, and_self, if_true])
   rw [HG.out.1, HG.out.2.1, HG.out.2.2.1, HG.out.2.2.2]
   have hnq := fun W => neqR r' W
   simp only [hsm, Bool.not_true] at hnq
   have HOF := Lib.hid fun W => nOf_any (rdL_len r' 24) H24.out W
   obtain ⟨m, hm⟩ : ∃ m, m = (ofR (rdL r' 24)).1 := ⟨_, rfl⟩
   obtain ⟨e1, he1⟩ : ∃ e1, e1 = (ofR (rdL r' 24)).2 := ⟨_, rfl⟩
   rw [<- hm, <- he1] at HOF ⊢
   clear HG hsm H24 hm he1
   subst hk
   go_enter Tryz.func201, Tryz.ntmps201
   go_wp2_with fail
   refine wp_region_held_drew (S := fun W' => W'.cell? ⟨g, 4, none⟩ = some (.int .u64 (a : Int))) (by kernel_rfl) (STAY.out _ HDR.out) (fun hHeld => ?_)
   refine tkH (i := 0) (oi := ⟨some 6, _, _, _, _, _⟩) (v := .pointer (some ⟨g, 0, none⟩)) rfl (Or.inl ⟨by rfl, by intro WW hSw; (try dsimp only at hSw); go_simp⟩) (by assumption) ?_
   (try simp only [Act.put, q1, q2, q3])
   refine tkH (i := 1) (oi := ⟨some 7, _, _, _, _, _⟩) (v := .pointer (some ⟨g, 0, none⟩)) rfl (Or.inl ⟨by rfl, by intro WW hSw; (try dsimp only at hSw); go_simp⟩) (by assumption) ?_
   (try simp only [Act.put, q1, q2, q3])
   refine tkH (i := 2) (oi := ⟨some 8, _, _, _, _, _⟩) (v := .pointer (some ⟨g, 0, none⟩)) rfl (Or.inl ⟨by rfl, by intro WW hSw; (try dsimp only at hSw); go_simp⟩) (by assumption) ?_
   (try simp only [Act.put, q1, q2, q3])
   refine tkH (i := 3) (oi := ⟨some 9, _, _, _, _, _⟩) (v := .pointer (some ⟨g, 0, none⟩)) rfl (Or.inl ⟨by rfl, by intro WW hSw; (try dsimp only at hSw); go_simp⟩) (by assumption) ?_
   (try simp only [Act.put, q1, q2, q3])
   refine tkH (i := 4) (oi := ⟨some 10, _, _, _, _, _⟩) (v := .pointer (some ⟨g, 0, none⟩)) rfl (Or.inl ⟨by rfl, by intro WW hSw; (try dsimp only at hSw); go_simp⟩) (by assumption) ?_
   (try simp only [Act.put, q1, q2, q3])
   refine tkH (i := 5) (oi := ⟨some 11, _, _, _, _, _⟩) (v := .pointer (some ⟨g, 4, none⟩)) rfl (Or.inl ⟨by rfl, by intro WW hSw; (try dsimp only at hSw); go_simp⟩) (by assumption) ?_
   (try simp only [Act.put, q1, q2, q3])
   refine tkH (i := 6) (oi := ⟨some 12, _, _, _, _, _⟩) (v := .int .u64 (a : Int)) rfl (Or.inl ⟨by rfl, by intro WW hSw; (try dsimp only at hSw); go_simp⟩) (by assumption) ?_
   (try simp only [Act.put, q1, q2, q3])
   refine wpAnyH_one (i := 7) (oi := ⟨some 13, _, _, _, _, _⟩) rfl (by kernel_rfl) (fun K hK => ?_)
   refine step_calls (by rfl) 189 (fun args w => Tryz.call189 _ _) [.tmp 8, .tmp 12, .const (.int .i64 3)] _ rfl [.pointer (some ⟨g, 0, none⟩), .int .u64 (a : Int), .int .i64 3] rfl (HM.out) ?_
   rintro e w2 ⟨rfl, hq, hp⟩
   have HQ := Lib.hid hq
   have HP := Lib.hid hp
   clear hq hp HM
   refine ⟨_, rfl, hK _ _ (STQ.out _ HQ.out) (fun hSn => ?_)⟩
   clear hK K
   (try simp only [Act.put, q1, q2, q3])
   refine tkH (i := 8) (oi := ⟨some 5, _, _, _, _, _⟩) (v := .tuple #[.int .u64 v, .int .i64 0]) rfl (Or.inl ⟨by rfl, by intro WW hSw; (try dsimp only at hSw); go_simp⟩) (by assumption) ?_
   (try simp only [Act.put, q1, q2, q3])
   refine tkH (i := 9) (oi := ⟨some 14, _, _, _, _, _⟩) (v := .int .u64 v) rfl (Or.inl ⟨by rfl, by intro WW hSw; (try dsimp only at hSw); go_simp⟩) (by assumption) ?_
   (try simp only [Act.put, q1, q2, q3])
   refine tkH (i := 10) (oi := ⟨some 15, _, _, _, _, _⟩) (v := .int .i64 0) rfl (Or.inl ⟨by rfl, by intro WW hSw; (try dsimp only at hSw); go_simp⟩) (by assumption) ?_
   (try simp only [Act.put, q1, q2, q3])
   refine tkH (i := 11) (oi := ⟨some 3, _, _, _, _, _⟩) (v := .int .u64 v) rfl (Or.inl ⟨by rfl, by intro WW hSw; (try dsimp only at hSw); go_simp⟩) (by assumption) ?_
   (try simp only [Act.put, q1, q2, q3])
   refine tkH (i := 12) (oi := ⟨some 4, _, _, _, _, _⟩) (v := .int .i64 0) rfl (Or.inl ⟨by rfl, by intro WW hSw; (try dsimp only at hSw); go_simp⟩) (by assumption) ?_
   (try simp only [Act.put, q1, q2, q3])
   refine wpAnyH_done (by kernel_rfl) ?_ _
   clear STQ hHeld hSn STAY HDR
   have c32 := (HQ.out.cell 32).trans (HS.out.rr 27 (by omega))
   have f32 := HQ.out.free 32
   obtain ⟨cs3, S3, I3⟩ := HSW.out _ HQ.out
   obtain ⟨W3, hW3⟩ : ∃ W3, W3 = w2.setCell ⟨g, 32, none⟩ (.int .u64 v) := ⟨_, rfl⟩
   rw [<- hW3] at S3
   have HS3 := Lib.hid S3
   have HI3 := Lib.hid I3
   clear HSW HS
   have hR0 := Lib.hid (fun (w' : World) (h : ∃ q : LowBy W3, w' = q.W) => (show w'.rangeAt g 5 ((rdL r' 0).map uw) by obtain ⟨q, rfl⟩ := h; exact rdRange (S3.row.below q.low S3.row.lt) I3 0 (by omega)))
   have hR1 := Lib.hid (fun (w' : World) (h : ∃ q : LowBy W3, w' = q.W) => (show w'.rangeAt g 29 ((rdL r' 24).map uw) by obtain ⟨q, rfl⟩ := h; exact rdRange (S3.row.below q.low S3.row.lt) I3 24 (by omega)))
   have HF := Lib.hid (fun q : LowBy W3 => (show SnSw w2 q.W g cs3 from S3.below q.low))
   clear S3 I3
   go_wp2_with fail
   rw [<- hW3]
   clear hW3 c32 f32
   refine wp_region_quiet_low (by assumption) (by kernel_rfl) ?_
   repeat (first | go_big_quiet_skip | (go_big_quiet_want; first | (refine quiet_load_mid 262 _ rfl g 5 rfl ((rdL r' 0).map uw) _ hR0.out Tryz.underlying262 rfl (by rw [List.length_map, rdL_len]; exact rdI) ?_; simp only [Act.put, List.setIfInBounds_toArray, List.set_cons_succ, List.set_cons_zero]; go_big_quiet_on) | (refine quiet_load_mid 262 _ rfl g 29 rfl ((rdL r' 24).map uw) _ hR1.out Tryz.underlying262 rfl (by rw [List.length_map, rdL_len]; exact rdI) ?_; simp only [Act.put, List.setIfInBounds_toArray, List.set_cons_succ, List.set_cons_zero]; go_big_quiet_on) | (go_big_quiet_op; first | go_big_quiet_on)))
   refine wpQuiet_nil ?_
   intro _ hw'
   obtain ⟨q, hw''⟩ := hw'
   subst hw''
   have S4 := HF.out q
   have d2 := (S4.row.cell 2).trans HI3.out.c2
   have g2 := S4.row.free 2
   obtain ⟨W4, hW4⟩ : ∃ W4, W4 = q.W := ⟨_, rfl⟩
   rw [<- hW4] at S4 d2 g2 ⊢
   have S5 := S4.set 2 (.bool true)
   have I5 := HI3.out.done true
   obtain ⟨W5, hW5⟩ : ∃ W5, W5 = W4.setCell ⟨g, 2, none⟩ (.bool true) := ⟨_, rfl⟩
   rw [<- hW5] at S5
   have HS5 := Lib.hid S5
   have HI5 := Lib.hid I5
   have hR5 := Lib.hid (rdRange S5.row I5 24 (by omega))
   clear HF hR0 hR1 hW4 S4 S5 I5 hnq HS3 HI3
   have HW5 := Lib.hid hW5
   clear hW5
   go_wp2_with (first
    | (rw [<- HW5.out])
    | (refine wpList_load_mid rfl _ _ rfl g 29 rfl ((rdL r' 24).map uw) _ hR5.out Tryz.underlying262 rfl (by rw [List.length_map, rdL_len]; exact rdI) ?_)
    | ((with_reducible refine (HOF.out _).mono ?_); rintro e w6 ⟨rfl, h6⟩; have HS6 := Lib.hid (HS5.out.below h6))
    | (refine wpList_store_mid rfl _ _ _ rfl g 56 m.cl.toArray rfl rfl (rowThere HS6.out.row (by rw [HI5.out.sz]; show 56 + m.cl.toArray.size <= 77; exact Nat.le_refl _)) (by exact ndI) (all_oneCell_toArray (cl_one m)) ?_))
   go_ret
   exact ⟨rfl, w2, _, HP.out, HI5.out.node m, HS6.out.setAll 56 m.cl⟩
  ·have hno : ¬ (kk = 0 /\ sameR r' = true) := fun h => hsm h.2
   have HG := Lib.hid (show enF F g r' kk = nextV 184 g /\ enD d r' kk = d /\ enN n r' kk = n /\ enK r' kk = kk from by
    unfold enF enD enN enK
    rw [if_neg hno, if_neg hno, if_neg hno, if_neg hno]
    exact ⟨rfl, rfl, rfl, rfl⟩)
   rw [HG.out.1, HG.out.2.1, HG.out.2.2.1, HG.out.2.2.2]
   clear HG H24
   have hnq := fun W => neqR r' W
   have hsm' : sameR r' = false := by simpa using hsm
   simp only [hsm', Bool.not_false] at hnq
   subst hk
   clear hno hsm hsm'
   go_enter Tryz.func201, Tryz.ntmps201
   go_wp2_with fail
   refine wp_region_held_drew (S := fun W' => W'.cell? ⟨g, 4, none⟩ = some (.int .u64 (a : Int))) (by kernel_rfl) (STAY.out _ HDR.out) (fun hHeld => ?_)
   refine tkH (i := 0) (oi := ⟨some 6, _, _, _, _, _⟩) (v := .pointer (some ⟨g, 0, none⟩)) rfl (Or.inl ⟨by rfl, by intro WW hSw; (try dsimp only at hSw); go_simp⟩) (by assumption) ?_
   (try simp only [Act.put, q1, q2, q3])
   refine tkH (i := 1) (oi := ⟨some 7, _, _, _, _, _⟩) (v := .pointer (some ⟨g, 0, none⟩)) rfl (Or.inl ⟨by rfl, by intro WW hSw; (try dsimp only at hSw); go_simp⟩) (by assumption) ?_
   (try simp only [Act.put, q1, q2, q3])
   refine tkH (i := 2) (oi := ⟨some 8, _, _, _, _, _⟩) (v := .pointer (some ⟨g, 0, none⟩)) rfl (Or.inl ⟨by rfl, by intro WW hSw; (try dsimp only at hSw); go_simp⟩) (by assumption) ?_
   (try simp only [Act.put, q1, q2, q3])
   refine tkH (i := 3) (oi := ⟨some 9, _, _, _, _, _⟩) (v := .pointer (some ⟨g, 0, none⟩)) rfl (Or.inl ⟨by rfl, by intro WW hSw; (try dsimp only at hSw); go_simp⟩) (by assumption) ?_
   (try simp only [Act.put, q1, q2, q3])
   refine tkH (i := 4) (oi := ⟨some 10, _, _, _, _, _⟩) (v := .pointer (some ⟨g, 0, none⟩)) rfl (Or.inl ⟨by rfl, by intro WW hSw; (try dsimp only at hSw); go_simp⟩) (by assumption) ?_
   (try simp only [Act.put, q1, q2, q3])
   refine tkH (i := 5) (oi := ⟨some 11, _, _, _, _, _⟩) (v := .pointer (some ⟨g, 4, none⟩)) rfl (Or.inl ⟨by rfl, by intro WW hSw; (try dsimp only at hSw); go_simp⟩) (by assumption) ?_
   (try simp only [Act.put, q1, q2, q3])
   refine tkH (i := 6) (oi := ⟨some 12, _, _, _, _, _⟩) (v := .int .u64 (a : Int)) rfl (Or.inl ⟨by rfl, by intro WW hSw; (try dsimp only at hSw); go_simp⟩) (by assumption) ?_
   (try simp only [Act.put, q1, q2, q3])
   refine wpAnyH_one (i := 7) (oi := ⟨some 13, _, _, _, _, _⟩) rfl (by kernel_rfl) (fun K hK => ?_)
   refine step_calls (by rfl) 189 (fun args w => Tryz.call189 _ _) [.tmp 8, .tmp 12, .const (.int .i64 3)] _ rfl [.pointer (some ⟨g, 0, none⟩), .int .u64 (a : Int), .int .i64 3] rfl (HM.out) ?_
   rintro e w2 ⟨rfl, hq, hp⟩
   have HQ := Lib.hid hq
   have HP := Lib.hid hp
   clear hq hp HM
   refine ⟨_, rfl, hK _ _ (STQ.out _ HQ.out) (fun hSn => ?_)⟩
   clear hK K
   (try simp only [Act.put, q1, q2, q3])
   refine tkH (i := 8) (oi := ⟨some 5, _, _, _, _, _⟩) (v := .tuple #[.int .u64 v, .int .i64 0]) rfl (Or.inl ⟨by rfl, by intro WW hSw; (try dsimp only at hSw); go_simp⟩) (by assumption) ?_
   (try simp only [Act.put, q1, q2, q3])
   refine tkH (i := 9) (oi := ⟨some 14, _, _, _, _, _⟩) (v := .int .u64 v) rfl (Or.inl ⟨by rfl, by intro WW hSw; (try dsimp only at hSw); go_simp⟩) (by assumption) ?_
   (try simp only [Act.put, q1, q2, q3])
   refine tkH (i := 10) (oi := ⟨some 15, _, _, _, _, _⟩) (v := .int .i64 0) rfl (Or.inl ⟨by rfl, by intro WW hSw; (try dsimp only at hSw); go_simp⟩) (by assumption) ?_
   (try simp only [Act.put, q1, q2, q3])
   refine tkH (i := 11) (oi := ⟨some 3, _, _, _, _, _⟩) (v := .int .u64 v) rfl (Or.inl ⟨by rfl, by intro WW hSw; (try dsimp only at hSw); go_simp⟩) (by assumption) ?_
   (try simp only [Act.put, q1, q2, q3])
   refine tkH (i := 12) (oi := ⟨some 4, _, _, _, _, _⟩) (v := .int .i64 0) rfl (Or.inl ⟨by rfl, by intro WW hSw; (try dsimp only at hSw); go_simp⟩) (by assumption) ?_
   (try simp only [Act.put, q1, q2, q3])
   refine wpAnyH_done (by kernel_rfl) ?_ _
   clear STQ hHeld hSn STAY HDR
   have c32 := (HQ.out.cell 32).trans (HS.out.rr 27 (by omega))
   have f32 := HQ.out.free 32
   obtain ⟨cs3, S3, I3⟩ := HSW.out _ HQ.out
   obtain ⟨W3, hW3⟩ : ∃ W3, W3 = w2.setCell ⟨g, 32, none⟩ (.int .u64 v) := ⟨_, rfl⟩
   rw [<- hW3] at S3
   have HS3 := Lib.hid S3
   have HI3 := Lib.hid I3
   clear HSW HS
   have hR0 := Lib.hid (fun (w' : World) (h : ∃ q : LowBy W3, w' = q.W) => (show w'.rangeAt g 5 ((rdL r' 0).map uw) by obtain ⟨q, rfl⟩ := h; exact rdRange (S3.row.below q.low S3.row.lt) I3 0 (by omega)))
   have hR1 := Lib.hid (fun (w' : World) (h : ∃ q : LowBy W3, w' = q.W) => (show w'.rangeAt g 29 ((rdL r' 24).map uw) by obtain ⟨q, rfl⟩ := h; exact rdRange (S3.row.below q.low S3.row.lt) I3 24 (by omega)))
   have HF := Lib.hid (fun q : LowBy W3 => (show SnSw w2 q.W g cs3 from S3.below q.low))
   clear S3 I3
   go_wp2_with fail
   rw [<- hW3]
   clear hW3 c32 f32
   refine wp_region_quiet_low (by assumption) (by kernel_rfl) ?_
   repeat (first | go_big_quiet_skip | (go_big_quiet_want; first | (refine quiet_load_mid 262 _ rfl g 5 rfl ((rdL r' 0).map uw) _ hR0.out Tryz.underlying262 rfl (by rw [List.length_map, rdL_len]; exact rdI) ?_; simp only [Act.put, List.setIfInBounds_toArray, List.set_cons_succ, List.set_cons_zero]; go_big_quiet_on) | (refine quiet_load_mid 262 _ rfl g 29 rfl ((rdL r' 24).map uw) _ hR1.out Tryz.underlying262 rfl (by rw [List.length_map, rdL_len]; exact rdI) ?_; simp only [Act.put, List.setIfInBounds_toArray, List.set_cons_succ, List.set_cons_zero]; go_big_quiet_on) | (go_big_quiet_op; first | go_big_quiet_on)))
   refine wpQuiet_nil ?_
   intro _ hw'
   obtain ⟨q, hw''⟩ := hw'
   subst hw''
   have S4 := HF.out q
   clear hR0 hR1 hnq
   have d1 := (S4.row.cell 1).trans HI3.out.c1
   have g1 := S4.row.free 1
   have HE := Lib.hid (show ∃ w1 cs', P w1 /\ IsS cs' p (nextV 184 g) d k a r' wh wd lo n /\ SnSw w1 (q.W.setCell ⟨g, 1, none⟩ (.func (.func 184) #[.pointer (some ⟨g, 0, none⟩)] #[])) g cs' from
    ⟨w2, _, HP.out, HI3.out.next _, S4.set 1 _⟩)
   clear HF S4 HS3 HI3
   go_wp2
   go_ret
   exact ⟨rfl, HE.out⟩
 ·have hno : ¬ (kk = 0 /\ sameR r' = true) := fun h => hk h.1
  have HG := Lib.hid (show enF F g r' kk = nextV 184 g /\ enD d r' kk = d /\ enN n r' kk = n /\ enK r' kk = kk from by
   unfold enF enD enN enK
   rw [if_neg hno, if_neg hno, if_neg hno, if_neg hno]
   exact ⟨rfl, rfl, rfl, rfl⟩)
  rw [HG.out.1, HG.out.2.1, HG.out.2.2.1, HG.out.2.2.2]
  clear HG H24
  have hk' : (kk != 0) = true := by simpa using hk
  clear hno hk
  go_enter Tryz.func201, Tryz.ntmps201
  go_wp2_with fail
  refine wp_region_held_drew (S := fun W' => W'.cell? ⟨g, 4, none⟩ = some (.int .u64 (a : Int))) (by kernel_rfl) (STAY.out _ HDR.out) (fun hHeld => ?_)
  refine tkH (i := 0) (oi := ⟨some 6, _, _, _, _, _⟩) (v := .pointer (some ⟨g, 0, none⟩)) rfl (Or.inl ⟨by rfl, by intro WW hSw; (try dsimp only at hSw); go_simp⟩) (by assumption) ?_
  (try simp only [Act.put, q1, q2, q3])
  refine tkH (i := 1) (oi := ⟨some 7, _, _, _, _, _⟩) (v := .pointer (some ⟨g, 0, none⟩)) rfl (Or.inl ⟨by rfl, by intro WW hSw; (try dsimp only at hSw); go_simp⟩) (by assumption) ?_
  (try simp only [Act.put, q1, q2, q3])
  refine tkH (i := 2) (oi := ⟨some 8, _, _, _, _, _⟩) (v := .pointer (some ⟨g, 0, none⟩)) rfl (Or.inl ⟨by rfl, by intro WW hSw; (try dsimp only at hSw); go_simp⟩) (by assumption) ?_
  (try simp only [Act.put, q1, q2, q3])
  refine tkH (i := 3) (oi := ⟨some 9, _, _, _, _, _⟩) (v := .pointer (some ⟨g, 0, none⟩)) rfl (Or.inl ⟨by rfl, by intro WW hSw; (try dsimp only at hSw); go_simp⟩) (by assumption) ?_
  (try simp only [Act.put, q1, q2, q3])
  refine tkH (i := 4) (oi := ⟨some 10, _, _, _, _, _⟩) (v := .pointer (some ⟨g, 0, none⟩)) rfl (Or.inl ⟨by rfl, by intro WW hSw; (try dsimp only at hSw); go_simp⟩) (by assumption) ?_
  (try simp only [Act.put, q1, q2, q3])
  refine tkH (i := 5) (oi := ⟨some 11, _, _, _, _, _⟩) (v := .pointer (some ⟨g, 4, none⟩)) rfl (Or.inl ⟨by rfl, by intro WW hSw; (try dsimp only at hSw); go_simp⟩) (by assumption) ?_
  (try simp only [Act.put, q1, q2, q3])
  refine tkH (i := 6) (oi := ⟨some 12, _, _, _, _, _⟩) (v := .int .u64 (a : Int)) rfl (Or.inl ⟨by rfl, by intro WW hSw; (try dsimp only at hSw); go_simp⟩) (by assumption) ?_
  (try simp only [Act.put, q1, q2, q3])
  refine wpAnyH_one (i := 7) (oi := ⟨some 13, _, _, _, _, _⟩) rfl (by kernel_rfl) (fun K hK => ?_)
  refine step_calls (by rfl) 189 (fun args w => Tryz.call189 _ _) [.tmp 8, .tmp 12, .const (.int .i64 3)] _ rfl [.pointer (some ⟨g, 0, none⟩), .int .u64 (a : Int), .int .i64 3] rfl (HM.out) ?_
  rintro e w2 ⟨rfl, hq, hp⟩
  have HQ := Lib.hid hq
  have HP := Lib.hid hp
  clear hq hp HM
  refine ⟨_, rfl, hK _ _ (STQ.out _ HQ.out) (fun hSn => ?_)⟩
  clear hK K
  (try simp only [Act.put, q1, q2, q3])
  refine tkH (i := 8) (oi := ⟨some 5, _, _, _, _, _⟩) (v := .tuple #[.int .u64 v, .int .i64 kk]) rfl (Or.inl ⟨by rfl, by intro WW hSw; (try dsimp only at hSw); go_simp⟩) (by assumption) ?_
  (try simp only [Act.put, q1, q2, q3])
  refine tkH (i := 9) (oi := ⟨some 14, _, _, _, _, _⟩) (v := .int .u64 v) rfl (Or.inl ⟨by rfl, by intro WW hSw; (try dsimp only at hSw); go_simp⟩) (by assumption) ?_
  (try simp only [Act.put, q1, q2, q3])
  refine tkH (i := 10) (oi := ⟨some 15, _, _, _, _, _⟩) (v := .int .i64 kk) rfl (Or.inl ⟨by rfl, by intro WW hSw; (try dsimp only at hSw); go_simp⟩) (by assumption) ?_
  (try simp only [Act.put, q1, q2, q3])
  refine tkH (i := 11) (oi := ⟨some 3, _, _, _, _, _⟩) (v := .int .u64 v) rfl (Or.inl ⟨by rfl, by intro WW hSw; (try dsimp only at hSw); go_simp⟩) (by assumption) ?_
  (try simp only [Act.put, q1, q2, q3])
  refine tkH (i := 12) (oi := ⟨some 4, _, _, _, _, _⟩) (v := .int .i64 kk) rfl (Or.inl ⟨by rfl, by intro WW hSw; (try dsimp only at hSw); go_simp⟩) (by assumption) ?_
  (try simp only [Act.put, q1, q2, q3])
  refine wpAnyH_done (by kernel_rfl) ?_ _
  clear STQ hHeld hSn STAY HDR
  have c32 := (HQ.out.cell 32).trans (HS.out.rr 27 (by omega))
  have f32 := HQ.out.free 32
  obtain ⟨cs3, S3, I3⟩ := HSW.out _ HQ.out
  obtain ⟨W3, hW3⟩ : ∃ W3, W3 = w2.setCell ⟨g, 32, none⟩ (.int .u64 v) := ⟨_, rfl⟩
  rw [<- hW3] at S3
  have HS3 := Lib.hid S3
  have HI3 := Lib.hid I3
  clear HSW HS
  have HF := Lib.hid (fun q : LowBy W3 => (show SnSw w2 q.W g cs3 from S3.below q.low))
  clear S3 I3
  go_wp2_with fail
  rw [<- hW3]
  clear hW3 c32 f32
  refine wp_region_quiet_low (by assumption) (by kernel_rfl) ?_
  repeat (go_big_quiet_step (fail))
  refine wpQuiet_nil ?_
  intro _ hw'
  obtain ⟨q, hw''⟩ := hw'
  subst hw''
  have S4 := HF.out q
  have d1 := (S4.row.cell 1).trans HI3.out.c1
  have g1 := S4.row.free 1
  have HE := Lib.hid (show ∃ w1 cs', P w1 /\ IsS cs' p (nextV 184 g) d k a r' wh wd lo n /\ SnSw w1 (q.W.setCell ⟨g, 1, none⟩ (.func (.func 184) #[.pointer (some ⟨g, 0, none⟩)] #[])) g cs' from
   ⟨w2, _, HP.out, HI3.out.next _, S4.set 1 _⟩)
  clear HF S4 HS3 HI3
  go_wp2
  go_ret
  exact ⟨rfl, HE.out⟩
def SnSPost (g : Nat) (P : World -> Prop) (D : Bool) (k : Int) (R : Array Value -> Prop) (e : Ending) (w' : World) : Prop := e = .returned (.tuple #[.bool D, .int .i64 k]) /\ ∃ w1 cs', P w1 /\ R cs' /\ SnSw w1 w' g cs'
theorem mstep_of {w : World} {g f : Nat} {cs : Array Value} {p : Option Addr} {F' : Value} {d' D : Bool} {k kk a wh wd lo : Int} {r : Nat -> Int} {n : Nd} {P : World -> Prop}
  (hcall : ∀ (w : World) (v : Value), (callFunc f #[v]).run Tryz.prog w = .ok (.enter f #[v]) w)
  (hr : Row w g 265 cs) (h1 : cs[1]? = some (nextV f g)) (h2 : cs[2]? = some (.bool false)) (hD : (d' || kk != 0) = D)
  (H : Calls Tryz.prog f #[.pointer (some ⟨g, 0, none⟩)] w (FPost g P kk (fun cs' => IsS cs' p F' d' k a r wh wd lo n))) :
  Calls Tryz.prog 191 #[.pointer (some ⟨g, 0, none⟩)] w (SnSPost g P D kk (fun cs' => IsS cs' p F' D kk a r wh wd lo n)) := by
 have mixed : Tryz.prog.follows .mixedOrders = true := by kernel_rfl
 have c1 := hr.cell 1
 have c2 := hr.cell 2
 rw [h1] at c1
 rw [h2] at c2
 unfold nextV at c1
 have q1 := fun w => eqFnR w f #[.pointer (some ⟨g, 0, none⟩)] #[]
 have q2 := fun w => guardFnR w f #[.pointer (some ⟨g, 0, none⟩)] #[] (.tmp 8)
 have H := Lib.hid H
 clear hr h1 h2
 go_enter Tryz.func191, Tryz.ntmps191
 go_wp2_with fail
 refine H.out.mono ?_
 rintro e w1 ⟨rfl, w0, cs1, hp, hi, hsw⟩
 have e2 := (hsw.row.cell 2).trans hi.c2
 have e3 := (hsw.row.cell 3).trans hi.c3
 have g2 := hsw.row.free 2
 have g3 := hsw.row.free 3
 have HP := Lib.hid hp
 have HI := Lib.hid hi
 have HSW := Lib.hid hsw
 clear hp hi hsw c1 c2 q1 q2 H hcall
 have HFIN := Lib.hid (show ∀ W, Below (((w1.setCell ⟨g, 3, none⟩ (.int .i64 kk)).setCell ⟨g, 2, none⟩ (.bool D))).heap.size ((w1.setCell ⟨g, 3, none⟩ (.int .i64 kk)).setCell ⟨g, 2, none⟩ (.bool D)) W -> ∃ w1 cs', P w1 /\ IsS cs' p F' D kk a r wh wd lo n /\ SnSw w1 W g cs' from
  fun W hb => ⟨w0, _, HP.out, (HI.out.code kk).done D, ((HSW.out.set 3 _).set 2 _).below hb⟩)
 have HC := Lib.hid (show ∀ q : LowBy ((w1.setCell ⟨g, 3, none⟩ (.int .i64 kk)).setCell ⟨g, 2, none⟩ (.bool D)), q.W.cell? ⟨g, 2, none⟩ = some (.bool D) /\ q.W.cell? ⟨g, 3, none⟩ = some (.int .i64 kk) from fun q => by
  have hs := (HSW.out.set 3 (.int .i64 kk)).set 2 (.bool D)
  have hrw := hs.row.below q.low hs.row.lt
  have hi := (HI.out.code kk).done D
  exact ⟨(hrw.cell 2).trans hi.c2, (hrw.cell 3).trans hi.c3⟩)
 obtain ⟨W2, hW2⟩ : ∃ W2, W2 = (w1.setCell ⟨g, 3, none⟩ (.int .i64 kk)).setCell ⟨g, 2, none⟩ (.bool D) := ⟨_, rfl⟩
 rw [<- hW2] at HFIN HC
 cases d' with
 | true =>
  obtain rfl : true = D := by simpa using hD
  clear hD HI HSW HP
  go_wp2_with fail
  rw [<- hW2]
  clear hW2 e2 e3 g2 g3
  have ca := fun q : LowBy W2 => (HC.out q).1
  have cb := fun q : LowBy W2 => (HC.out q).2
  refine wp_region_quiet_low (by assumption) (by kernel_rfl) ?_
  repeat (go_big_quiet_step (fail))
  refine wpQuiet_nil ?_
  intro _ hw'
  obtain ⟨q, hw''⟩ := hw'
  subst hw''
  have HE := Lib.hid (HFIN.out q.W q.low)
  clear ca cb HC HFIN
  go_wp2
  go_ret2
  exact ⟨rfl, HE.out⟩
 | false =>
  by_cases hk : kk = 0
  ·subst hk
   obtain rfl : false = D := by simpa using hD
   clear hD HI HSW HP
   go_wp2_with fail
   rw [<- hW2]
   clear hW2 e2 e3 g2 g3
   have ca := fun q : LowBy W2 => (HC.out q).1
   have cb := fun q : LowBy W2 => (HC.out q).2
   refine wp_region_quiet_low (by assumption) (by kernel_rfl) ?_
   repeat (go_big_quiet_step (fail))
   refine wpQuiet_nil ?_
   intro _ hw'
   obtain ⟨q, hw''⟩ := hw'
   subst hw''
   have HE := Lib.hid (HFIN.out q.W q.low)
   clear ca cb HC HFIN
   go_wp2
   go_ret2
   exact ⟨rfl, HE.out⟩
  ·have hk1 : (kk != 0) = true := by simpa using hk
   obtain rfl : true = D := by rw [<- hD, hk1]; rfl
   have hk2 : (kk == 0) = false := by simpa using hk
   clear hD HI HSW HP hk
   go_wp2_with fail
   rw [<- hW2]
   clear hW2 e2 e3 g2 g3
   have ca := fun q : LowBy W2 => (HC.out q).1
   have cb := fun q : LowBy W2 => (HC.out q).2
   refine wp_region_quiet_low (by assumption) (by kernel_rfl) ?_
   repeat (go_big_quiet_step (fail))
   refine wpQuiet_nil ?_
   intro _ hw'
   obtain ⟨q, hw''⟩ := hw'
   subst hw''
   have HE := Lib.hid (HFIN.out q.W q.low)
   clear ca cb HC HFIN
   go_wp2
   go_ret2
   exact ⟨rfl, HE.out⟩
theorem snStep_of {w : World} {g : Nat} {D : Bool} {k : Int} {Q : World -> Prop} (H : Calls Tryz.prog 191 #[.pointer (some ⟨g, 0, none⟩)] w fun e w' => e = .returned (.tuple #[.bool D, .int .i64 k]) /\ Q w') :
  Calls Tryz.prog 185 #[.pointer (some ⟨g, 0, none⟩)] w fun e w' => e = .returned (.tuple #[.bool D, .int .i64 k]) /\ Q w' := by
 have H := Lib.hid H
 go_enter Tryz.func185, Tryz.ntmps185
 go_wp2_with fail
 refine H.out.mono ?_
 rintro e w1 ⟨rfl, hq⟩
 have HQ := Lib.hid hq
 clear hq
 go_wp2
 go_ret2
 exact ⟨rfl, HQ.out⟩
def refK (F : Bool) (d : Bool) (k z : Int) : Int := if F = true then 1 else if d = true then k else if z = 0 then 1 else 7
theorem snRefusal_any {w : World} {g f : Nat} {t : TypeId} {cs : Array Value} {p : Option Addr} {d : Bool} {k z : Int} (hr : Row w g t cs) (h0 : cs[0]? = some (.pointer p)) (h1 : cs[1]? = some (nextV f g)) (h2 : cs[2]? = some (.bool d)) (h3 : cs[3]? = some (.int .i64 k))
  (HS : Calls Tryz.prog 30 #[.pointer p] w fun e w' => e = .returned (.int .i64 z) /\ w = w') :
  Calls Tryz.prog 202 #[.pointer (some ⟨g, 0, none⟩)] w fun e w' => e = .returned (.int .i64 (refK false d k z)) /\ w = w' := by
 have c0 := hr.cell 0
 have c1 := hr.cell 1
 have c2 := hr.cell 2
 have c3 := hr.cell 3
 rw [h0] at c0
 rw [h1] at c1
 rw [h2] at c2
 rw [h3] at c3
 unfold nextV at c1
 have q1 := fun w => eqFnR w f #[.pointer (some ⟨g, 0, none⟩)] #[]
 have q2 := fun w => guardFnR w f #[.pointer (some ⟨g, 0, none⟩)] #[] (.tmp 7)
 have HS := Lib.hid HS
 clear hr h1 h2 h3 h0
 cases d with
 | true =>
  go_enter Tryz.func202, Tryz.ntmps202
  go_wp2
  go_ret
  exact ⟨rfl, rfl⟩
 | false =>
  by_cases hz : z = 0
  ·subst hz
   go_enter Tryz.func202, Tryz.ntmps202
   go_wp2_with (refine HS.out.mono ?_; rintro e w1 ⟨rfl, rfl⟩)
   go_ret
   exact ⟨rfl, rfl⟩
  ·have HZ := Lib.hid (show refK false false k z = 7 by unfold refK; simp [hz])
   have hz1 : (z == 0) = false := by simpa using hz
   rw [HZ.out]
   clear hz HZ
   go_enter Tryz.func202, Tryz.ntmps202
   go_wp2_with (refine HS.out.mono ?_; rintro e w1 ⟨rfl, rfl⟩)
   go_ret
   exact ⟨rfl, rfl⟩
def zeroS (p : Option Addr) (F : Value) (a : Int) : List Value := .pointer p :: F :: .bool false :: .int .i64 0 :: .int .u64 a :: (List.replicate 48 (.int .u64 0) ++ (.int .i64 0 :: .int .i64 0 :: .int .u64 0 :: zeroNd.cl))
theorem zeroS_is (p : Option Addr) (F : Value) (a : Int) : IsS (zeroS p F a).toArray p F false 0 a (fun _ => 0) 0 0 0 zeroNd := by
 refine ⟨by rw [List.size_toArray]; rfl, rfl, rfl, rfl, rfl, rfl, fun j hj => ?_, rfl, rfl, rfl, fun j u hu => ?_⟩
 ·rw [List.getElem?_toArray, show 5 + j = j + 1 + 1 + 1 + 1 + 1 by omega]
  simp only [zeroS, List.getElem?_cons_succ]
  rw [List.getElem?_append_left (by simpa using hj), List.getElem?_replicate, if_pos hj]
 ·rw [List.getElem?_toArray, show 56 + j = j + 51 + 1 + 1 + 1 + 1 + 1 by omega]
  simp only [zeroS, List.getElem?_cons_succ]
  rw [List.getElem?_append_right (by simp only [List.length_replicate]; omega), List.length_replicate, show j + 51 - 48 = j + 1 + 1 + 1 by omega]
  simp only [List.getElem?_cons_succ]
  exact hu
theorem snNew_any (p : Option Addr) (a : Int) (w : World) : Calls Tryz.prog 175 #[.pointer p, .int .u64 a] w fun e w' => e = .returned (.pointer (some ⟨w.heap.size, 0, none⟩)) /\ w.alloc (.cells (zeroS p (nextV 184 w.heap.size) a).toArray 265) = w' := by
 go_enter Tryz.func175, Tryz.ntmps175
 go_wp2
 go_ret
 exact ⟨rfl, rfl⟩
theorem snNode_any {w : World} {g : Nat} {cs : Array Value} {p : Option Addr} {F : Value} {d : Bool} {k a wh wd lo kk : Int} {r : Nat -> Int} {n : Nd} (hr : Row w g 265 cs) (hs : IsS cs p F d k a r wh wd lo n)
  (HR : ∀ W, Below w.heap.size w W -> Calls Tryz.prog 202 #[.pointer (some ⟨g, 0, none⟩)] W fun e w' => e = .returned (.int .i64 kk) /\ W = w') :
  Calls Tryz.prog 192 #[.pointer (some ⟨g, 0, none⟩)] w fun e w' => e = .returned (.tuple #[n.V, .int .i64 kk]) /\ Below w.heap.size w w' := by
 have mixed : Tryz.prog.follows .mixedOrders = true := by kernel_rfl
 obtain ⟨W1, hW1⟩ : ∃ W1, W1 = w.alloc (.cells #[.int .i64 0, .int .u64 0, .int .u64 0, .int .u64 0, .int .u64 0, .int .u64 0, .int .u64 0, .int .u64 0, .int .u64 0, .int .u64 0, .int .u64 0, .int .u64 0, .int .u64 0, .int .u64 0, .int .u64 0, .int .u64 0, .int .u64 0, .int .u64 0, .int .u64 0, .int .u64 0, .int .u64 0] 71) := ⟨_, rfl⟩
 have hb1 : Below w.heap.size w W1 := by rw [hW1]; exact alloc_below _ _
 have r1 : NdAt W1 w.heap.size zeroNd := by rw [hW1]; exact Row.new w 71 zeroNd.cl.toArray
 have HRn := Lib.hid (fun (w' : World) (h : ∃ q : LowBy W1, w' = q.W) => (show w'.rangeAt g 56 n.cl by
  obtain ⟨q, rfl⟩ := h
  intro j v hv
  rw [((hr.below hb1 hr.lt).below q.low (hr.below hb1 hr.lt).lt).cell]
  exact hs.cn j v hv))
 have HC := Lib.hid (fun (q : LowBy W1) => Calls.low_of_same (HR q.W (Below.and hb1 q.low)))
 have HR1 := Lib.hid (fun q : LowBy W1 => (show NdAt q.W w.heap.size zeroNd from r1.below q.low r1.lt))
 have HB := Lib.hid (fun q : LowBy W1 => Below.and hb1 q.low)
 have HW1 := Lib.hid hW1
 clear hr hs HR hb1 r1 hW1
 go_enter Tryz.func192, Tryz.ntmps192
 go_wp2_with (rw [<- HW1.out])
 refine wp_region_low_tail 8 (by assumption) (by kernel_rfl) ?_
 simp only [List.take_succ_cons, List.take_zero, List.drop_succ_cons, List.drop_zero]
 repeat (first | go_big_quiet_skip | (go_big_quiet_want; first | (refine quiet_load_mid 71 _ rfl g 56 rfl n.cl _ HRn.out Tryz.underlying71 rfl ndI ?_; simp only [Act.put, List.setIfInBounds_toArray, List.set_cons_succ, List.set_cons_zero]; go_big_quiet_on) | (go_big_quiet_op; first | go_big_quiet_on | go_big_quiet_call ((go_at_call 202; with_reducible exact HC.out _)))))
 refine wpQuiet_nil ?_
 intro _ hw'
 obtain ⟨q, hw''⟩ := hw'
 subst hw''
 have H1 := Lib.hid (HR1.out q)
 have HBq := Lib.hid (HB.out q)
 clear HR1 HB HC HRn
 go_wp2_with (refine wpList_store_row rfl _ _ _ rfl w.heap.size n.cl rfl rfl H1.out rfl ndI (cl_one n) ?_)
 refine bodyPost_ret (results_node_tmp rfl _ _ w.heap.size n rfl (row_setCells H1.out rfl)) rfl ⟨rfl, setCells_low _ (Nat.le_refl _) HBq.out⟩
theorem store_gen11 (w1 : World) (n : Nd) : ∃ W2, W2 = (w1.alloc (.cells #[.int .i64 0, .int .u64 0, .int .u64 0, .int .u64 0, .int .u64 0, .int .u64 0, .int .u64 0, .int .u64 0, .int .u64 0, .int .u64 0, .int .u64 0, .int .u64 0, .int .u64 0, .int .u64 0, .int .u64 0, .int .u64 0, .int .u64 0, .int .u64 0, .int .u64 0, .int .u64 0, .int .u64 0] 71)).setCells w1.heap.size 0 n.cl /\ NdAt W2 w1.heap.size n /\ Below w1.heap.size w1 W2 :=
 ⟨_, rfl, row_setCells (Row.new w1 71 zeroNd.cl.toArray) rfl, setCells_low _ (Nat.le_refl _) (alloc_below _ _)⟩
def hiV (kk lo : Int) (n : Nd) : Int := if kk = 0 /\ n.nx ≠ 0 then lo else 0
def hiB (kk : Int) (n : Nd) : Bool := if kk = 0 /\ n.nx ≠ 0 then true else false
theorem snHigh_of {w : World} {p : Option Addr} {n : Nd} {kk lo : Int} (HN : Calls Tryz.prog 192 #[.pointer p] w fun e w' => e = .returned (.tuple #[n.V, .int .i64 kk]) /\ Below w.heap.size w w')
  (hlo : kk = 0 -> ∃ g, p = some ⟨g, 0, none⟩ /\ w.cell? ⟨g, 55, none⟩ = some (.int .u64 lo)) :
  Calls Tryz.prog 193 #[.pointer p] w fun e w' => e = .returned (.tuple #[.int .u64 (hiV kk lo n), .bool (hiB kk n)]) /\ Below w.heap.size w w' := by
 have HN := Lib.hid HN
 have HLo := Lib.hid hlo
 clear hlo
 by_cases hk : kk = 0
 ·by_cases hx : n.nx = 0
  ·have HR := Lib.hid (show hiV kk lo n = 0 /\ hiB kk n = false by unfold hiV hiB; simp [hx])
   rw [HR.out.1, HR.out.2]
   subst hk
   have hx1 : (n.nx == 0) = true := by simpa using hx
   clear HR HLo
   have HX := Lib.hid hx
   clear hx
   go_enter Tryz.func193, Tryz.ntmps193
   go_wp2_with (first
    | ((with_reducible refine HN.out.mono ?_); rintro e w1 ⟨rfl, h1⟩)
    | (refine wpList_store_row rfl _ _ _ rfl w1.heap.size n.cl rfl rfl (Row.new w1 71 zeroNd.cl.toArray) rfl ndI (cl_one n) ?_; obtain ⟨W2, hW2, hn2, hb2⟩ := store_gen11 w1 n; rw [<- hW2]; have c2 : W2.cell? ⟨w1.heap.size, 2, none⟩ = some (.int .u64 n.nx) := ndAt_at hn2 2; have H1 := Lib.hid h1; have HB2 := Lib.hid hb2; clear hW2 hn2 h1 hb2))
   go_ret2
   exact ⟨rfl, Below.and H1.out HB2.out⟩
  ·have HR := Lib.hid (show hiV kk lo n = lo /\ hiB kk n = true by unfold hiV hiB; simp [hx, hk])
   rw [HR.out.1, HR.out.2]
   obtain ⟨g, rfl, hg⟩ := HLo.out hk
   subst hk
   have hx1 : (n.nx == 0) = false := by simpa using hx
   clear HR HLo
   have HX := Lib.hid hx
   have HG := Lib.hid fun W (hb : Below w.heap.size w W) => (hb.cell (p := ⟨g, 55, none⟩) (block_lt_of_cell hg)).trans hg
   clear hx hg
   go_enter Tryz.func193, Tryz.ntmps193
   go_wp2_with (first
    | ((with_reducible refine HN.out.mono ?_); rintro e w1 ⟨rfl, h1⟩)
    | (refine wpList_store_row rfl _ _ _ rfl w1.heap.size n.cl rfl rfl (Row.new w1 71 zeroNd.cl.toArray) rfl ndI (cl_one n) ?_; obtain ⟨W2, hW2, hn2, hb2⟩ := store_gen11 w1 n; rw [<- hW2]; have c2 : W2.cell? ⟨w1.heap.size, 2, none⟩ = some (.int .u64 n.nx) := ndAt_at hn2 2; have c55 := HG.out W2 (Below.and h1 hb2); have H1 := Lib.hid h1; have HB2 := Lib.hid hb2; clear hW2 hn2 h1 hb2))
   go_ret2
   exact ⟨rfl, Below.and H1.out HB2.out⟩
 ·have HR := Lib.hid (show hiV kk lo n = 0 /\ hiB kk n = false by unfold hiV hiB; simp [hk])
  rw [HR.out.1, HR.out.2]
  have hk1 : (kk != 0) = true := by simpa using hk
  clear HR HLo hk
  go_enter Tryz.func193, Tryz.ntmps193
  go_wp2_with (first
   | ((with_reducible refine HN.out.mono ?_); rintro e w1 ⟨rfl, h1⟩)
   | (refine wpList_store_row rfl _ _ _ rfl w1.heap.size n.cl rfl rfl (Row.new w1 71 zeroNd.cl.toArray) rfl ndI (cl_one n) ?_; obtain ⟨W2, hW2, hn2, hb2⟩ := store_gen11 w1 n; rw [<- hW2]; have H1 := Lib.hid h1; have HB2 := Lib.hid hb2; clear hW2 hn2 h1 hb2))
  go_ret2
  exact ⟨rfl, Below.and H1.out HB2.out⟩
end Go.Proofs.YtkbklooocdfcfaaGreatDoor
namespace Go.Proofs.YtkbklooocdfcfaaGreatDoor
open Go.RowKit Go.Shelf
attribute [local go_sem] Oper.semAt_some
theorem geoLine_any {a : Nat} (h1 : a < 18446744073709551616) (w : World) : Calls Tryz.prog 142 #[.int .u64 (a : Int)] w fun e w' => e = .returned (.int .u64 ((a / 64 * 64 : Nat) : Int)) /\ w = w' := by
 have e : (a : Int) - (a : Int) % 64 = ((a / 64 * 64 : Nat) : Int) := by omega
 have e2 : (0 : Int) <= (a : Int) - (a : Int) % 64 := by omega
 go_enter Tryz.func142, Tryz.ntmps142
 go_wp2
 go_ret
 exact ⟨by rw [show ((a / 64 * 64 : Nat) : Int) = (a : Int) / 64 * 64 from by omega]; rfl, rfl⟩
structure RT (w w' : World) (y y' : Lay) (rg : Nat) : Prop where
 g : y'.g = y.g
 but : But w w' (fun k => y.fp k \/ k = rg)
 fp : ∀ k, y'.fp k -> y.fp k \/ w.heap.size <= k
theorem RT.of_turn {w w' : World} {y y' : Lay} (rg : Nat) (t : Turn w w' y y') : RT w w' y y' rg := ⟨t.g, t.but.mono fun k h => .inl h, t.fp⟩
theorem RT.trans {w w1 w2 : World} {y y1 y2 : Lay} {rg : Nat} (h : RT w w1 y y1 rg) (h2 : RT w1 w2 y1 y2 rg) : RT w w2 y y2 rg :=
 ⟨h2.g.trans h.g, h.but.trans h2.but fun k hk => by
  rcases hk with hk | hk
  ·rcases h.fp k hk with h3 | h3
   ·exact .inl (.inl h3)
   ·exact .inr h3
  ·exact .inl (.inr hk), fun k hk => by
  rcases h2.fp k hk with h3 | h3
  ·exact h.fp k h3
  ·exact .inr (Nat.le_trans h.but.size h3)⟩
theorem RT.set {w : World} (y : Lay) (rg i : Nat) (u : Value) : RT w (w.setCell ⟨rg, i, none⟩ u) y y rg := ⟨rfl, (But.refl w _).set (.inr rfl) u, fun _ h => .inl h⟩
theorem RT.of_below {w w' : World} (y : Lay) (rg : Nat) (h : Below w.heap.size w w') : RT w w' y y rg := ⟨rfl, But.of_below h _, fun _ h => .inl h⟩
theorem MemAt.rset {w : World} {y : Lay} {s : St} (h : MemAt w y s) {rg : Nat} (hn : ¬ y.fp rg) (i : Nat) (u : Value) : MemAt (w.setCell ⟨rg, i, none⟩ u) y s :=
 h.same fun k hk => heap_setCell_other w _ k u (fun e => hn (by have e' : k = rg := e; rw [<- e']; exact hk))
def ends (a : Nat) : List (Nat × Nat) -> Bool
 | [] => true
 | p :: _ => !(p.1 / 64 * 64 == a / 64 * 64)
def stNext (a : Nat) (t : List (Nat × Nat)) : Nat := if ends a t then 143 else 117
def RstPost (w : World) (y : Lay) (s' : St) (rg : Nat) (p : Option Addr) (c L : Int) (f : Nat) (d : Bool) (k : Int) (t : List (Nat × Nat)) (ob : Option Nat) (w' : World) : Prop :=
 ∃ y' V', MemAt w' y' s' /\ Row w' rg 207 (rcells p c V' L (nextV f rg) d k) /\ Ahead w' V' t /\ (t ≠ [] -> V'.ownBlock = ob) /\ RT w w' y y' rg
theorem rstore_fin {w w2 W : World} {y y2 : Lay} {s s' : St} {rg : Nat} {c L : Int} {V : Value} {t : List (Nat × Nat)} {d : Bool} {k : Int} {p : Option Addr} {u1 u2 : Value}
  (h : MemAt w y s) (h2 : MemAt w2 y2 s') (T : Turn w w2 y y2) (hb : Below (((w2.setCell ⟨rg, 2, none⟩ u1).setCell ⟨rg, 3, none⟩ u2).drew).heap.size (((w2.setCell ⟨rg, 2, none⟩ u1).setCell ⟨rg, 3, none⟩ u2).drew) W)
  (hr : Row (((w2.setCell ⟨rg, 2, none⟩ u1).setCell ⟨rg, 3, none⟩ u2).drew) rg 207 (rcells p c V L (nextV 117 rg) d k)) (sep : ¬ y.fp rg) (hrl : rg < w.heap.size) (hA : Ahead w V t) (hAs : ∀ b, V.ownBlock = some b -> t ≠ [] -> ¬ y.fp b /\ b ≠ rg) :
  (MemAt W y2 s' /\ Row W rg 207 (rcells p c V L (nextV 117 rg) d k) /\ Ahead W V t /\ RT w W y y2 rg) /\
  (MemAt (W.setCell ⟨rg, 4, none⟩ (nextV 143 rg)) y2 s' /\ Row (W.setCell ⟨rg, 4, none⟩ (nextV 143 rg)) rg 207 (rcells p c V L (nextV 143 rg) d k) /\ Ahead (W.setCell ⟨rg, 4, none⟩ (nextV 143 rg)) V t /\ RT w (W.setCell ⟨rg, 4, none⟩ (nextV 143 rg)) y y2 rg) := by
 have sep2 : ¬ y2.fp rg := fun hf => by
  rcases T.fp rg hf with h1 | h1
  ·exact sep h1
  ·omega
 have m3 : MemAt (((w2.setCell ⟨rg, 2, none⟩ u1).setCell ⟨rg, 3, none⟩ u2).drew) y2 s' := ((h2.rset sep2 2 u1).rset sep2 3 u2).below (drew_below _)
 have mW := m3.below hb
 have T2 : RT w w2 y y2 rg := RT.of_turn rg T
 have T3 : RT w (((w2.setCell ⟨rg, 2, none⟩ u1).setCell ⟨rg, 3, none⟩ u2).drew) y y2 rg := ((T2.trans (RT.set y2 rg 2 u1)).trans (RT.set y2 rg 3 u2)).trans (RT.of_below y2 rg (drew_below _))
 have T4 := T3.trans (RT.of_below y2 rg hb)
 have T5 := T4.trans (RT.set y2 rg 4 (nextV 143 rg))
 have rW := hr.below hb hr.lt
 have ah : ∀ W' y', RT w W' y y' rg -> Ahead W' V t := fun W' y' T' => by
  by_cases h0 : t = []
  ·rcases hA with h1 | ⟨h1, _⟩
   ·exact .inl h1
   ·exact absurd h0 h1
  ·exact hA.same fun b hb' => T'.but.block b (hA.lt h0 hb') (by
    rintro (h1 | h1)
    ·exact (hAs b hb' h0).1 h1
    ·exact (hAs b hb' h0).2 h1)
 exact ⟨⟨mW, rW, ah _ _ T4, T4⟩, mW.rset sep2 4 _, rW.set 4 _, ah _ _ T5, T5⟩
theorem rstore_any {w : World} {y : Lay} {s : St} (h : MemAt w y s) {rg a v : Nat} {c line : Int} {t : List (Nat × Nat)} {V : Value} {d : Bool} {k : Int}
  (hr : Row w rg 207 (rcells (some ⟨y.g, 0, none⟩) c V line (nextV 117 rg) d k)) (ha : Ahead w V ((a, v) :: t)) (sep : ¬ y.fp rg) (vsep : ∀ b, V.ownBlock = some b -> ¬ y.fp b /\ b ≠ rg)
  (h8 : a % 8 = 0) (h64 : a < 64 * s.nl) (hv : v < 18446744073709551616) (hst : s.st < 9223372036854775808) (hn : ∀ l ∈ s.pend, l.length <= 1000000000) (ht : ∀ p ∈ t, p.1 < 18446744073709551616) :
  Calls Tryz.prog 117 #[.pointer (some ⟨rg, 0, none⟩)] w fun e w' => e = .returned (.int .i64 0) /\ RstPost w y (s.store a v) rg (some ⟨y.g, 0, none⟩) c ((a / 64 * 64 : Nat) : Int) (stNext a t) d k t V.ownBlock w' := by
 have hmost := h.most
 have HL0 := Lib.hid fun W => geoLine_any (a := a) (by omega) W
 obtain ⟨L, hL⟩ : ∃ L, L = ((a / 64 * 64 : Nat) : Int) := ⟨_, rfl⟩
 rw [<- hL] at HL0 ⊢
 have HLE := Lib.hid hL
 clear hL
 have HL := HL0
 clear HL0
 have hlen1 : (1 : Int) <= (t.length : Int) + 1 := by omega
 have HA := Lib.hid ha
 rcases ha with ⟨e, _⟩ | ⟨_, g, off, cap, rfl, hlc, hcm, hcell⟩
 ·cases e
 obtain ⟨hs1, hs2⟩ := vsep g rfl
 have c0 := hr.cell 0
 have c2 := hr.cell 2
 simp only [rcells, List.getElem?_toArray, List.getElem?_cons_succ, List.getElem?_cons_zero] at c0 c2
 obtain ⟨P2, hP2⟩ : ∃ P2 : Option Addr, P2 = (if cap = 1 then some ⟨g, off, none⟩ else some ⟨g, off + 2, none⟩) := ⟨_, rfl⟩
 have hP3 : t ≠ [] -> P2 = some ⟨g, off + 2, none⟩ := fun h0 => by
  have := List.length_pos_iff.2 h0
  rw [hP2, if_neg (by simp only [List.length_cons] at hlc; omega)]
 have p0 := hcell 0 (wv a) rfl
 have p1 := hcell 1 (wv v) rfl
 simp only [Nat.add_zero] at p0
 unfold wv at p0 p1
 simp only [List.length_cons] at c2 hlc
 obtain ⟨W1, hW1⟩ : ∃ W1, W1 = w.alloc (.cells #[.int .u64 (a : Int), .int .u64 (v : Int)] 165) := ⟨_, rfl⟩
 have hb1 : Below w.heap.size w W1 := by rw [hW1]; exact alloc_below _ _
 have hp1 : Row W1 w.heap.size 165 #[.int .u64 (a : Int), .int .u64 (v : Int)] := by rw [hW1]; exact Row.new _ _ _
 have hr1 := hr.below hb1 hr.lt
 have k0 := hr1.cell 0
 have k1 := hp1.cell 0
 have k2 := hp1.cell 1
 simp only [rcells, List.getElem?_toArray, List.getElem?_cons_succ, List.getElem?_cons_zero] at k0 k1 k2
 have ca := fun p : LowBy W1 => p.cell k0
 have cb := fun p : LowBy W1 => p.cell k1
 have cc := fun p : LowBy W1 => p.cell k2
 have mixed : Tryz.prog.follows .mixedOrders = true := by kernel_rfl
 have HST := Lib.hid fun (p : LowBy W1) => store_ok (h.below (hb1.trans (p.low.mono hb1.size))) a v h8 h64 hv hst hn
 have HM := Lib.hid h
 have HR := Lib.hid hr
 have HB1 := Lib.hid hb1
 have HCL := Lib.hid hcell
 have hgs : g < w.heap.size := block_lt_of_cell p0
 have HRL := Lib.hid hr.lt
 have HAH := Lib.hid (show Ahead w (.slice P2 t.length (cap - 1)) t from by
  cases t with
  | nil => exact .inl ⟨rfl, _, _, rfl, by omega⟩
  | cons bu t' =>
   refine .inr ⟨by simp, g, off + 2, cap - 1, by rw [hP3 (by simp)], by simp only [List.length_cons] at hlc ⊢; omega, by omega, fun i u hu => ?_⟩
   have := hcell (i + 2) u (by rw [flat_cons]; exact hu)
   rw [show off + 2 + i = off + (i + 2) from by omega]
   exact this)
 have HAS := Lib.hid (show ∀ b, (Value.slice P2 t.length (cap - 1)).ownBlock = some b -> t ≠ [] -> ¬ y.fp b /\ b ≠ rg from fun b hb h0 => by
  rw [hP3 h0] at hb
  exact vsep b hb)
 have HP2 := Lib.hid hP2
 have HP3 := Lib.hid hP3
 clear hP2 hP3
 clear h hr hr1 hp1 k0 k1 k2 hcell hb1 hst hn hv h8
 go_enter Tryz.func117, Tryz.ntmps117
 go_wp2_with fail
 rw [<- hW1]
 refine wp_region_low_tail 8 (by assumption) (by kernel_rfl) ?_
 simp only [List.take_succ_cons, List.take_zero, List.drop_succ_cons, List.drop_zero]
 repeat (go_big_quiet_step (fail))
 refine wpQuiet_nil ?_
 intro _ hw'
 obtain ⟨p, hw''⟩ := hw'
 subst hw''
 clear ca cb cc
 go_wp2_with fail
 refine (HST.out p).mono ?_
 rintro e w2 ⟨rfl, y2, hm2, ht2⟩
 have T2 : Turn w w2 y y2 := (Turn.of_below y (Below.and HB1.out p.low)).trans ht2
 have B2 := T2.but
 have hr2 : Row w2 rg 207 (rcells (some ⟨y.g, 0, none⟩) c (.slice (some ⟨g, off, none⟩) (t.length + 1) cap) line (nextV 117 rg) d k) := B2.row HR.out sep
 have hp2 : Row w2 w.heap.size 165 #[.int .u64 (a : Int), .int .u64 (v : Int)] := by
  have r1 : Row W1 w.heap.size 165 #[.int .u64 (a : Int), .int .u64 (v : Int)] := by rw [hW1]; exact Row.new _ _ _
  exact ht2.but.row (r1.below p.low r1.lt) (fun hf => Nat.lt_irrefl _ (HM.out.lt _ hf))
 have j2 := hr2.cell 2
 have j3 := hr2.cell 3
 have j4 := hr2.cell 4
 simp only [rcells, List.getElem?_toArray, List.getElem?_cons_succ, List.getElem?_cons_zero] at j2 j3 j4
 have l2 := hr2.free 2
 have l3 := hr2.free 3
 have l4 := hr2.free 4
 have m0 := hp2.cell 0
 simp only [List.getElem?_toArray, List.getElem?_cons_succ, List.getElem?_cons_zero] at m0
 have HM2 := Lib.hid hm2
 have HT2 := Lib.hid T2
 have HR2 := Lib.hid hr2
 have HSZ := Lib.hid (show w.heap.size <= w2.heap.size from B2.size)
 clear hm2 ht2 T2 hr2 hp2 c0 c2 p0 p1 hW1 HST HB1 HR HSZ
 go_wp2_with fail
 refine wp_region_any (by kernel_rfl) ?_
 change wpAny _ _ _ _ _ _ _ (World.drew _)
 refine wpAny_take (i := 0) (oi := ⟨some 23, _, _, _, _, _⟩) (v := .pointer (some ⟨rg, 0, none⟩)) rfl (by kernel_rfl) (by kernel_rfl) (by kernel_rfl) (fun _ _ _ h => h) (Or.inl ⟨by kernel_rfl, by intro w; go_simp⟩) ?_
 simp only [Act.put, List.setIfInBounds_toArray, List.set_cons_zero, List.set_cons_succ]
 refine wpAny_take (i := 1) (oi := ⟨some 24, _, _, _, _, _⟩) (v := .pointer (some ⟨rg, 0, none⟩)) rfl (by kernel_rfl) (by kernel_rfl) (by kernel_rfl) (fun _ _ _ h => h) (Or.inl ⟨by kernel_rfl, by intro w; go_simp⟩) ?_
 simp only [Act.put, List.setIfInBounds_toArray, List.set_cons_zero, List.set_cons_succ]
 refine wpAny_take (i := 2) (oi := ⟨some 25, _, _, _, _, _⟩) (v := .pointer (some ⟨rg, 0, none⟩)) rfl (by kernel_rfl) (by kernel_rfl) (by kernel_rfl) (fun _ _ _ h => h) (Or.inl ⟨by kernel_rfl, by intro w; go_simp⟩) ?_
 simp only [Act.put, List.setIfInBounds_toArray, List.set_cons_zero, List.set_cons_succ]
 refine wpAny_take (i := 3) (oi := ⟨some 26, _, _, _, _, _⟩) (v := .pointer (some ⟨rg, 0, none⟩)) rfl (by kernel_rfl) (by kernel_rfl) (by kernel_rfl) (fun _ _ _ h => h) (Or.inl ⟨by kernel_rfl, by intro w; go_simp⟩) ?_
 simp only [Act.put, List.setIfInBounds_toArray, List.set_cons_zero, List.set_cons_succ]
 refine wpAny_take (i := 4) (oi := ⟨some 27, _, _, _, _, _⟩) (v := .pointer (some ⟨rg, 2, none⟩)) rfl (by kernel_rfl) (by kernel_rfl) (by kernel_rfl) (fun _ _ _ h => h) (Or.inl ⟨by kernel_rfl, by intro w; go_simp⟩) ?_
 simp only [Act.put, List.setIfInBounds_toArray, List.set_cons_zero, List.set_cons_succ]
 refine wpAny_take (i := 7) (oi := ⟨some 30, _, _, _, _, _⟩) (v := .pointer (some ⟨w.heap.size, 0, none⟩)) rfl (by kernel_rfl) (by kernel_rfl) (by kernel_rfl) (fun _ _ _ h => h) (Or.inl ⟨by kernel_rfl, by intro w; go_simp⟩) ?_
 simp only [Act.put, List.setIfInBounds_toArray, List.set_cons_zero, List.set_cons_succ]
 refine wpAny_ready (rs := [5, 8]) (by kernel_rfl) (by simp) ?_
 refine AllReady.cons rfl (fun K hK => ?_) (AllReady.cons rfl (fun K hK => ?_) AllReady.nil)
 ·skip
  go_simp
  refine hK _ _ ?_
  clear hK K
  refine wpAny_take (i := 6) (oi := ⟨some 29, _, _, _, _, _⟩) (v := .slice P2 t.length (cap - 1)) rfl (by kernel_rfl) (by kernel_rfl) (by kernel_rfl) (fun _ _ _ h => h) (Or.inl ⟨by kernel_rfl, by intro w; go_simp; rw [HP2.out]⟩) ?_
  simp only [Act.put, List.setIfInBounds_toArray, List.set_cons_zero, List.set_cons_succ]
  refine wpAny_ready (rs := [8]) (by kernel_rfl) (by simp) ?_
  refine AllReady.cons rfl (fun K hK => ?_) AllReady.nil
  go_simp
  refine hK _ _ ?_
  clear hK K
  refine wpAny_ready (rs := [9]) (by kernel_rfl) (by simp) ?_
  refine AllReady.cons rfl (fun K hK => ?_) AllReady.nil
  go_simp
  refine (HL.out _).mono ?_
  rintro e wy ⟨rfl, rfl⟩
  refine hK _ _ ?_
  clear hK K
  refine wpAny_take (i := 10) (oi := ⟨some 33, _, _, _, _, _⟩) (v := .pointer (some ⟨rg, 0, none⟩)) rfl (by kernel_rfl) (by kernel_rfl) (by kernel_rfl) (fun _ _ _ h => h) (Or.inl ⟨by kernel_rfl, by intro w; go_simp⟩) ?_
  simp only [Act.put, List.setIfInBounds_toArray, List.set_cons_zero, List.set_cons_succ]
  refine wpAny_take (i := 11) (oi := ⟨some 34, _, _, _, _, _⟩) (v := .pointer (some ⟨rg, 2, none⟩)) rfl (by kernel_rfl) (by kernel_rfl) (by kernel_rfl) (fun _ _ _ h => h) (Or.inl ⟨by kernel_rfl, by intro w; go_simp⟩) ?_
  simp only [Act.put, List.setIfInBounds_toArray, List.set_cons_zero, List.set_cons_succ]
  refine wpAny_ready (rs := [12]) (by kernel_rfl) (by simp) ?_
  refine AllReady.cons rfl (fun K hK => ?_) AllReady.nil
  go_simp
  refine hK _ _ ?_
  clear hK K
  refine wpAny_take (i := 13) (oi := ⟨some 35, _, _, _, _, _⟩) (v := .pointer (some ⟨rg, 0, none⟩)) rfl (by kernel_rfl) (by kernel_rfl) (by kernel_rfl) (fun _ _ _ h => h) (Or.inl ⟨by kernel_rfl, by intro w; go_simp⟩) ?_
  simp only [Act.put, List.setIfInBounds_toArray, List.set_cons_zero, List.set_cons_succ]
  refine wpAny_take (i := 14) (oi := ⟨some 36, _, _, _, _, _⟩) (v := .pointer (some ⟨rg, 3, none⟩)) rfl (by kernel_rfl) (by kernel_rfl) (by kernel_rfl) (fun _ _ _ h => h) (Or.inl ⟨by kernel_rfl, by intro w; go_simp⟩) ?_
  simp only [Act.put, List.setIfInBounds_toArray, List.set_cons_zero, List.set_cons_succ]
  refine wpAny_ready (rs := [15]) (by kernel_rfl) (by simp) ?_
  refine AllReady.cons rfl (fun K hK => ?_) AllReady.nil
  go_simp
  refine hK _ _ ?_
  clear hK K
  refine wpAny_done (by kernel_rfl) ?_ _
  obtain ⟨W3, hW3⟩ : ∃ W3, W3 = ((w2.setCell ⟨rg, 2, none⟩ (.slice P2 t.length (cap - 1))).setCell ⟨rg, 3, none⟩ (.int .u64 L)).drew := ⟨_, rfl⟩
  rw [<- hW3]
  have hr3 : Row W3 rg 207 (rcells (some ⟨y.g, 0, none⟩) c (.slice P2 t.length (cap - 1)) L (nextV 117 rg) d k) := by
   rw [hW3]
   exact ((HR2.out.set 2 _).set 3 _).below (drew_below _) (((HR2.out.set 2 _).set 3 _).lt)
  have n2 := hr3.cell 2
  have n3 := hr3.cell 3
  simp only [rcells, List.getElem?_toArray, List.getElem?_cons_succ, List.getElem?_cons_zero] at n2 n3
  have FIN := Lib.hid fun (p3 : LowBy W3) => rstore_fin (V := .slice P2 t.length (cap - 1)) HM.out HM2.out HT2.out (by rw [<- hW3]; exact p3.low) (by rw [<- hW3]; exact hr3) sep HRL.out HAH.out HAS.out
  have HOW := Lib.hid (show t ≠ [] -> (Value.slice P2 t.length (cap - 1)).ownBlock = some g from fun h0 => by rw [HP3.out h0]; rfl)
  have ca := fun p : LowBy W3 => p.cell n2
  have cb := fun p : LowBy W3 => p.cell n3
  cases t with
  | nil =>
   clear j2 j3 j4 m0 l2 l3 l4 n2 n3 hr3 hW3
   go_wp2_with fail
   refine wp_region_quiet_low (by assumption) (by kernel_rfl) ?_
   repeat (go_big_quiet_step (fail))
   refine wpQuiet_nil ?_
   intro _ hw'
   obtain ⟨p3, hw''⟩ := hw'
   subst hw''
   clear ca cb
   have F := FIN.out p3
   have n4 := F.1.2.1.cell 4
   have l4 := F.1.2.1.free 4
   simp only [rcells, List.getElem?_toArray, List.getElem?_cons_succ, List.getElem?_cons_zero] at n4
   have F := Lib.hid F.2
   clear FIN
   unfold nextV at F
   go_wp2
   go_ret
   exact ⟨rfl, y2, .slice P2 0 (cap - 1), F.out.1, F.out.2.1, F.out.2.2.1, fun h0 => absurd rfl h0, F.out.2.2.2⟩
  | cons bu t' =>
   obtain ⟨b, u⟩ := bu
   obtain ⟨g', off', q0, hPP⟩ : ∃ g' off', W3.cell? ⟨g', off', none⟩ = some (.int .u64 (b : Int)) /\ P2 = some ⟨g', off', none⟩ := by
    rcases (FIN.out ⟨W3, Below.refl _ _⟩).1.2.2.1 with ⟨h0, _⟩ | ⟨_, g', off', cap', he, _, _, hc⟩
    ·cases h0
    ·injection he with he1 _ _
     exact ⟨g', off', hc 0 _ (by rw [flat_cons]; rfl), he1⟩
   subst hPP
   have cd := fun p : LowBy W3 => p.cell q0
   obtain ⟨Lb, hLb⟩ : ∃ Lb, Lb = ((b / 64 * 64 : Nat) : Int) := ⟨_, rfl⟩
   have HLb := Lib.hid fun (p : LowBy W3) => Calls.low_of_same (w := W3) (p := p) (geoLine_any (a := b) (ht (b, u) List.mem_cons_self) p.W)
   rw [<- hLb] at HLb
   have HE : Lb = L ↔ b / 64 * 64 = a / 64 * 64 := by rw [hLb, HLE.out]; omega
   have hz1 : (((((b, u) :: t').length : Nat) : Int) == 0) = false := by simp only [List.length_cons]; rw [beq_eq_false_iff_ne]; omega
   have hz2 : (((t'.length + 1 : Nat) : Int) == 0) = false := by rw [beq_eq_false_iff_ne]; omega
   have hz3 : (((t'.length : Nat) : Int) + 1 == 0) = false := by rw [beq_eq_false_iff_ne]; omega
   have HEE := Lib.hid (show ends a ((b, u) :: t') = !(b / 64 * 64 == a / 64 * 64) from rfl)
   have HEQ := Lib.hid HE
   clear j2 j3 j4 m0 l2 l3 l4 n2 n3 hr3 hW3 HE hLb q0 HP2 HP3
   by_cases hEq : Lb = L
   ·have e1 : (Lb == L) = true := by rw [beq_iff_eq]; exact hEq
    have e2 : (Lb != L) = false := by simp [bne, e1]
    have e3 : ends a ((b, u) :: t') = false := by rw [HEE.out, HEQ.out.1 hEq]; simp
    have E3 := Lib.hid e3
    clear hEq e3
    go_wp2_with fail
    refine wp_region_quiet_low (by assumption) (by kernel_rfl) ?_
    repeat (go_big_quiet_step ((go_at_call 142; with_reducible exact HLb.out _)))
    refine wpQuiet_nil ?_
    intro _ hw'
    obtain ⟨p3, hw''⟩ := hw'
    subst hw''
    clear ca cb cd
    have F := Lib.hid (FIN.out p3).1
    clear FIN
    go_wp2
    go_ret
    refine ⟨rfl, ?_⟩
    unfold stNext
    rw [E3.out]
    exact ⟨y2, _, F.out.1, F.out.2.1, F.out.2.2.1, HOW.out, F.out.2.2.2⟩
   ·have e1 : (Lb == L) = false := by rw [beq_eq_false_iff_ne]; exact hEq
    have e2 : (Lb != L) = true := by simp [bne, e1]
    have e3 : ends a ((b, u) :: t') = true := by
     rw [HEE.out]
     simp only [Bool.not_eq_true', beq_eq_false_iff_ne]
     exact fun h => hEq (HEQ.out.2 h)
    have E3 := Lib.hid e3
    clear hEq e3
    go_wp2_with fail
    refine wp_region_quiet_low (by assumption) (by kernel_rfl) ?_
    repeat (go_big_quiet_step ((go_at_call 142; with_reducible exact HLb.out _)))
    refine wpQuiet_nil ?_
    intro _ hw'
    obtain ⟨p3, hw''⟩ := hw'
    subst hw''
    clear ca cb cd
    have F := FIN.out p3
    have n4 := F.1.2.1.cell 4
    have l4 := F.1.2.1.free 4
    simp only [rcells, List.getElem?_toArray, List.getElem?_cons_succ, List.getElem?_cons_zero] at n4
    have F := Lib.hid F.2
    clear FIN
    unfold nextV at F
    go_wp2
    go_ret
    refine ⟨rfl, ?_⟩
    unfold stNext
    rw [E3.out]
    exact ⟨y2, _, F.out.1, F.out.2.1, F.out.2.2.1, HOW.out, F.out.2.2.2⟩
 ·skip
  go_simp
  refine hK _ _ ?_
  clear hK K
  refine wpAny_ready (rs := [5, 9]) (by kernel_rfl) (by simp) ?_
  refine AllReady.cons rfl (fun K hK => ?_) (AllReady.cons rfl (fun K hK => ?_) AllReady.nil)
  ·skip
   go_simp
   refine hK _ _ ?_
   clear hK K
   refine wpAny_take (i := 6) (oi := ⟨some 29, _, _, _, _, _⟩) (v := .slice P2 t.length (cap - 1)) rfl (by kernel_rfl) (by kernel_rfl) (by kernel_rfl) (fun _ _ _ h => h) (Or.inl ⟨by kernel_rfl, by intro w; go_simp; rw [HP2.out]⟩) ?_
   simp only [Act.put, List.setIfInBounds_toArray, List.set_cons_zero, List.set_cons_succ]
   refine wpAny_ready (rs := [9]) (by kernel_rfl) (by simp) ?_
   refine AllReady.cons rfl (fun K hK => ?_) AllReady.nil
   go_simp
   refine (HL.out _).mono ?_
   rintro e wy ⟨rfl, rfl⟩
   refine hK _ _ ?_
   clear hK K
   refine wpAny_take (i := 10) (oi := ⟨some 33, _, _, _, _, _⟩) (v := .pointer (some ⟨rg, 0, none⟩)) rfl (by kernel_rfl) (by kernel_rfl) (by kernel_rfl) (fun _ _ _ h => h) (Or.inl ⟨by kernel_rfl, by intro w; go_simp⟩) ?_
   simp only [Act.put, List.setIfInBounds_toArray, List.set_cons_zero, List.set_cons_succ]
   refine wpAny_take (i := 11) (oi := ⟨some 34, _, _, _, _, _⟩) (v := .pointer (some ⟨rg, 2, none⟩)) rfl (by kernel_rfl) (by kernel_rfl) (by kernel_rfl) (fun _ _ _ h => h) (Or.inl ⟨by kernel_rfl, by intro w; go_simp⟩) ?_
   simp only [Act.put, List.setIfInBounds_toArray, List.set_cons_zero, List.set_cons_succ]
   refine wpAny_ready (rs := [12]) (by kernel_rfl) (by simp) ?_
   refine AllReady.cons rfl (fun K hK => ?_) AllReady.nil
   go_simp
   refine hK _ _ ?_
   clear hK K
   refine wpAny_take (i := 13) (oi := ⟨some 35, _, _, _, _, _⟩) (v := .pointer (some ⟨rg, 0, none⟩)) rfl (by kernel_rfl) (by kernel_rfl) (by kernel_rfl) (fun _ _ _ h => h) (Or.inl ⟨by kernel_rfl, by intro w; go_simp⟩) ?_
   simp only [Act.put, List.setIfInBounds_toArray, List.set_cons_zero, List.set_cons_succ]
   refine wpAny_take (i := 14) (oi := ⟨some 36, _, _, _, _, _⟩) (v := .pointer (some ⟨rg, 3, none⟩)) rfl (by kernel_rfl) (by kernel_rfl) (by kernel_rfl) (fun _ _ _ h => h) (Or.inl ⟨by kernel_rfl, by intro w; go_simp⟩) ?_
   simp only [Act.put, List.setIfInBounds_toArray, List.set_cons_zero, List.set_cons_succ]
   refine wpAny_ready (rs := [15]) (by kernel_rfl) (by simp) ?_
   refine AllReady.cons rfl (fun K hK => ?_) AllReady.nil
   go_simp
   refine hK _ _ ?_
   clear hK K
   refine wpAny_done (by kernel_rfl) ?_ _
   obtain ⟨W3, hW3⟩ : ∃ W3, W3 = ((w2.setCell ⟨rg, 2, none⟩ (.slice P2 t.length (cap - 1))).setCell ⟨rg, 3, none⟩ (.int .u64 L)).drew := ⟨_, rfl⟩
   rw [<- hW3]
   have hr3 : Row W3 rg 207 (rcells (some ⟨y.g, 0, none⟩) c (.slice P2 t.length (cap - 1)) L (nextV 117 rg) d k) := by
    rw [hW3]
    exact ((HR2.out.set 2 _).set 3 _).below (drew_below _) (((HR2.out.set 2 _).set 3 _).lt)
   have n2 := hr3.cell 2
   have n3 := hr3.cell 3
   simp only [rcells, List.getElem?_toArray, List.getElem?_cons_succ, List.getElem?_cons_zero] at n2 n3
   have FIN := Lib.hid fun (p3 : LowBy W3) => rstore_fin (V := .slice P2 t.length (cap - 1)) HM.out HM2.out HT2.out (by rw [<- hW3]; exact p3.low) (by rw [<- hW3]; exact hr3) sep HRL.out HAH.out HAS.out
   have HOW := Lib.hid (show t ≠ [] -> (Value.slice P2 t.length (cap - 1)).ownBlock = some g from fun h0 => by rw [HP3.out h0]; rfl)
   have ca := fun p : LowBy W3 => p.cell n2
   have cb := fun p : LowBy W3 => p.cell n3
   cases t with
   | nil =>
    clear j2 j3 j4 m0 l2 l3 l4 n2 n3 hr3 hW3
    go_wp2_with fail
    refine wp_region_quiet_low (by assumption) (by kernel_rfl) ?_
    repeat (go_big_quiet_step (fail))
    refine wpQuiet_nil ?_
    intro _ hw'
    obtain ⟨p3, hw''⟩ := hw'
    subst hw''
    clear ca cb
    have F := FIN.out p3
    have n4 := F.1.2.1.cell 4
    have l4 := F.1.2.1.free 4
    simp only [rcells, List.getElem?_toArray, List.getElem?_cons_succ, List.getElem?_cons_zero] at n4
    have F := Lib.hid F.2
    clear FIN
    unfold nextV at F
    go_wp2
    go_ret
    exact ⟨rfl, y2, .slice P2 0 (cap - 1), F.out.1, F.out.2.1, F.out.2.2.1, fun h0 => absurd rfl h0, F.out.2.2.2⟩
   | cons bu t' =>
    obtain ⟨b, u⟩ := bu
    obtain ⟨g', off', q0, hPP⟩ : ∃ g' off', W3.cell? ⟨g', off', none⟩ = some (.int .u64 (b : Int)) /\ P2 = some ⟨g', off', none⟩ := by
     rcases (FIN.out ⟨W3, Below.refl _ _⟩).1.2.2.1 with ⟨h0, _⟩ | ⟨_, g', off', cap', he, _, _, hc⟩
     ·cases h0
     ·injection he with he1 _ _
      exact ⟨g', off', hc 0 _ (by rw [flat_cons]; rfl), he1⟩
    subst hPP
    have cd := fun p : LowBy W3 => p.cell q0
    obtain ⟨Lb, hLb⟩ : ∃ Lb, Lb = ((b / 64 * 64 : Nat) : Int) := ⟨_, rfl⟩
    have HLb := Lib.hid fun (p : LowBy W3) => Calls.low_of_same (w := W3) (p := p) (geoLine_any (a := b) (ht (b, u) List.mem_cons_self) p.W)
    rw [<- hLb] at HLb
    have HE : Lb = L ↔ b / 64 * 64 = a / 64 * 64 := by rw [hLb, HLE.out]; omega
    have hz1 : (((((b, u) :: t').length : Nat) : Int) == 0) = false := by simp only [List.length_cons]; rw [beq_eq_false_iff_ne]; omega
    have hz2 : (((t'.length + 1 : Nat) : Int) == 0) = false := by rw [beq_eq_false_iff_ne]; omega
    have hz3 : (((t'.length : Nat) : Int) + 1 == 0) = false := by rw [beq_eq_false_iff_ne]; omega
    have HEE := Lib.hid (show ends a ((b, u) :: t') = !(b / 64 * 64 == a / 64 * 64) from rfl)
    have HEQ := Lib.hid HE
    clear j2 j3 j4 m0 l2 l3 l4 n2 n3 hr3 hW3 HE hLb q0 HP2 HP3
    by_cases hEq : Lb = L
    ·have e1 : (Lb == L) = true := by rw [beq_iff_eq]; exact hEq
     have e2 : (Lb != L) = false := by simp [bne, e1]
     have e3 : ends a ((b, u) :: t') = false := by rw [HEE.out, HEQ.out.1 hEq]; simp
     have E3 := Lib.hid e3
     clear hEq e3
     go_wp2_with fail
     refine wp_region_quiet_low (by assumption) (by kernel_rfl) ?_
     repeat (go_big_quiet_step ((go_at_call 142; with_reducible exact HLb.out _)))
     refine wpQuiet_nil ?_
     intro _ hw'
     obtain ⟨p3, hw''⟩ := hw'
     subst hw''
     clear ca cb cd
     have F := Lib.hid (FIN.out p3).1
     clear FIN
     go_wp2
     go_ret
     refine ⟨rfl, ?_⟩
     unfold stNext
     rw [E3.out]
     exact ⟨y2, _, F.out.1, F.out.2.1, F.out.2.2.1, HOW.out, F.out.2.2.2⟩
    ·have e1 : (Lb == L) = false := by rw [beq_eq_false_iff_ne]; exact hEq
     have e2 : (Lb != L) = true := by simp [bne, e1]
     have e3 : ends a ((b, u) :: t') = true := by
      rw [HEE.out]
      simp only [Bool.not_eq_true', beq_eq_false_iff_ne]
      exact fun h => hEq (HEQ.out.2 h)
     have E3 := Lib.hid e3
     clear hEq e3
     go_wp2_with fail
     refine wp_region_quiet_low (by assumption) (by kernel_rfl) ?_
     repeat (go_big_quiet_step ((go_at_call 142; with_reducible exact HLb.out _)))
     refine wpQuiet_nil ?_
     intro _ hw'
     obtain ⟨p3, hw''⟩ := hw'
     subst hw''
     clear ca cb cd
     have F := FIN.out p3
     have n4 := F.1.2.1.cell 4
     have l4 := F.1.2.1.free 4
     simp only [rcells, List.getElem?_toArray, List.getElem?_cons_succ, List.getElem?_cons_zero] at n4
     have F := Lib.hid F.2
     clear FIN
     unfold nextV at F
     go_wp2
     go_ret
     refine ⟨rfl, ?_⟩
     unfold stNext
     rw [E3.out]
     exact ⟨y2, _, F.out.1, F.out.2.1, F.out.2.2.1, HOW.out, F.out.2.2.2⟩
  ·skip
   go_simp
   refine (HL.out _).mono ?_
   rintro e wy ⟨rfl, rfl⟩
   refine hK _ _ ?_
   clear hK K
   refine wpAny_ready (rs := [5]) (by kernel_rfl) (by simp) ?_
   refine AllReady.cons rfl (fun K hK => ?_) AllReady.nil
   go_simp
   refine hK _ _ ?_
   clear hK K
   refine wpAny_take (i := 6) (oi := ⟨some 29, _, _, _, _, _⟩) (v := .slice P2 t.length (cap - 1)) rfl (by kernel_rfl) (by kernel_rfl) (by kernel_rfl) (fun _ _ _ h => h) (Or.inl ⟨by kernel_rfl, by intro w; go_simp; rw [HP2.out]⟩) ?_
   simp only [Act.put, List.setIfInBounds_toArray, List.set_cons_zero, List.set_cons_succ]
   refine wpAny_take (i := 10) (oi := ⟨some 33, _, _, _, _, _⟩) (v := .pointer (some ⟨rg, 0, none⟩)) rfl (by kernel_rfl) (by kernel_rfl) (by kernel_rfl) (fun _ _ _ h => h) (Or.inl ⟨by kernel_rfl, by intro w; go_simp⟩) ?_
   simp only [Act.put, List.setIfInBounds_toArray, List.set_cons_zero, List.set_cons_succ]
   refine wpAny_take (i := 11) (oi := ⟨some 34, _, _, _, _, _⟩) (v := .pointer (some ⟨rg, 2, none⟩)) rfl (by kernel_rfl) (by kernel_rfl) (by kernel_rfl) (fun _ _ _ h => h) (Or.inl ⟨by kernel_rfl, by intro w; go_simp⟩) ?_
   simp only [Act.put, List.setIfInBounds_toArray, List.set_cons_zero, List.set_cons_succ]
   refine wpAny_ready (rs := [12]) (by kernel_rfl) (by simp) ?_
   refine AllReady.cons rfl (fun K hK => ?_) AllReady.nil
   go_simp
   refine hK _ _ ?_
   clear hK K
   refine wpAny_take (i := 13) (oi := ⟨some 35, _, _, _, _, _⟩) (v := .pointer (some ⟨rg, 0, none⟩)) rfl (by kernel_rfl) (by kernel_rfl) (by kernel_rfl) (fun _ _ _ h => h) (Or.inl ⟨by kernel_rfl, by intro w; go_simp⟩) ?_
   simp only [Act.put, List.setIfInBounds_toArray, List.set_cons_zero, List.set_cons_succ]
   refine wpAny_take (i := 14) (oi := ⟨some 36, _, _, _, _, _⟩) (v := .pointer (some ⟨rg, 3, none⟩)) rfl (by kernel_rfl) (by kernel_rfl) (by kernel_rfl) (fun _ _ _ h => h) (Or.inl ⟨by kernel_rfl, by intro w; go_simp⟩) ?_
   simp only [Act.put, List.setIfInBounds_toArray, List.set_cons_zero, List.set_cons_succ]
   refine wpAny_ready (rs := [15]) (by kernel_rfl) (by simp) ?_
   refine AllReady.cons rfl (fun K hK => ?_) AllReady.nil
   go_simp
   refine hK _ _ ?_
   clear hK K
   refine wpAny_done (by kernel_rfl) ?_ _
   obtain ⟨W3, hW3⟩ : ∃ W3, W3 = ((w2.setCell ⟨rg, 2, none⟩ (.slice P2 t.length (cap - 1))).setCell ⟨rg, 3, none⟩ (.int .u64 L)).drew := ⟨_, rfl⟩
   rw [<- hW3]
   have hr3 : Row W3 rg 207 (rcells (some ⟨y.g, 0, none⟩) c (.slice P2 t.length (cap - 1)) L (nextV 117 rg) d k) := by
    rw [hW3]
    exact ((HR2.out.set 2 _).set 3 _).below (drew_below _) (((HR2.out.set 2 _).set 3 _).lt)
   have n2 := hr3.cell 2
   have n3 := hr3.cell 3
   simp only [rcells, List.getElem?_toArray, List.getElem?_cons_succ, List.getElem?_cons_zero] at n2 n3
   have FIN := Lib.hid fun (p3 : LowBy W3) => rstore_fin (V := .slice P2 t.length (cap - 1)) HM.out HM2.out HT2.out (by rw [<- hW3]; exact p3.low) (by rw [<- hW3]; exact hr3) sep HRL.out HAH.out HAS.out
   have HOW := Lib.hid (show t ≠ [] -> (Value.slice P2 t.length (cap - 1)).ownBlock = some g from fun h0 => by rw [HP3.out h0]; rfl)
   have ca := fun p : LowBy W3 => p.cell n2
   have cb := fun p : LowBy W3 => p.cell n3
   cases t with
   | nil =>
    clear j2 j3 j4 m0 l2 l3 l4 n2 n3 hr3 hW3
    go_wp2_with fail
    refine wp_region_quiet_low (by assumption) (by kernel_rfl) ?_
    repeat (go_big_quiet_step (fail))
    refine wpQuiet_nil ?_
    intro _ hw'
    obtain ⟨p3, hw''⟩ := hw'
    subst hw''
    clear ca cb
    have F := FIN.out p3
    have n4 := F.1.2.1.cell 4
    have l4 := F.1.2.1.free 4
    simp only [rcells, List.getElem?_toArray, List.getElem?_cons_succ, List.getElem?_cons_zero] at n4
    have F := Lib.hid F.2
    clear FIN
    unfold nextV at F
    go_wp2
    go_ret
    exact ⟨rfl, y2, .slice P2 0 (cap - 1), F.out.1, F.out.2.1, F.out.2.2.1, fun h0 => absurd rfl h0, F.out.2.2.2⟩
   | cons bu t' =>
    obtain ⟨b, u⟩ := bu
    obtain ⟨g', off', q0, hPP⟩ : ∃ g' off', W3.cell? ⟨g', off', none⟩ = some (.int .u64 (b : Int)) /\ P2 = some ⟨g', off', none⟩ := by
     rcases (FIN.out ⟨W3, Below.refl _ _⟩).1.2.2.1 with ⟨h0, _⟩ | ⟨_, g', off', cap', he, _, _, hc⟩
     ·cases h0
     ·injection he with he1 _ _
      exact ⟨g', off', hc 0 _ (by rw [flat_cons]; rfl), he1⟩
    subst hPP
    have cd := fun p : LowBy W3 => p.cell q0
    obtain ⟨Lb, hLb⟩ : ∃ Lb, Lb = ((b / 64 * 64 : Nat) : Int) := ⟨_, rfl⟩
    have HLb := Lib.hid fun (p : LowBy W3) => Calls.low_of_same (w := W3) (p := p) (geoLine_any (a := b) (ht (b, u) List.mem_cons_self) p.W)
    rw [<- hLb] at HLb
    have HE : Lb = L ↔ b / 64 * 64 = a / 64 * 64 := by rw [hLb, HLE.out]; omega
    have hz1 : (((((b, u) :: t').length : Nat) : Int) == 0) = false := by simp only [List.length_cons]; rw [beq_eq_false_iff_ne]; omega
    have hz2 : (((t'.length + 1 : Nat) : Int) == 0) = false := by rw [beq_eq_false_iff_ne]; omega
    have hz3 : (((t'.length : Nat) : Int) + 1 == 0) = false := by rw [beq_eq_false_iff_ne]; omega
    have HEE := Lib.hid (show ends a ((b, u) :: t') = !(b / 64 * 64 == a / 64 * 64) from rfl)
    have HEQ := Lib.hid HE
    clear j2 j3 j4 m0 l2 l3 l4 n2 n3 hr3 hW3 HE hLb q0 HP2 HP3
    by_cases hEq : Lb = L
    ·have e1 : (Lb == L) = true := by rw [beq_iff_eq]; exact hEq
     have e2 : (Lb != L) = false := by simp [bne, e1]
     have e3 : ends a ((b, u) :: t') = false := by rw [HEE.out, HEQ.out.1 hEq]; simp
     have E3 := Lib.hid e3
     clear hEq e3
     go_wp2_with fail
     refine wp_region_quiet_low (by assumption) (by kernel_rfl) ?_
     repeat (go_big_quiet_step ((go_at_call 142; with_reducible exact HLb.out _)))
     refine wpQuiet_nil ?_
     intro _ hw'
     obtain ⟨p3, hw''⟩ := hw'
     subst hw''
     clear ca cb cd
     have F := Lib.hid (FIN.out p3).1
     clear FIN
     go_wp2
     go_ret
     refine ⟨rfl, ?_⟩
     unfold stNext
     rw [E3.out]
     exact ⟨y2, _, F.out.1, F.out.2.1, F.out.2.2.1, HOW.out, F.out.2.2.2⟩
    ·have e1 : (Lb == L) = false := by rw [beq_eq_false_iff_ne]; exact hEq
     have e2 : (Lb != L) = true := by simp [bne, e1]
     have e3 : ends a ((b, u) :: t') = true := by
      rw [HEE.out]
      simp only [Bool.not_eq_true', beq_eq_false_iff_ne]
      exact fun h => hEq (HEQ.out.2 h)
     have E3 := Lib.hid e3
     clear hEq e3
     go_wp2_with fail
     refine wp_region_quiet_low (by assumption) (by kernel_rfl) ?_
     repeat (go_big_quiet_step ((go_at_call 142; with_reducible exact HLb.out _)))
     refine wpQuiet_nil ?_
     intro _ hw'
     obtain ⟨p3, hw''⟩ := hw'
     subst hw''
     clear ca cb cd
     have F := FIN.out p3
     have n4 := F.1.2.1.cell 4
     have l4 := F.1.2.1.free 4
     simp only [rcells, List.getElem?_toArray, List.getElem?_cons_succ, List.getElem?_cons_zero] at n4
     have F := Lib.hid F.2
     clear FIN
     unfold nextV at F
     go_wp2
     go_ret
     refine ⟨rfl, ?_⟩
     unfold stNext
     rw [E3.out]
     exact ⟨y2, _, F.out.1, F.out.2.1, F.out.2.2.1, HOW.out, F.out.2.2.2⟩
end Go.Proofs.YtkbklooocdfcfaaGreatDoor
namespace Go.Proofs.YtkbklooocdfcfaaGreatDoor
open Go.RowKit
inductive Sp where
 | bg
 | rd
 | lw
 | en
deriving DecidableEq
def Sp.no : Sp -> Nat
 | .bg => 184
 | .rd => 190
 | .lw => 200
 | .en => 201
structure SS where
 ph : Sp
 d : Bool
 k : Int
 a : Nat
 r : Nat -> Int
 wh : Nat
 wd : Nat
 lo : Int
 n : Nd
def SS.new (a : Nat) : SS := ⟨.bg, false, 0, a, fun _ => 0, 0, 0, 0, zeroNd⟩
def SnapAt (w : World) (g : Nat) (p : Option Addr) (s : SS) : Prop := ∃ cs, Row w g 265 cs /\ IsS cs p (nextV s.ph.no g) s.d s.k s.a s.r s.wh s.wd s.lo s.n
def SS.ask (s : SS) : Nat := match s.ph with
 | .bg => snWordAt s.a 3
 | .rd => snWordAt s.a s.wd
 | .lw => snWordAt (s.r 26).toNat 1
 | .en => snWordAt s.a 3
def rdP (s : SS) (v : Int) : Sp := if (bh s.wd v).2 = true then .rd else if s.wh = 0 then .rd else if rput s.r (24 * s.wh + s.wd) v 26 = 0 then .en else .lw
def SS.next (s : SS) (v kk : Int) : SS := match s.ph with
 | .bg => { s with ph := .rd, d := kk != 0, k := kk, r := rBeg v, wh := 0, wd := 0 }
 | .rd => { s with ph := rdP s v, d := kk != 0, k := kk, r := rput s.r (24 * s.wh + s.wd) v, wh := rdWh s.wh s.wd v, wd := (bh s.wd v).1 }
 | .lw => { s with ph := .en, d := kk != 0, k := kk, lo := v }
 | .en => { s with ph := if kk = 0 /\ sameR (rput s.r 27 v) = true then .en else .bg, d := enD false (rput s.r 27 v) kk || enK (rput s.r 27 v) kk != 0, k := enK (rput s.r 27 v) kk, r := rput s.r 27 v, n := enN s.n (rput s.r 27 v) kk }
structure SS.Good (s : SS) : Prop where
 d : s.d = false
 a : s.a < 18446744073709551616
 wh : s.wh = 0 \/ s.wh = 1
 wd : s.wd < 24
 r : ∀ j, 0 <= s.r j /\ s.r j < 18446744073709551616
theorem new_SGood {a : Nat} (ha : a < 18446744073709551616) : (SS.new a).Good := ⟨rfl, ha, .inl rfl, by show 0 < 24; omega, fun j => ⟨Int.le_refl 0, by show (0 : Int) < _; omega⟩⟩
theorem rput_in {r : Nat -> Int} (h : ∀ j, 0 <= r j /\ r j < 18446744073709551616) {i : Nat} {v : Int} (hv : 0 <= v /\ v < 18446744073709551616) (j : Nat) : 0 <= rput r i v j /\ rput r i v j < 18446744073709551616 := by
 unfold rput
 split
 ·exact hv
 ·exact h j
theorem bh_lt {k : Nat} (hk : k < 24) (v : Int) : (bh k v).1 < 24 := by
 unfold bh
 split
 ·show 4 < 24; omega
 ·split
  ·show 8 < 24; omega
  ·split
   ·show 0 < 24; omega
   ·rename_i h
    show k + 1 < 24
    have : k ≠ 23 := fun e => h (.inl e)
    omega
theorem SS.next_good {s : SS} (G : s.Good) {v kk : Int} (hv : 0 <= v /\ v < 18446744073709551616) (hd : (s.next v kk).d = false) : (s.next v kk).Good := by
 obtain ⟨ph, d, k, a, r, wh, wd, lo, n⟩ := s
 obtain ⟨g1, g2, g3, g4, g5⟩ := G
 cases ph with
 | bg => exact ⟨hd, g2, .inl rfl, by show 0 < 24; omega, fun j => by
   show 0 <= rBeg v j /\ rBeg v j < _
   unfold rBeg
   split
   ·exact hv
   ·omega⟩
 | rd => exact ⟨hd, g2, by
   show rdWh wh wd v = 0 \/ rdWh wh wd v = 1
   unfold rdWh
   split
   ·exact g3
   ·exact .inr rfl, bh_lt g4 v, fun j => rput_in g5 hv j⟩
 | lw => exact ⟨hd, g2, g3, g4, g5⟩
 | en => exact ⟨hd, g2, g3, g4, fun j => rput_in g5 hv j⟩
def ldV (s : St) (A : Nat) : Int := if A % 8 = 0 /\ A < 64 * s.nl then ((s.view.getD (A / 8) 0 : Nat) : Int) else 0
def ldK (s : St) (A : Nat) : Int := if A % 8 = 0 /\ A < 64 * s.nl then 0 else 3
def ldS (s : St) (A : Nat) : St := if A % 8 = 0 /\ A < 64 * s.nl then { s with ld := s.ld + 1 } else s
theorem load_any {w : World} {y : Lay} {s : St} (h : MemAt w y s) (ok : s.Ok) (A : Nat) :
  Calls Tryz.prog 94 #[.pointer (some ⟨y.g, 0, none⟩), .int .u64 (A : Int)] w (AnsPost w y (ldS s A) (.tuple #[.int .u64 (ldV s A), .int .i64 (ldK s A)])) := by
 unfold ldS ldV ldK
 by_cases hA : A % 8 = 0 /\ A < 64 * s.nl
 ·simp only [if_pos hA]
  exact load_ok h ok A hA.1 hA.2
 ·simp only [if_neg hA]
  exact (load_range h A (by omega)).mono fun e w' ⟨he, hw⟩ => ⟨he, y, by rw [<- hw]; exact h, by rw [<- hw]; exact Turn.refl _ _⟩
def SnPost (w : World) (y : Lay) (g : Nat) (S' : SS) (s' : St) (w' : World) : Prop := ∃ y', MemAt w' y' s' /\ SnapAt w' g (some ⟨y.g, 0, none⟩) S' /\ RT w w' y y' g
def SnP (w : World) (y : Lay) (g : Nat) (s' : St) (w' : World) : Prop := ∃ y', MemAt w' y' s' /\ RT w w' y y' g
theorem sn_fin {w w1 w' : World} {y : Lay} {g : Nat} {s' : St} {cs' : Array Value} (hg : g < w.heap.size) (sep : ¬ y.fp g) (h1 : SnP w y g s' w1) (h2 : SnSw w1 w' g cs') : ∃ y', MemAt w' y' s' /\ RT w w' y y' g := by
 obtain ⟨y', hm, T⟩ := h1
 have sep' : ¬ y'.fp g := fun hf => by
  rcases T.fp g hf with h | h
  ·exact sep h
  ·omega
 exact ⟨y', hm.same fun k hk => h2.but.block k (hm.lt k hk) (fun e => sep' (by rw [<- e]; exact hk)), T.trans ⟨rfl, h2.but.mono fun k h => .inr h, fun _ h => .inl h⟩⟩
theorem sn_load {w : World} {y : Lay} {s : St} {g : Nat} {cs : Array Value} (h : MemAt w y s) (ok : s.Ok) (hr : Row w g 265 cs) (sep : ¬ y.fp g) (A : Nat) : ∀ W, Below w.heap.size w W ->
  Calls Tryz.prog 94 #[.pointer (some ⟨y.g, 0, none⟩), .int .u64 (A : Int)] W fun e' w' => e' = .returned (.tuple #[.int .u64 (ldV s A), .int .i64 (ldK s A)]) /\ LQ g cs (SnP w y g (ldS s A)) w' := by
 intro W hb
 refine (load_any (h.below hb) ok A).mono ?_
 rintro e w' ⟨he, y', hm, ht⟩
 exact ⟨he, ht.but.row (hr.below hb hr.lt) sep, y', hm, (RT.of_below y g hb).trans (RT.of_turn g ht)⟩
theorem sstep_any {w : World} {y : Lay} {s : St} {g : Nat} {S : SS} (h : MemAt w y s) (ok : s.Ok) (hS : SnapAt w g (some ⟨y.g, 0, none⟩) S) (sep : ¬ y.fp g) (G : S.Good) :
  Calls Tryz.prog 185 #[.pointer (some ⟨g, 0, none⟩)] w fun e w' => e = .returned (.tuple #[.bool (S.next (ldV s S.ask) (ldK s S.ask)).d, .int .i64 (S.next (ldV s S.ask) (ldK s S.ask)).k]) /\ SnPost w y g (S.next (ldV s S.ask) (ldK s S.ask)) (ldS s S.ask) w' := by
 obtain ⟨cs, hr, hs⟩ := hS
 have hlt := hr.lt
 obtain ⟨ph, d, k, a, r, wh, wd, lo, n⟩ := S
 obtain ⟨g1, g2, g3, g4, g5⟩ := G
 dsimp only at g1 g2 g3 g4 g5 hs
 subst g1
 refine snStep_of ?_
 cases ph with
 | bg =>
  refine (mstep_of (fun w v => Tryz.call184 _ _) hr hs.c1 hs.c2 (by simp; rfl) (snBegin_any hr hs g2 (sn_load h ok hr sep _))).mono ?_
  rintro e w' ⟨he, w1, cs', h1, hi, hsw⟩
  obtain ⟨y', hm', T'⟩ := sn_fin hlt sep h1 hsw
  exact ⟨he, y', hm', ⟨cs', hsw.row, hi⟩, T'⟩
 | rd =>
  have hF : rdF (nextV 190 g) g r wh wd (ldV s (snWordAt a wd)) = nextV (rdP ⟨.rd, false, k, a, r, wh, wd, lo, n⟩ (ldV s (snWordAt a wd))).no g := by
   unfold rdF rdP
   dsimp only
   split
   ·rfl
   ·split
    ·rfl
    ·split <;> rfl
  refine (mstep_of (fun w v => Tryz.call190 _ _) hr hs.c1 hs.c2 (by simp; rfl) (read_any hr hs g2 g3 g4 (sn_load h ok hr sep _))).mono ?_
  rintro e w' ⟨he, w1, cs', h1, hi, hsw⟩
  obtain ⟨y', hm', T'⟩ := sn_fin hlt sep h1 hsw
  have hi' := hi
  rw [show (Sp.rd).no = 190 from rfl, hF] at hi'
  exact ⟨he, y', hm', ⟨cs', hsw.row, hi'⟩, T'⟩
 | lw =>
  refine (mstep_of (fun w v => Tryz.call200 _ _) hr hs.c1 hs.c2 (by simp; rfl) (readLow_any (a := (r 26).toNat) hr hs (by have := g5 26; omega) (by have := g5 26; omega) (sn_load h ok hr sep _))).mono ?_
  rintro e w' ⟨he, w1, cs', h1, hi, hsw⟩
  obtain ⟨y', hm', T'⟩ := sn_fin hlt sep h1 hsw
  exact ⟨he, y', hm', ⟨cs', hsw.row, hi⟩, T'⟩
 | en =>
  have hF : ∀ rr kk, enF (nextV 201 g) g rr kk = nextV (if kk = 0 /\ sameR rr = true then Sp.en else Sp.bg).no g := fun rr kk => by
   unfold enF
   split <;> rfl
  refine (mstep_of (fun w v => Tryz.call201 _ _) hr hs.c1 hs.c2 rfl (end_any hr hs g2 (g5 24) (sn_load h ok hr sep _))).mono ?_
  rintro e w' ⟨he, w1, cs', h1, hi, hsw⟩
  obtain ⟨y', hm', T'⟩ := sn_fin hlt sep h1 hsw
  have hi' := hi
  rw [show (Sp.en).no = 201 from rfl, hF] at hi'
  exact ⟨he, y', hm', ⟨cs', hsw.row, hi'⟩, T'⟩
def SS.go (V K : Nat -> Int) (S : SS) : SS := S.next (V S.ask) (K S.ask)
def SS.it (V K : Nat -> Int) : Nat -> SS -> SS
 | 0, S => S
 | n + 1, S => (SS.it V K n S).go V K
theorem SS.it_add (V K : Nat -> Int) (S : SS) (n : Nat) : ∀ m, SS.it V K (n + m) S = SS.it V K m (SS.it V K n S)
 | 0 => rfl
 | m + 1 => by rw [<- Nat.add_assoc, SS.it, SS.it, SS.it_add V K S n m]
structure Goes (V K : Nat -> Int) (S : SS) (n : Nat) (S' : SS) : Prop where
 it : SS.it V K n S = S'
 on : ∀ t, t < n -> (SS.it V K t S).d = false
theorem Goes.one {V K : Nat -> Int} {S : SS} (h : S.d = false) : Goes V K S 1 (S.go V K) := ⟨rfl, fun t ht => by
 obtain rfl : t = 0 := by omega
 exact h⟩
theorem Goes.add {V K : Nat -> Int} {S S' S'' : SS} {n m : Nat} (h : Goes V K S n S') (h' : Goes V K S' m S'') : Goes V K S (n + m) S'' := by
 refine ⟨by rw [SS.it_add, h.it, h'.it], fun t ht => ?_⟩
 by_cases hl : t < n
 ·exact h.on t hl
 ·obtain ⟨u, rfl⟩ : ∃ u, t = n + u := ⟨t - n, by omega⟩
  rw [SS.it_add, h.it]
  exact h'.on u (by omega)
def prt (W : Nat -> Int) (k j : Nat) : Int := if j < k /\ j ≠ 3 /\ (j < 5 \/ 7 < j) then W j else 0
def fullTo (W : Nat -> Int) (j : Nat) : Prop := ∀ i, i < j -> 9 <= i -> i % 2 = 1 -> W i ≠ 0
instance (W : Nat -> Int) (j : Nat) : Decidable (fullTo W j) := by unfold fullTo; infer_instance
def full (W : Nat -> Int) (j : Nat) : Int := if (j ≠ 3 /\ (j < 5 \/ 7 < j)) /\ fullTo W j then W j else 0
def Erred (S : SS) : Prop := S.d = true /\ S.k = 3 /\ S.n = zeroNd
def Bad (V K : Nat -> Int) (a : Nat) : Prop := (∃ k, k < 24 /\ K (snWordAt a k) = 3) \/ (V (snWordAt a 2) ≠ 0 /\ K (snWordAt (V (snWordAt a 2)).toNat 1) = 3)
def ordW (k : Nat) : Prop := k = 0 \/ k = 1 \/ k = 2 \/ k = 4 \/ (8 <= k /\ k < 24)
theorem prt_put {W : Nat -> Int} {r : Nat -> Int} {wh k k' : Nat} (hk : ordW k) (hb : k' = if k = 2 then 4 else if k = 4 then 8 else k + 1) {c : Int}
  (hr : ∀ j, j < 24 -> r (24 * wh + j) = if j = 3 then c else prt W k j) : ∀ j, j < 24 -> rput r (24 * wh + k) (W k) (24 * wh + j) = if j = 3 then c else prt W k' j := by
 intro j hj
 unfold rput
 by_cases e : j = k
 ·subst e
  rw [if_pos rfl]
  have h3 : j ≠ 3 := by rcases hk with h | h | h | h | h <;> omega
  rw [if_neg h3]
  unfold prt
  have : j < k' := by
   rw [hb]
   split
   ·omega
   ·split <;> omega
  rw [if_pos ⟨this, h3, by rcases hk with h | h | h | h | h <;> omega⟩]
 ·rw [if_neg (by omega), hr j hj]
  by_cases h3 : j = 3
  ·rw [if_pos h3, if_pos h3]
  ·rw [if_neg h3, if_neg h3]
   unfold prt
   by_cases hc : j ≠ 3 /\ (j < 5 \/ 7 < j)
   ·have : j < k ↔ j < k' := by
     rw [hb]
     rcases hk with h | h | h | h | h
     ·subst h; simp only [show (0:Nat) ≠ 2 by omega, show (0:Nat) ≠ 4 by omega, if_false]; omega
     ·subst h; simp only [show (1:Nat) ≠ 2 by omega, show (1:Nat) ≠ 4 by omega, if_false]; omega
     ·subst h; simp only [if_true]; omega
     ·subst h; simp only [show (4:Nat) ≠ 2 by omega, if_false, if_true]; omega
     ·simp only [show k ≠ 2 by omega, show k ≠ 4 by omega, if_false]; omega
    simp only [hc, this]
   ·rw [if_neg (fun h => hc h.2), if_neg (fun h => hc h.2)]
theorem full_put {W : Nat -> Int} {r : Nat -> Int} {wh k : Nat} (hk : ordW k) (hs : k = 23 \/ (8 < k /\ k % 2 = 1 /\ W k = 0)) (hn : fullTo W k) {c : Int}
  (hr : ∀ j, j < 24 -> r (24 * wh + j) = if j = 3 then c else prt W k j) : ∀ j, j < 24 -> rput r (24 * wh + k) (W k) (24 * wh + j) = if j = 3 then c else full W j := by
 intro j hj
 unfold rput
 by_cases e : j = k
 ·subst e
  rw [if_pos rfl]
  have h8 : 8 < j := by rcases hs with h | h <;> omega
  rw [if_neg (by omega)]
  unfold full
  rw [if_pos ⟨⟨by omega, by omega⟩, hn⟩]
 ·rw [if_neg (by omega), hr j hj]
  by_cases h3 : j = 3
  ·rw [if_pos h3, if_pos h3]
  ·rw [if_neg h3, if_neg h3]
   unfold prt full
   by_cases hl : j < k
   ·have hf : fullTo W j := fun i hi => hn i (by omega)
    simp only [hl, hf, true_and, and_true]
   ·rw [if_neg (fun h => hl h.1), if_neg]
    rintro ⟨_, hf⟩
    rcases hs with h | ⟨h, h', h0⟩
    ·omega
    ·exact hf k (by omega) (by omega) h' h0
theorem bh_on {k : Nat} {w : Int} (h : (bh k w).2 = true) (hk : ordW k) : (bh k w).1 = (if k = 2 then 4 else if k = 4 then 8 else k + 1) /\ ¬ (k = 23 \/ (8 < k /\ k % 2 = 1 /\ w = 0)) := by
 unfold bh at h ⊢
 by_cases h2 : k = 2
 ·subst h2; simp
 ·by_cases h4 : k = 4
  ·subst h4; simp
  ·rw [if_neg h2, if_neg h4] at h ⊢
   by_cases hs : k = 23 \/ (8 < k /\ k % 2 = 1 /\ w = 0)
   ·rw [if_pos hs] at h; cases h
   ·rw [if_neg hs, if_neg h2, if_neg h4]; exact ⟨rfl, hs⟩
theorem bh_off {k : Nat} {w : Int} (h : ¬ (bh k w).2 = true) : (bh k w).1 = 0 /\ (k = 23 \/ (8 < k /\ k % 2 = 1 /\ w = 0)) := by
 unfold bh at h ⊢
 by_cases h2 : k = 2
 ·subst h2; simp at h
 ·by_cases h4 : k = 4
  ·subst h4; simp at h
  ·rw [if_neg h2, if_neg h4] at h ⊢
   by_cases hs : k = 23 \/ (8 < k /\ k % 2 = 1 /\ w = 0)
   ·rw [if_pos hs]; exact ⟨rfl, hs⟩
   ·rw [if_neg hs] at h; exact absurd rfl h
theorem ne_zero_true {k : Int} (h : k = 3) : (k != 0) = true := by subst h; rfl
theorem rd_goes {V K : Nat -> Int} (hK : ∀ A, K A = 0 \/ K A = 3) {a wh : Nat} (hwh : wh = 0 \/ wh = 1) {c : Int} {lo : Int} : ∀ m k, 24 - k <= m -> ordW k -> ∀ (r : Nat -> Int) (kk : Int),
    (∀ j, j < 24 -> r (24 * wh + j) = if j = 3 then c else prt (fun i => V (snWordAt a i)) k j) -> fullTo (fun i => V (snWordAt a i)) k ->
    ∃ n S', 1 <= n /\ n <= m /\ Goes V K ⟨.rd, false, kk, a, r, wh, k, lo, zeroNd⟩ n S' /\
      ((Erred S' /\ ∃ i, i < 24 /\ K (snWordAt a i) = 3) \/
       ∃ r' : Nat -> Int, S' = ⟨if wh = 0 then .rd else if r' 26 = 0 then .en else .lw, false, 0, a, r', 1, 0, lo, zeroNd⟩ /\
         (∀ j, j < 24 -> r' (24 * wh + j) = if j = 3 then c else full (fun i => V (snWordAt a i)) j) /\ (∀ j, j / 24 ≠ wh -> r' j = r j)) := by
  intro m
  induction m with
  | zero => intro k hm hk; exfalso; rcases hk with h | h | h | h | h <;> omega
  | succ m ih =>
    intro k hm hk r kk hr hf
    have hk24 : k < 24 := by rcases hk with h | h | h | h | h <;> omega
    have hgo : SS.go V K ⟨.rd, false, kk, a, r, wh, k, lo, zeroNd⟩ = ⟨rdP ⟨.rd, false, kk, a, r, wh, k, lo, zeroNd⟩ (V (snWordAt a k)), K (snWordAt a k) != 0, K (snWordAt a k), a, rput r (24 * wh + k) (V (snWordAt a k)), rdWh wh k (V (snWordAt a k)), (bh k (V (snWordAt a k))).1, lo, zeroNd⟩ := rfl
    rcases hK (snWordAt a k) with h0 | h3
    · rw [h0, show ((0 : Int) != 0) = false from rfl] at hgo
      by_cases hb : (bh k (V (snWordAt a k))).2 = true
      · obtain ⟨e1, hns⟩ := bh_on hb hk
        have hk' : ordW (bh k (V (snWordAt a k))).1 := by
          rw [e1]
          unfold ordW
          rcases hk with h | h | h | h | h
          · subst h; simp
          · subst h; simp
          · subst h; simp
          · subst h; simp
          · rw [if_neg (by omega), if_neg (by omega)]
            have : k ≠ 23 := fun e => hns (.inl e)
            omega
        have hlt : k < (bh k (V (snWordAt a k))).1 := by
          rw [e1]
          split
          · omega
          · split <;> omega
        have hf' : fullTo (fun i => V (snWordAt a i)) (bh k (V (snWordAt a k))).1 := by
          intro i hi h9 ho
          by_cases hik : i < k
          · exact hf i hik h9 ho
          · rw [e1] at hi
            have : i = k := by
              rcases hk with h | h | h | h | h
              · subst h; simp at hi; omega
              · subst h; simp at hi; omega
              · subst h; simp at hi; omega
              · subst h; simp at hi; omega
              · rw [if_neg (by omega), if_neg (by omega)] at hi; omega
            subst this
            exact fun hz => hns (.inr ⟨by omega, ho, hz⟩)
        have hp : rdP ⟨.rd, false, kk, a, r, wh, k, lo, zeroNd⟩ (V (snWordAt a k)) = .rd := by unfold rdP; rw [if_pos hb]
        have hw : rdWh wh k (V (snWordAt a k)) = wh := by unfold rdWh; rw [if_pos hb]
        rw [hp, hw] at hgo
        obtain ⟨k', hk'e⟩ : ∃ k', k' = (bh k (V (snWordAt a k))).1 := ⟨_, rfl⟩
        rw [<- hk'e] at hk' hlt hf' hgo e1
        have hle : 24 - k' <= m := by omega
        obtain ⟨n, S', h1, h2, h3, h4⟩ := ih k' hle hk' (rput r (24 * wh + k) (V (snWordAt a k))) 0 (prt_put (W := fun i => V (snWordAt a i)) hk e1 hr) hf'
        refine ⟨1 + n, S', by omega, by omega, (Goes.one rfl).add (by rw [hgo]; exact h3), ?_⟩
        rcases h4 with h4 | ⟨r', e, ha, hb'⟩
        · exact .inl h4
        · refine .inr ⟨r', e, ha, fun j hj => ?_⟩
          rw [hb' j hj]
          unfold rput
          rw [if_neg (fun e => hj (by omega))]
      · obtain ⟨e1, hst⟩ := bh_off hb
        have hp : rdP ⟨.rd, false, kk, a, r, wh, k, lo, zeroNd⟩ (V (snWordAt a k)) = if wh = 0 then .rd else if rput r (24 * wh + k) (V (snWordAt a k)) 26 = 0 then .en else .lw := by unfold rdP; rw [if_neg hb]
        have hw : rdWh wh k (V (snWordAt a k)) = 1 := by unfold rdWh; rw [if_neg hb]
        rw [hp, hw, e1] at hgo
        refine ⟨1, _, by omega, by omega, Goes.one rfl, .inr ⟨_, hgo, full_put hk hst hf hr, fun j hj => ?_⟩⟩
        unfold rput
        rw [if_neg (fun e => hj (by omega))]
    · refine ⟨1, _, by omega, by omega, Goes.one rfl, .inl ⟨?_, k, hk24, h3⟩⟩
      rw [hgo]
      exact ⟨ne_zero_true h3, h3, rfl⟩
def fullC (W : Nat -> Int) (c : Int) (j : Nat) : Int := if j = 3 then c else full W j
theorem full2 (W : Nat -> Int) : full W 2 = W 2 := by
 unfold full
 rw [if_pos ⟨by omega, fun i hi h9 => by omega⟩]
theorem sn_alone {V K : Nat -> Int} (hK : ∀ A, K A = 0 \/ K A = 3) (a : Nat) : ∃ T S', 1 <= T /\ T <= 60 /\ Goes V K (SS.new a) T S' /\ S'.d = true /\
    ((S'.k = 3 /\ S'.n = zeroNd /\ Bad V K a) \/
     (S'.k = (ofR ((List.range 24).map (fullC (fun i => V (snWordAt a i)) (V (snWordAt a 3))))).2 /\ S'.n = (ofR ((List.range 24).map (fullC (fun i => V (snWordAt a i)) (V (snWordAt a 3))))).1 /\
      (V (snWordAt a 2) ≠ 0 -> S'.lo = V (snWordAt (V (snWordAt a 2)).toNat 1)) /\ K (snWordAt a 3) = 0)) := by
  have hg0 : SS.go V K (SS.new a) = ⟨.rd, K (snWordAt a 3) != 0, K (snWordAt a 3), a, rBeg (V (snWordAt a 3)), 0, 0, 0, zeroNd⟩ := rfl
  rcases hK (snWordAt a 3) with h0 | h3
  · obtain ⟨c, hc⟩ : ∃ c, c = V (snWordAt a 3) := ⟨_, rfl⟩
    rw [h0, <- hc, show ((0 : Int) != 0) = false from rfl] at hg0
    rw [<- hc]
    obtain ⟨n1, S1, hn1, hm1, G1, h1⟩ := rd_goes (V := V) (K := K) hK (a := a) (wh := 0) (.inl rfl) (c := c) (lo := 0) 24 0 (by omega) (.inl rfl) (rBeg c) 0 (fun j hj => by
      unfold rBeg prt
      rw [Nat.mul_zero, Nat.zero_add]
      split
      · rfl
      · rw [if_neg (by omega)]) (fun i hi => by omega)
    have G01 := (Goes.one (V := V) (K := K) (S := SS.new a) rfl).add (by rw [hg0]; exact G1)
    rcases h1 with ⟨⟨e1, e2, e3⟩, i, hi, hbad⟩ | ⟨r1, rfl, hr1, hr1'⟩
    · exact ⟨1 + n1, S1, by omega, by omega, G01, e1, .inl ⟨e2, e3, .inl ⟨i, hi, hbad⟩⟩⟩
    · rw [if_pos rfl] at G01
      simp only [Nat.mul_zero, Nat.zero_add] at hr1
      obtain ⟨n2, S2, hn2, hm2, G2, h2⟩ := rd_goes (V := V) (K := K) hK (a := a) (wh := 1) (.inr rfl) (c := 0) (lo := 0) 24 0 (by omega) (.inl rfl) r1 0 (fun j hj => by
        rw [hr1' _ (by omega)]
        unfold rBeg prt
        rw [if_neg (by omega)]
        split
        · rfl
        · rw [if_neg (by omega)]) (fun i hi => by omega)
      have G02 := G01.add G2
      rcases h2 with ⟨⟨e1, e2, e3⟩, i, hi, hbad⟩ | ⟨r2, rfl, hr2, hr2'⟩
      · exact ⟨1 + n1 + n2, S2, by omega, by omega, G02, e1, .inl ⟨e2, e3, .inl ⟨i, hi, hbad⟩⟩⟩
      · rw [if_neg (by omega)] at G02
        simp only [Nat.mul_one] at hr2
        have h26 : r2 26 = V (snWordAt a 2) := by
          have := hr2 2 (by omega)
          rw [if_neg (by omega), full2] at this
          exact this
        have EN : ∀ lo, (SS.go V K ⟨.en, false, 0, a, r2, 1, 0, lo, zeroNd⟩) = ⟨.en, true, (ofR ((List.range 24).map (fullC (fun i => V (snWordAt a i)) c))).2, a, rput r2 27 c, 1, 0, lo, (ofR ((List.range 24).map (fullC (fun i => V (snWordAt a i)) c))).1⟩ := by
          intro lo
          have hq : ∀ j, j < 24 -> rput r2 27 c (24 + j) = fullC (fun i => V (snWordAt a i)) c j := by
            intro j hj
            unfold rput fullC
            by_cases e : j = 3
            · subst e; rw [if_pos rfl, if_pos rfl]
            · rw [if_neg (by omega), if_neg e, hr2 j hj, if_neg e]
          have hp : ∀ j, j < 24 -> rput r2 27 c j = fullC (fun i => V (snWordAt a i)) c j := by
            intro j hj
            unfold rput
            rw [if_neg (by omega), hr2' j (by omega), hr1 j hj]
            rfl
          have hsm : sameR (rput r2 27 c) = true := by
            unfold sameR
            rw [List.all_eq_true]
            intro j hj
            have hj := List.mem_range.1 hj
            rw [hp j hj, hq j hj]
            exact beq_self_eq_true _
          have hl : rdL (rput r2 27 c) 24 = (List.range 24).map (fullC (fun i => V (snWordAt a i)) c) := by
            unfold rdL
            exact List.map_congr_left fun j hj => hq j (List.mem_range.1 hj)
          have hgo : (SS.go V K ⟨.en, false, 0, a, r2, 1, 0, lo, zeroNd⟩) = ⟨if K (snWordAt a 3) = 0 /\ sameR (rput r2 27 (V (snWordAt a 3))) = true then .en else .bg, enD false (rput r2 27 (V (snWordAt a 3))) (K (snWordAt a 3)) || enK (rput r2 27 (V (snWordAt a 3))) (K (snWordAt a 3)) != 0, enK (rput r2 27 (V (snWordAt a 3))) (K (snWordAt a 3)), a, rput r2 27 (V (snWordAt a 3)), 1, 0, lo, enN zeroNd (rput r2 27 (V (snWordAt a 3))) (K (snWordAt a 3))⟩ := rfl
          rw [hgo, h0, <- hc]
          unfold enD enK enN
          simp only [hsm, hl, and_self, if_true, Bool.true_or]
        by_cases hz : r2 26 = 0
        · rw [if_pos hz] at G02
          have G03 := G02.add (Goes.one rfl)
          rw [EN 0] at G03
          exact ⟨_, _, by omega, by omega, G03, rfl, .inr ⟨rfl, rfl, fun h => absurd (h26.symm.trans hz) h, h0⟩⟩
        · rw [if_neg hz] at G02
          have hlw : SS.go V K ⟨.lw, false, 0, a, r2, 1, 0, 0, zeroNd⟩ = ⟨.en, K (snWordAt (r2 26).toNat 1) != 0, K (snWordAt (r2 26).toNat 1), a, r2, 1, 0, V (snWordAt (r2 26).toNat 1), zeroNd⟩ := rfl
          have G03 := G02.add (Goes.one rfl)
          rw [hlw] at G03
          rcases hK (snWordAt (r2 26).toNat 1) with hk0 | hk3
          · rw [hk0, show ((0 : Int) != 0) = false from rfl] at G03
            have G04 := G03.add (Goes.one rfl)
            rw [EN _] at G04
            exact ⟨_, _, by omega, by omega, G04, rfl, .inr ⟨rfl, rfl, fun _ => by rw [h26], h0⟩⟩
          · exact ⟨_, _, by omega, by omega, G03, ne_zero_true hk3, .inl ⟨hk3, rfl, .inr ⟨by rw [<- h26]; exact hz, by rw [<- h26]; exact hk3⟩⟩⟩
  · exact ⟨1, _, by omega, by omega, Goes.one rfl, by rw [hg0]; exact ne_zero_true h3, .inl ⟨by rw [hg0]; exact h3, rfl, .inl ⟨3, by omega, h3⟩⟩⟩
def layL (base : Int) (n : Nd) : List (Int × Int) := (List.range 24).map fun (i : Nat) => (base + 8 * (i : Int), wAt (wi n) i)
theorem layL_len (base : Int) (n : Nd) : (layL base n).length = 24 := by simp [layL]
theorem layL_at (base : Int) (n : Nd) {i : Nat} (hi : i < 24) : (layL base n)[i]? = some (base + 8 * (i : Int), wAt (wi n) i) := by
 unfold layL
 rw [List.getElem?_map, List.getElem?_range hi]
 rfl
theorem layL_take (base : Int) (n : Nd) {k : Nat} (hk : k < 24) : (layL base n).take (k + 1) = (layL base n).take k ++ [(base + 8 * (k : Int), wAt (wi n) k)] := by
 have h := layL_at base n hk
 have hl : k < (layL base n).length := by rw [layL_len]; exact hk
 rw [List.getElem?_eq_getElem hl] at h
 rw [List.take_succ_eq_append_getElem hl, Option.some.inj h]
theorem infoPut11 : (Tryz.prog.info? 165).map (fun i => (i.zero, i.size, i.bytes)) = some (some (.agg #[.int .u64 0, .int .u64 0]), 2, 16) := by kernel_rfl
section
variable {nl n : Nat} {s : St}
theorem Lds.load (h : Lds nl n s) (hn : n <= 1000000) (A : Nat) : Lds nl (n + 1) (ldS s A) := by
 unfold ldS
 split
 ·exact ⟨h.nls, ⟨h.ok.las, h.ok.vie, h.ok.put, h.ok.few, h.ok.mks, by have := h.num; exact ⟨by show s.ld + 1 < _; omega, h.ok.num.2⟩⟩, h.pl, fun j => Nat.le_succ_of_le (h.few j), h.vl, by have := h.num; show s.ld + 1 <= _; omega, by have := h.num; show s.st <= _; omega, by have := h.num; show s.fl <= _; omega, by have := h.num; show s.fe <= _; omega⟩
 ·exact h.mono (Nat.le_succ n)
end
end Go.Proofs.YtkbklooocdfcfaaGreatDoor
namespace Go.Proofs.YtkbklooocdfcfaaGreatDoor
open Go.RowKit
attribute [local go_sem] Oper.semAt_some
end Go.Proofs.YtkbklooocdfcfaaGreatDoor
namespace Go.Proofs.YtkbklooocdfcfaaGreatDoor
open Go.RowKit
theorem len_iff (n : Nd) {i : Nat} (hi : i <= 8) : i <= n.len ↔ ∀ j, j < i -> n.ptr j ≠ 0 := by
 constructor
 ·exact fun h j hj => n.len_before (by omega)
 ·intro h
  by_cases hl : i <= n.len
  ·exact hl
  ·exact absurd (n.len_at (by omega)) (h _ (by omega))
theorem ofN_hd (l : Int) (x : List Int) : (ofN l x 8).hd = (l, wAt x 1, wAt x 2, wAt x 3, wAt x 4) := rfl
theorem ofN_key (l : Int) (x : List Int) {i : Nat} (hi : i < 8) : (ofN l x 8).key i = wAt x (8 + 2 * i) := by
 rcases lt8 hi with rfl | rfl | rfl | rfl | rfl | rfl | rfl | rfl <;> rfl
theorem ofN_ptr (l : Int) (x : List Int) {i : Nat} (hi : i < 8) : (ofN l x 8).ptr i = wAt x (9 + 2 * i) := by
 rcases lt8 hi with rfl | rfl | rfl | rfl | rfl | rfl | rfl | rfl <;> rfl
theorem wAt_map (f : Nat -> Int) {i : Nat} (hi : i < 24) : wAt ((List.range 24).map f) i = f i := by
 unfold wAt
 rw [List.getD_eq_getElem?_getD, List.getElem?_map, List.getElem?_range hi]
 rfl
theorem zeroNd_tr (a b : Nat) : zeroNd.tr a b = zeroNd := by
 refine Nd.ext_of rfl (fun i hi => ?_) (fun i hi => ?_)
 ·rw [Nd.tr_key _ _ _ hi]
  split
  ·rfl
  ·rcases lt8 hi with rfl | rfl | rfl | rfl | rfl | rfl | rfl | rfl <;> rfl
 ·rw [Nd.tr_ptr _ _ _ hi]
  split
  ·rfl
  ·rcases lt8 hi with rfl | rfl | rfl | rfl | rfl | rfl | rfl | rfl <;> rfl
theorem full_low {W : Nat -> Int} {j : Nat} (h3 : j ≠ 3) (h5 : j < 5) : full W j = W j := by
 unfold full
 rw [if_pos ⟨⟨h3, .inl h5⟩, fun i hi h9 => by omega⟩]
theorem ofR_full {x : List Int} {W : Nat -> Int} (hW : ∀ i, i < 24 -> W i = wAt x i) : ofR ((List.range 24).map (fullC W (W 3))) = ((ofR x).1.tr ((ofR x).1.len + 1) (ofR x).1.len, (ofR x).2) := by
 have h0 : wAt ((List.range 24).map (fullC W (W 3))) 0 = wAt x 0 := by
  rw [wAt_map _ (by omega), <- hW 0 (by omega)]
  unfold fullC
  rw [if_neg (by omega), full_low (by omega) (by omega)]
 unfold ofR
 rw [h0]
 by_cases hl : 5495893775785918464 <= wAt x 0 /\ wAt x 0 <= 5495893775785918479
 ·rw [if_pos hl, if_pos hl]
  dsimp only
  refine Prod.ext ?_ rfl
  dsimp only
  obtain ⟨l, hl'⟩ : ∃ l, l = wAt x 0 - 5495893775785918464 := ⟨_, rfl⟩
  rw [<- hl']
  have hh := ofN_hd l x
  have hk := fun i (hi : i < 8) => ofN_key l x hi
  have hp := fun i (hi : i < 8) => ofN_ptr l x hi
  have hh' := ofN_hd l ((List.range 24).map (fullC W (W 3)))
  have hk' := fun i (hi : i < 8) => ofN_key l ((List.range 24).map (fullC W (W 3))) hi
  have hp' := fun i (hi : i < 8) => ofN_ptr l ((List.range 24).map (fullC W (W 3))) hi
  generalize ofN l x 8 = N at hh hk hp ⊢
  generalize ofN l ((List.range 24).map (fullC W (W 3))) 8 = M at hh' hk' hp' ⊢
  have hf : ∀ i, i <= 8 -> ∀ b, b = 8 + 2 * i \/ b = 9 + 2 * i -> (fullTo W b ↔ i <= N.len) := by
   intro i hi b hb
   rw [len_iff _ hi]
   constructor
   ·intro h j hj
    rw [hp _ (by omega), <- hW _ (by omega)]
    exact h (9 + 2 * j) (by omega) (by omega) (by omega)
   ·intro h j hj h9 ho
    have := h ((j - 9) / 2) (by omega)
    rw [hp _ (by omega), <- hW _ (by omega), show 9 + 2 * ((j - 9) / 2) = j by omega] at this
    exact this
  refine Nd.ext_of ?_ (fun i hi => ?_) (fun i hi => ?_)
  ·rw [show (N.tr (N.len + 1) N.len).hd = N.hd from rfl, hh, hh', wAt_map _ (by omega), wAt_map _ (by omega), wAt_map _ (by omega), wAt_map _ (by omega), <- hW 1 (by omega), <- hW 2 (by omega), <- hW 3 (by omega), <- hW 4 (by omega)]
   unfold fullC
   rw [if_neg (by omega), if_neg (by omega), if_pos rfl, if_neg (by omega), full_low (by omega) (by omega), full_low (by omega) (by omega), full_low (by omega) (by omega)]
  ·rw [hk' _ hi, Nd.tr_key _ _ _ hi, hk _ hi, wAt_map _ (by omega), <- hW _ (by omega)]
   unfold fullC full
   rw [if_neg (by omega)]
   have := hf i (by omega) (8 + 2 * i) (.inl rfl)
   by_cases h : i <= N.len
   ·rw [if_pos ⟨by omega, this.2 h⟩, if_pos (by omega)]
   ·rw [if_neg (fun hh => h (this.1 hh.2)), if_neg (by omega)]
  ·rw [hp' _ hi, Nd.tr_ptr _ _ _ hi, hp _ hi, wAt_map _ (by omega), <- hW _ (by omega)]
   unfold fullC full
   rw [if_neg (by omega)]
   have := hf i (by omega) (9 + 2 * i) (.inr rfl)
   by_cases h : i <= N.len
   ·rw [if_pos ⟨by omega, this.2 h⟩]
    by_cases h' : i < N.len
    ·rw [if_pos h']
    ·rw [if_neg h', hW _ (by omega), <- hp i hi, show i = N.len by omega]
     exact N.len_at (by omega)
   ·rw [if_neg (fun hh => h (this.1 hh.2)), if_neg (by omega)]
 ·rw [if_neg hl, if_neg hl]
  dsimp only
  rw [zeroNd_tr]
structure SnAt (W0 wr : World) (y : Lay) (g : Nat) (s s' : St) (n : Nat) (S : SS) : Prop where
 ex : ∃ y', MemAt wr y' s' /\ RT W0 wr y y' g
 sn : SnapAt wr g (some ⟨y.g, 0, none⟩) S
 nls : s'.nl = s.nl
 vw : s'.view = s.view
 lds : Lds s.nl n s'
 sep : ¬ y.fp g
 lt : g < W0.heap.size
section
variable {W0 wr : World} {y : Lay} {g n : Nat} {s s' : St} {S : SS}
theorem SnAt.below (h : SnAt W0 wr y g s s' n S) {W : World} (hb : Below wr.heap.size wr W) : SnAt W0 W y g s s' n S := by
 obtain ⟨⟨y', hm, ht⟩, ⟨cs, hr, hs⟩, h3, h4, h5, h6, h7⟩ := h
 exact ⟨⟨y', hm.below hb, ht.trans (RT.of_below y' g hb)⟩, ⟨cs, hr.below hb hr.lt, hs⟩, h3, h4, h5, h6, h7⟩
theorem SnAt.refusal (h : SnAt W0 wr y g s s' n S) (h0 : 0 < s.nl) : ∀ W, Below wr.heap.size wr W -> Calls Tryz.prog 202 #[.pointer (some ⟨g, 0, none⟩)] W fun e w' => e = .returned (.int .i64 (if S.d = true then S.k else 7)) /\ W = w' := by
 intro W hb
 obtain ⟨⟨y', hm, ht⟩, ⟨cs, hr, hs⟩, h3, h4, h5, h6, h7⟩ := h.below hb
 have hz := size_yes hm
 rw [ht.g] at hz
 have := snRefusal_any hr hs.c0 hs.c1 hs.c2 hs.c3 hz
 have e : refK false S.d S.k ((64 * s'.nl : Nat) : Int) = if S.d = true then S.k else 7 := by
  unfold refK
  rw [if_neg (by simp)]
  split
  ·rfl
  ·rw [if_neg (by rw [h3]; omega)]
 rw [e] at this
 exact this
theorem SnAt.node (h : SnAt W0 wr y g s s' n S) (h0 : 0 < s.nl) : ∀ W, Below wr.heap.size wr W -> Calls Tryz.prog 192 #[.pointer (some ⟨g, 0, none⟩)] W fun e w' => e = .returned (.tuple #[S.n.V, .int .i64 (if S.d = true then S.k else 7)]) /\ Below W.heap.size W w' := by
 intro W hb
 have h' := h.below hb
 have hrf := h'.refusal h0
 obtain ⟨_, ⟨cs, hr, hs⟩, _, _, _, _, _⟩ := h'
 exact snNode_any hr hs hrf
theorem SnAt.high (h : SnAt W0 wr y g s s' n S) (h0 : 0 < s.nl) : ∀ W, Below wr.heap.size wr W -> Calls Tryz.prog 193 #[.pointer (some ⟨g, 0, none⟩)] W fun e w' => e = .returned (.tuple #[.int .u64 (hiV (if S.d = true then S.k else 7) S.lo S.n), .bool (hiB (if S.d = true then S.k else 7) S.n)]) /\ Below W.heap.size W w' := by
 intro W hb
 have h' := h.below hb
 obtain ⟨_, ⟨cs, hr, hs⟩, _, _, _, _, _⟩ := h'
 exact snHigh_of ((h.below hb).node h0 W (Below.refl _ _)) (fun _ => ⟨g, rfl, (hr.cell 55).trans hs.cl⟩)
theorem SnAt.nodeD (h : SnAt W0 wr y g s s' n S) (h0 : 0 < s.nl) {k : Int} {N : Nd} (hd : S.d = true) (hk : S.k = k) (hN : S.n = N) : ∀ W, Below wr.heap.size wr W -> Calls Tryz.prog 192 #[.pointer (some ⟨g, 0, none⟩)] W fun e w' => e = .returned (.tuple #[N.V, .int .i64 k]) /\ Below W.heap.size W w' := by
 intro W hb
 have := h.node h0 W hb
 rw [if_pos hd, hk, hN] at this
 exact this
theorem SnAt.high0 (h : SnAt W0 wr y g s s' n S) (h0 : 0 < s.nl) {k : Int} {N : Nd} (hd : S.d = true) (hk : S.k = k) (hN : S.n = N) (hx : k ≠ 0 \/ N.nx = 0) : ∀ W, Below wr.heap.size wr W -> Calls Tryz.prog 193 #[.pointer (some ⟨g, 0, none⟩)] W fun e w' => e = .returned (.tuple #[.int .u64 0, .bool false]) /\ Below W.heap.size W w' := by
 intro W hb
 have := h.high h0 W hb
 have hn : ¬ (k = 0 /\ N.nx ≠ 0) := fun ⟨a, b⟩ => hx.elim (fun h => h a) (fun h => b h)
 rw [if_pos hd, hk, hN] at this
 unfold hiV hiB at this
 rw [if_neg hn, if_neg hn] at this
 exact this
theorem ldV_in (ok : s.Ok) (A : Nat) : 0 <= ldV s A /\ ldV s A < 18446744073709551616 := by
 unfold ldV
 split
 ·rw [List.getD_eq_getElem?_getD]
  cases e : s.view[A / 8]? with
  | none => exact ⟨by simp, by simp⟩
  | some x =>
   have := ok.vie x (List.mem_of_getElem? e)
   simp only [Option.getD_some]
   omega
 ·omega
theorem ldK_is (s : St) (A : Nat) : ldK s A = 0 \/ ldK s A = 3 := by
 unfold ldK
 split <;> simp
end
theorem it_good {V K : Nat -> Int} (hV : ∀ A, 0 <= V A /\ V A < 18446744073709551616) {S : SS} (G : S.Good) : ∀ t, (∀ u, u <= t -> (SS.it V K u S).d = false) -> (SS.it V K t S).Good
 | 0, _ => G
 | t + 1, h => by
  have := it_good hV G t (fun u hu => h u (by omega))
  exact SS.next_good this (hV _) (h (t + 1) (Nat.le_refl _))
theorem next_k {S : SS} {v kk : Int} (h : (S.next v kk).d = false) : (S.next v kk).k = 0 := by
 obtain ⟨ph, d, k, a, r, wh, wd, lo, n⟩ := S
 cases ph with
 | bg => simpa [SS.next] using h
 | rd => simpa [SS.next] using h
 | lw => simpa [SS.next] using h
 | en =>
  simp only [SS.next, Bool.or_eq_false_iff] at h ⊢
  simpa using h.2
end Go.Proofs.YtkbklooocdfcfaaGreatDoor
namespace Go.Proofs.YtkbklooocdfcfaaGreatDoor
open Go.RowKit Go.Shelf
attribute [local go_sem] Oper.semAt_some
def RflPost (w : World) (y : Lay) (s' : St) (rg : Nat) (cs : Array Value) (w' : World) : Prop := ∃ y', MemAt w' y' s' /\ Row w' rg 207 cs /\ RT w w' y y' rg
theorem rflush_any {w : World} {y : Lay} {s : St} (h : MemAt w y s) (ok : s.Ok) {rg c line : Nat} {V : Value} {d : Bool} {k : Int}
  (hr : Row w rg 207 (rcells (some ⟨y.g, 0, none⟩) c V line (nextV 143 rg) d k)) (sep : ¬ y.fp rg) (hc : c <= 64) (h8 : line % 8 = 0) (h64 : line < 64 * s.nl) :
  Calls Tryz.prog 143 #[.pointer (some ⟨rg, 0, none⟩)] w fun e w' => e = .returned (.int .i64 0) /\ RflPost w y (s.flush c line) rg (rcells (some ⟨y.g, 0, none⟩) c V line (nextV 165 rg) d k) w' := by
 have mixed : Tryz.prog.follows .mixedOrders = true := by kernel_rfl
 have c4 := hr.cell 4
 have f4 := hr.free 4
 simp only [rcells, List.getElem?_toArray, List.getElem?_cons_succ, List.getElem?_cons_zero] at c4
 unfold nextV at c4
 obtain ⟨W1, hW1⟩ : ∃ W1, W1 = w.setCell ⟨rg, 4, none⟩ (.func (.func 165) #[.pointer (some ⟨rg, 0, none⟩)] #[]) := ⟨_, rfl⟩
 have hm1 : MemAt W1 y s := by rw [hW1]; exact h.rset sep 4 _
 have hr1 : Row W1 rg 207 (rcells (some ⟨y.g, 0, none⟩) c V line (nextV 165 rg) d k) := by rw [hW1]; exact hr.set 4 _
 have T1 : RT w W1 y y rg := by rw [hW1]; exact RT.set y rg 4 _
 have k0 := hr1.cell 0
 have k1 := hr1.cell 1
 have k3 := hr1.cell 3
 simp only [rcells, List.getElem?_toArray, List.getElem?_cons_succ, List.getElem?_cons_zero] at k0 k1 k3
 have ca := fun p : LowBy W1 => p.cell k0
 have cb := fun p : LowBy W1 => p.cell k1
 have cc := fun p : LowBy W1 => p.cell k3
 have HS := Lib.hid fun (p : LowBy W1) => flush_ok (hm1.below p.low) ok c line hc h8 h64
 have HE := Lib.hid (show ∀ (p : LowBy W1) (w' : World), (∃ y', MemAt w' y' (s.flush c line) /\ Turn p.W w' y y') -> RflPost w y (s.flush c line) rg (rcells (some ⟨y.g, 0, none⟩) c V line (nextV 165 rg) d k) w' from fun p w' ⟨y', hm', ht'⟩ =>
  ⟨y', hm', ht'.but.row (hr1.below p.low hr1.lt) sep, (T1.trans (RT.of_below y rg p.low)).trans (RT.of_turn rg ht')⟩)
 clear h hr hm1 hr1 T1 k0 k1 k3 ok hc h8 h64
 go_enter Tryz.func143, Tryz.ntmps143
 go_wp2_with fail
 rw [<- hW1]
 refine wp_region_low_tail 12 (by assumption) (by kernel_rfl) ?_
 simp only [List.take_succ_cons, List.take_zero, List.drop_succ_cons, List.drop_zero]
 repeat (go_big_quiet_step (fail))
 refine wpQuiet_nil ?_
 intro _ hw'
 obtain ⟨p, hw''⟩ := hw'
 subst hw''
 clear ca cb cc hW1 c4 f4
 go_wp2_with fail
 refine (HS.out p).mono ?_
 rintro e w2 ⟨rfl, hpost⟩
 have HF := Lib.hid (HE.out p w2 hpost)
 clear HE HS hpost
 go_wp2
 go_ret
 exact ⟨rfl, HF.out⟩
theorem rfence_any {w : World} {y : Lay} {s : St} (h : MemAt w y s) (ok : s.Ok) {rg c n cap : Nat} {line : Int} {A : Option Addr} {d : Bool} {k : Int}
  (hr : Row w rg 207 (rcells (some ⟨y.g, 0, none⟩) c (.slice A n cap) line (nextV 165 rg) d k)) (sep : ¬ y.fp rg) (hc : c <= 64) (hfe : s.fe + 1 < 9223372036854775808) (D : Bool) (hD : D = ((n : Int) == 0)) :
  Calls Tryz.prog 165 #[.pointer (some ⟨rg, 0, none⟩)] w fun e w' => e = .returned (.int .i64 0) /\ RflPost w y (s.fence c) rg (rcells (some ⟨y.g, 0, none⟩) c (.slice A n cap) line (nextV 117 rg) D k) w' := by
 have mixed : Tryz.prog.follows .mixedOrders = true := by kernel_rfl
 have c2 := hr.cell 2
 have c4 := hr.cell 4
 have c5 := hr.cell 5
 have f4 := hr.free 4
 have f5 := hr.free 5
 simp only [rcells, List.getElem?_toArray, List.getElem?_cons_succ, List.getElem?_cons_zero] at c2 c4 c5
 unfold nextV at c4
 obtain ⟨W1, hW1⟩ : ∃ W1, W1 = (w.setCell ⟨rg, 4, none⟩ (.func (.func 117) #[.pointer (some ⟨rg, 0, none⟩)] #[])).setCell ⟨rg, 5, none⟩ (.bool D) := ⟨_, rfl⟩
 have hm1 : MemAt W1 y s := by rw [hW1]; exact (h.rset sep 4 _).rset sep 5 _
 have hr1 : Row W1 rg 207 (rcells (some ⟨y.g, 0, none⟩) c (.slice A n cap) line (nextV 117 rg) D k) := by rw [hW1]; exact (hr.set 4 _).set 5 _
 have T1 : RT w W1 y y rg := by rw [hW1]; exact (RT.set y rg 4 _).trans (RT.set y rg 5 _)
 have k0 := hr1.cell 0
 have k1 := hr1.cell 1
 simp only [rcells, List.getElem?_toArray, List.getElem?_cons_succ, List.getElem?_cons_zero] at k0 k1
 have ca := fun p : LowBy W1 => p.cell k0
 have cb := fun p : LowBy W1 => p.cell k1
 have HS := Lib.hid fun (p : LowBy W1) => fence_ok (hm1.below p.low) ok c hc hfe
 have HE := Lib.hid (show ∀ (p : LowBy W1) (w' : World), (∃ y', MemAt w' y' (s.fence c) /\ Turn p.W w' y y') -> RflPost w y (s.fence c) rg (rcells (some ⟨y.g, 0, none⟩) c (.slice A n cap) line (nextV 117 rg) D k) w' from fun p w' ⟨y', hm', ht'⟩ =>
  ⟨y', hm', ht'.but.row (hr1.below p.low hr1.lt) sep, (T1.trans (RT.of_below y rg p.low)).trans (RT.of_turn rg ht')⟩)
 clear h hr hm1 hr1 T1 k0 k1 ok hc hfe
 have hD2 := hD.symm
 clear hD
 go_enter Tryz.func165, Tryz.ntmps165
 go_wp2_with fail
 rw [<- hW1]
 refine wp_region_low_tail 8 (by assumption) (by kernel_rfl) ?_
 simp only [List.take_succ_cons, List.take_zero, List.drop_succ_cons, List.drop_zero]
 repeat (go_big_quiet_step (fail))
 refine wpQuiet_nil ?_
 intro _ hw'
 obtain ⟨p, hw''⟩ := hw'
 subst hw''
 clear ca cb hW1 c4 f4 c2 c5 f5
 go_wp2_with fail
 refine (HS.out p).mono ?_
 rintro e w2 ⟨rfl, hpost⟩
 have HF := Lib.hid (HE.out p w2 hpost)
 clear HE HS hpost
 go_wp2
 go_ret
 exact ⟨rfl, HF.out⟩
theorem rend_any {w : World} {rg : Nat} {c line : Int} {V : Value} {d : Bool} {k : Int} {p : Option Addr}
  (hr : Row w rg 207 (rcells p c V line (nextV 118 rg) d k)) :
  Calls Tryz.prog 118 #[.pointer (some ⟨rg, 0, none⟩)] w fun e w' => e = .returned (.int .i64 0) /\ w.setCell ⟨rg, 5, none⟩ (.bool true) = w' := by
 have c5 := hr.cell 5
 have f5 := hr.free 5
 simp only [rcells, List.getElem?_toArray, List.getElem?_cons_succ, List.getElem?_cons_zero] at c5
 clear hr
 go_enter Tryz.func118, Tryz.ntmps118
 go_wp2
 go_ret
 exact ⟨rfl, rfl⟩
end Go.Proofs.YtkbklooocdfcfaaGreatDoor
namespace Go.Proofs.YtkbklooocdfcfaaGreatDoor
open Go.RowKit Go.Shelf
def RnRS.next (r : RnRS) : RnRS := match r.ph with
 | .st => match r.left with
  | [] => r
  | (a, _) :: t => { r with left := t, line := a / 64 * 64, ph := if ends a t then .fl else .st }
 | .fl => { r with ph := .fe }
 | .fe => { r with ph := .st, done := r.left.isEmpty }
 | .en => { r with done := true }
def RnRS.mem (r : RnRS) (s : St) : St := match r.ph with
 | .st => match r.left with
  | [] => s
  | (a, v) :: _ => s.store a v
 | .fl => s.flush r.c.toNat r.line
 | .fe => s.fence r.c.toNat
 | .en => s
structure RnRS.Good (r : RnRS) (nl : Nat) : Prop where
 c0 : 0 <= r.c
 c1 : r.c <= 64
 dn : r.done = false
 cd : r.code = 0
 lf : r.ph = .st -> r.left ≠ []
 pu : ∀ p ∈ r.left, p.1 % 8 = 0 /\ p.1 < 64 * nl /\ p.2 < 18446744073709551616
 l8 : r.line % 8 = 0
 l64 : r.line < 64 * nl
structure Small (s : St) (i : Nat) : Prop where
 st : s.st <= i
 fl : s.fl <= i
 fe : s.fe <= i
 pe : ∀ l ∈ s.pend, l.length <= i
structure RunOn (w : World) (y : Lay) (rg : Nat) (r : RnRS) (V : Value) : Prop where
 run : RunAt w rg (some ⟨y.g, 0, none⟩) r V
 sep : ¬ y.fp rg
 vsep : ∀ b, V.ownBlock = some b -> r.left ≠ [] -> ¬ y.fp b /\ b ≠ rg
theorem RunOn.lt {w : World} {y : Lay} {rg : Nat} {r : RnRS} {V : Value} (h : RunOn w y rg r V) : rg < w.heap.size := h.run.row.lt
def StepPost (w : World) (y : Lay) (rg : Nat) (r' : RnRS) (s' : St) (w' : World) : Prop := ∃ y' V', MemAt w' y' s' /\ RunOn w' y' rg r' V' /\ RT w w' y y' rg
theorem rcells_set (p : Option Addr) (c line : Int) (V F : Value) (d : Bool) (k : Int) (D : Bool) (K : Int) : ((rcells p c V line F d k).setIfInBounds 6 (.int .i64 K)).setIfInBounds 5 (.bool D) = rcells p c V line F D K := rfl
theorem Ahead.keep {w w' : World} {V : Value} {t : List (Nat × Nat)} {y y' : Lay} {rg : Nat} (hA : Ahead w V t) (T : RT w w' y y' rg) (hAs : ∀ b, V.ownBlock = some b -> t ≠ [] -> ¬ y.fp b /\ b ≠ rg) : Ahead w' V t := by
 by_cases h0 : t = []
 ·rcases hA with h1 | ⟨h1, _⟩
  ·exact .inl h1
  ·exact absurd h0 h1
 ·exact hA.same fun b hb' => T.but.block b (hA.lt h0 hb') (by
   rintro (h1 | h1)
   ·exact (hAs b hb' h0).1 h1
   ·exact (hAs b hb' h0).2 h1)
theorem RT.nfp {w w' : World} {y y' : Lay} {rg k : Nat} (T : RT w w' y y' rg) (hk : k < w.heap.size) (h : ¬ y.fp k) : ¬ y'.fp k := fun hf => by
 rcases T.fp k hf with h1 | h1
 ·exact h h1
 ·omega
theorem step_fin {w w1 w' : World} {y y' : Lay} {s' : St} {rg : Nat} {V : Value} {r' : RnRS} {D : Bool}
  (hm : MemAt w1 y' s') (hrow : Row w1 rg 207 (rcells (some ⟨y.g, 0, none⟩) r'.c V r'.line (nextV r'.ph.no rg) D 0)) (hA : Ahead w1 V r'.left) (hAs : ∀ b, V.ownBlock = some b -> r'.left ≠ [] -> ¬ y'.fp b /\ b ≠ rg) (T : RT w w1 y y' rg) (sep : ¬ y.fp rg) (hlt : rg < w.heap.size)
  (hD : r'.done = D) (hk : r'.code = 0) (hb : Below (rstepW w1 rg D 0).heap.size (rstepW w1 rg D 0) w') : StepPost w y rg r' s' w' := by
 have sep' := T.nfp hlt sep
 have hm2 : MemAt (rstepW w1 rg D 0) y' s' := (hm.rset sep' 6 _).rset sep' 5 _
 have T1 : RT w1 (rstepW w1 rg D 0) y' y' rg := (RT.set y' rg 6 _).trans (RT.set y' rg 5 _)
 have hr2 : Row (rstepW w1 rg D 0) rg 207 (rcells (some ⟨y.g, 0, none⟩) r'.c V r'.line (nextV r'.ph.no rg) D 0) := by
  have := (hrow.set 6 (.int .i64 0)).set 5 (.bool D)
  rw [rcells_set] at this
  exact this
 have hA2 := hA.keep T1 hAs
 refine ⟨y', V, hm2.below hb, ⟨⟨?_, hA2.below hb⟩, sep', hAs⟩, (T.trans T1).trans (RT.of_below y' rg hb)⟩
 have := hr2.below hb hr2.lt
 rw [Ph.fn_no, hD, hk, T.g]
 exact this
theorem rstep_any {w : World} {y : Lay} {s : St} {rg : Nat} {r : RnRS} {V : Value} {i : Nat} (h : MemAt w y s) (ok : s.Ok) (hs : Small s i) (hi : i <= 1000) (hr : RunOn w y rg r V) (g : r.Good s.nl) :
  Calls Tryz.prog 79 #[.pointer (some ⟨rg, 0, none⟩)] w fun e w' => e = .returned (.tuple #[.bool r.next.done, .int .i64 0]) /\ StepPost w y rg r.next (r.mem s) w' := by
 have hpos := h.pos
 have hrow := hr.run.cells
 have hcn : r.c = ((r.c.toNat : Nat) : Int) := by have := g.c0; omega
 have hc64 : r.c.toNat <= 64 := by have := g.c1; omega
 obtain ⟨c, left, line, ph, done, code⟩ := r
 obtain ⟨gc0, gc1, gdn, gcd, glf, gpu, gl8, gl64⟩ := g
 dsimp only at *
 subst gdn gcd
 cases ph with
 | st =>
  cases left with
  | nil => exact absurd rfl (glf rfl)
  | cons av t =>
   obtain ⟨a, v⟩ := av
   obtain ⟨h8, h64, hv⟩ := gpu (a, v) List.mem_cons_self
   have H := rstore_any h hrow hr.run.ah hr.sep (fun b hb => hr.vsep b hb (by simp)) h8 h64 hv (by have := hs.st; omega) (fun l hl => by have := hs.pe l hl; omega) (fun p hp => by have := (gpu p (List.mem_cons_of_mem _ hp)).2.1; have := h.most; omega)
   refine (rstep_of (k := 0) (D := false) (P := fun w1 => RstPost w y (s.store a v) rg (some ⟨y.g, 0, none⟩) c ((a / 64 * 64 : Nat) : Int) (stNext a t) false 0 t V.ownBlock w1) (d := false) (fun w v => Tryz.call117 _ _) hrow gc0 gc1 (by omega) (fun h => rfl) rfl (size_yes h) (H.mono fun e w' ⟨he, hp⟩ => ⟨he, ?_, hp⟩)).mono ?_
   ·obtain ⟨y', V', _, h2, _⟩ := hp
    exact ⟨_, _, _, h2⟩
   ·rintro e w' ⟨he, w1, ⟨y', V', hm', hr', hA', ho', T'⟩, hb⟩
    refine ⟨he, step_fin (r' := RnRS.next ⟨c, (a, v) :: t, line, .st, false, 0⟩) (D := false) hm' ?_ hA' ?_ T' hr.sep hr.lt rfl rfl hb⟩
    ·have : stNext a t = (RnRS.next ⟨c, (a, v) :: t, line, .st, false, 0⟩).ph.no := by
      unfold stNext RnRS.next
      dsimp only
      cases ends a t <;> rfl
     rw [<- this]
     exact hr'
    ·intro b hb' h0
     have := ho' h0
     rw [this] at hb'
     obtain ⟨v1, v2⟩ := hr.vsep b hb' (by simp)
     exact ⟨T'.nfp (hr.run.ah.lt (by simp) hb') v1, v2⟩
 | fl =>
  have H := rflush_any h ok (c := c.toNat) (by rw [<- hcn]; exact hrow) hr.sep hc64 gl8 gl64
  rw [<- hcn] at H
  refine (rstep_of (k := 0) (D := false) (P := fun w1 => RflPost w y (s.flush c.toNat line) rg (rcells (some ⟨y.g, 0, none⟩) c V line (nextV 165 rg) false 0) w1) (d := false) (fun w v => Tryz.call143 _ _) hrow gc0 gc1 (by omega) (fun h => rfl) rfl (size_yes h) (H.mono fun e w' ⟨he, hp⟩ => ⟨he, ?_, hp⟩)).mono ?_
  ·obtain ⟨y', _, h2, _⟩ := hp
   exact ⟨_, _, _, h2⟩
  ·rintro e w' ⟨he, w1, ⟨y', hm', hr', T'⟩, hb⟩
   exact ⟨he, step_fin (r' := RnRS.next ⟨c, left, line, .fl, false, 0⟩) (D := false) hm' hr' (hr.run.ah.keep T' hr.vsep) (fun b hb' h0 => ⟨T'.nfp (hr.run.ah.lt h0 hb') (hr.vsep b hb' h0).1, (hr.vsep b hb' h0).2⟩) T' hr.sep hr.lt rfl rfl hb⟩
 | fe =>
  obtain ⟨A, cap, rfl, _, _⟩ := hr.run.ah.len
  have hD : left.isEmpty = ((left.length : Int) == 0) := by
   cases left with
   | nil => rfl
   | cons a t =>
    have : ((((a :: t).length : Nat) : Int) == 0) = false := by simp only [List.length_cons]; rw [beq_eq_false_iff_ne]; omega
    rw [this]
    rfl
  have H := rfence_any h ok (c := c.toNat) (by rw [<- hcn]; exact hrow) hr.sep hc64 (by have := hs.fe; omega) left.isEmpty hD
  rw [<- hcn] at H
  refine (rstep_of (k := 0) (D := left.isEmpty) (P := fun w1 => RflPost w y (s.fence c.toNat) rg (rcells (some ⟨y.g, 0, none⟩) c (.slice A left.length cap) line (nextV 117 rg) left.isEmpty 0) w1) (d := left.isEmpty) (fun w v => Tryz.call165 _ _) hrow gc0 gc1 (by omega) (fun h => rfl) (by simp) (size_yes h) (H.mono fun e w' ⟨he, hp⟩ => ⟨he, ?_, hp⟩)).mono ?_
  ·obtain ⟨y', _, h2, _⟩ := hp
   exact ⟨_, _, _, h2⟩
  ·rintro e w' ⟨he, w1, ⟨y', hm', hr', T'⟩, hb⟩
   exact ⟨he, step_fin (r' := RnRS.next ⟨c, left, line, .fe, false, 0⟩) (D := left.isEmpty) hm' hr' (hr.run.ah.keep T' hr.vsep) (fun b hb' h0 => ⟨T'.nfp (hr.run.ah.lt h0 hb') (hr.vsep b hb' h0).1, (hr.vsep b hb' h0).2⟩) T' hr.sep hr.lt rfl rfl hb⟩
 | en =>
  have H := rend_any hrow
  refine (rstep_of (k := 0) (D := true) (P := fun w1 => w.setCell ⟨rg, 5, none⟩ (.bool true) = w1) (d := true) (fun w v => Tryz.call118 _ _) hrow gc0 gc1 (by omega) (fun h => rfl) rfl (size_yes h) (H.mono fun e w' ⟨he, hp⟩ => ⟨he, ?_, hp⟩)).mono ?_
  ·subst hp
   exact ⟨_, _, _, hrow.set 5 _⟩
  ·rintro e w' ⟨he, w1, rfl, hb⟩
   exact ⟨he, step_fin (r' := RnRS.next ⟨c, left, line, .en, false, 0⟩) (D := true) (h.rset hr.sep 5 _) (hrow.set 5 _) (hr.run.ah.keep (RT.set y rg 5 _) hr.vsep) hr.vsep (RT.set y rg 5 _) hr.sep hr.lt rfl rfl hb⟩
theorem RnRS.Good.line_lt {r : RnRS} {s : St} (g : r.Good s.nl) (hp : s.pend.length = s.nl) {a v : Nat} {t : List (Nat × Nat)} (hl : r.left = (a, v) :: t) : a / 64 < s.pend.length := by
 have := (g.pu (a, v) (by rw [hl]; exact List.mem_cons_self)).2.1
 rw [hp]
 omega
theorem mem_Ok {r : RnRS} {s : St} {i : Nat} (ok : s.Ok) (hs : Small s i) (hi : i <= 1000) (hp : s.pend.length = s.nl) (g : r.Good s.nl) : (r.mem s).Ok := by
 unfold RnRS.mem
 split
 ·split
  ·exact ok
  ·rename_i a v t hl
   have h1 := g.pu (a, v) (by rw [hl]; exact List.mem_cons_self)
   have h2 := g.line_lt hp hl
   refine store_Ok ok h1.1 h2 h1.2.2 (by have := hs.st; omega) ?_
   rw [getD_at h2]
   have := hs.pe _ (List.getElem_mem h2)
   omega
 ·exact flush_Ok ok (by have := hs.fl; omega)
 ·exact fence_Ok ok (by have := hs.fe; omega)
 ·exact ok
theorem mem_nl (r : RnRS) (s : St) : (r.mem s).nl = s.nl := by
 unfold RnRS.mem
 split
 ·split <;> rfl
 ·rfl
 ·rfl
 ·rfl
theorem Small.mono {s : St} {i j : Nat} (h : Small s i) (hij : i <= j) : Small s j := ⟨Nat.le_trans h.st hij, Nat.le_trans h.fl hij, Nat.le_trans h.fe hij, fun l hl => Nat.le_trans (h.pe l hl) hij⟩
theorem mem_Small {r : RnRS} {s : St} {i : Nat} (hs : Small s i) : Small (r.mem s) (i + 1) := by
 unfold RnRS.mem
 split
 ·split
  ·exact hs.mono (by omega)
  ·rename_i a v t hl
   refine ⟨Nat.succ_le_succ hs.st, Nat.le_succ_of_le hs.fl, Nat.le_succ_of_le hs.fe, fun l h => ?_⟩
   have h' : l ∈ s.pend.set (a / 64) (s.pend.getD (a / 64) [] ++ [(a, v)]) := h
   rcases List.mem_or_eq_of_mem_set h' with h2 | rfl
   ·exact Nat.le_succ_of_le (hs.pe l h2)
   ·rw [List.length_append, List.getD_eq_getElem?_getD]
    cases e : s.pend[a / 64]? with
    | none => simp
    | some m => exact Nat.succ_le_succ (hs.pe m (List.mem_of_getElem? e))
 ·exact ⟨Nat.le_succ_of_le hs.st, Nat.succ_le_succ hs.fl, Nat.le_succ_of_le hs.fe, fun l h => Nat.le_succ_of_le (hs.pe l h)⟩
 ·refine ⟨Nat.le_succ_of_le hs.st, Nat.le_succ_of_le hs.fl, Nat.succ_le_succ hs.fe, fun l h => ?_⟩
  have h' : l ∈ s.pend.mapIdx fun j l => if (fun _ : Nat => true) j = true then l.drop (s.mm j r.c.toNat) else l := h
  rw [List.mem_mapIdx] at h'
  obtain ⟨j, hj, rfl⟩ := h'
  have := hs.pe _ (List.getElem_mem hj)
  simp only [if_true, List.length_drop]
  omega
 ·exact hs.mono (by omega)
theorem next_Good {r : RnRS} {nl : Nat} (g : r.Good nl) (hd : r.next.done = false) : r.next.Good nl := by
 obtain ⟨c, left, line, ph, done, code⟩ := r
 obtain ⟨gc0, gc1, gdn, gcd, glf, gpu, gl8, gl64⟩ := g
 cases ph with
 | st =>
  cases left with
  | nil => exact absurd rfl (glf rfl)
  | cons av t =>
   obtain ⟨a, v⟩ := av
   have ha := gpu (a, v) List.mem_cons_self
   refine ⟨gc0, gc1, gdn, gcd, ?_, fun p hp => gpu p (List.mem_cons_of_mem _ hp), ?_, ?_⟩
   ·intro h
    have h' : (if ends a t then Ph.fl else Ph.st) = .st := h
    intro h0
    have h0' : t = [] := h0
    subst h0'
    cases h'
   ·show a / 64 * 64 % 8 = 0
    omega
   ·show a / 64 * 64 < 64 * nl
    have := ha.2.1
    dsimp only at this
    omega
 | fl => exact ⟨gc0, gc1, gdn, gcd, (fun h => by cases h), gpu, gl8, gl64⟩
 | fe =>
  refine ⟨gc0, gc1, hd, gcd, fun _ => ?_, gpu, gl8, gl64⟩
  have h' : left.isEmpty = false := hd
  intro h0
  have h0' : left = [] := h0
  subst h0'
  cases h'
 | en => cases hd
theorem new_Good {c : Int} {l : List (Nat × Nat)} {nl : Nat} (c0 : 0 <= c) (c1 : c <= 64) (hn : 0 < nl) (pu : ∀ p ∈ l, p.1 % 8 = 0 /\ p.1 < 64 * nl /\ p.2 < 18446744073709551616) : (RnRS.new c l).Good nl := by
 refine ⟨c0, c1, rfl, rfl, fun h h0 => ?_, pu, rfl, by show 0 < _; omega⟩
 have h0' : l = [] := h0
 unfold RnRS.new at h
 rw [if_pos h0'] at h
 cases h
structure Fresh (w w' : World) (y : Lay) (rg : Nat) : Prop where
 low : Below w.heap.size w w'
 fp : ∀ k, y.fp k -> w.heap.size <= k
 rg : w.heap.size <= rg
def RGo (nl : Nat) : Nat -> RnRS -> Prop
 | 0, r => r.left = []
 | n + 1, r => r.Good nl /\ r.next.done = decide (n = 0) /\ RGo nl n r.next
def rgoB : Nat -> RnRS -> Bool
 | 0, r => r.left.isEmpty
 | n + 1, r => (r.next.done == decide (n = 0)) && rgoB n r.next
def rmem : Nat -> RnRS -> St -> St
 | 0, _, s => s
 | n + 1, r, s => rmem n r.next (r.mem s)
theorem rgo_of {nl : Nat} : ∀ {n : Nat} {r : RnRS}, r.Good nl -> rgoB n r = true -> RGo nl n r
 | 0, r, _, h => by
  unfold rgoB at h
  exact List.isEmpty_iff.1 h
 | n + 1, r, g, h => by
  unfold rgoB at h
  rw [Bool.and_eq_true, beq_iff_eq] at h
  refine ⟨g, h.1, ?_⟩
  by_cases hn : n = 0
  ·subst hn
   have h2 := h.2
   unfold rgoB at h2
   exact List.isEmpty_iff.1 h2
  ·exact rgo_of (next_Good g (by rw [h.1]; exact decide_eq_false hn)) h.2
theorem rmem_nl : ∀ (n : Nat) (r : RnRS) (s : St), (rmem n r s).nl = s.nl
 | 0, _, _ => rfl
 | n + 1, r, s => (rmem_nl n r.next (r.mem s)).trans (mem_nl r s)
theorem rgo_view {nl : Nat} : ∀ {n : Nat} {r : RnRS} (s : St), RGo nl n r -> (rmem n r s).view = lastW s.view r.left
 | 0, r, s, h => by
  have h : r.left = [] := h
  rw [h]
  rfl
 | n + 1, r, s, h => by
  obtain ⟨g, _, h2⟩ := h
  have ih := rgo_view (r.mem s) h2
  show (rmem n r.next (r.mem s)).view = _
  rw [ih]
  obtain ⟨c, left, line, ph, done, code⟩ := r
  cases ph with
  | st =>
   cases left with
   | nil => exact absurd rfl (g.lf rfl)
   | cons a t => obtain ⟨a, v⟩ := a; rfl
  | fl => rfl
  | fe =>
   show lastW ((s.fence c.toNat).view) left = _
   rfl
  | en => rfl
structure SOk (s : St) (i : Nat) : Prop where
 ok : s.Ok
 sm : Small s i
 pl : s.pend.length = s.nl
theorem pend_len_mem (r : RnRS) (s : St) : (r.mem s).pend.length = s.pend.length := by
 obtain ⟨c, left, line, ph, done, code⟩ := r
 cases ph with
 | st =>
  cases left with
  | nil => rfl
  | cons a t =>
   obtain ⟨a, v⟩ := a
   show (s.pend.set _ _).length = _
   exact List.length_set
 | fl => rfl
 | fe =>
  show (s.fence c.toNat).pend.length = _
  simp [St.fence, St.fenV]
 | en => rfl
theorem SOk.mem {s : St} {i : Nat} (h : SOk s i) {r : RnRS} (g : r.Good s.nl) (hi : i <= 1000) : SOk (r.mem s) (i + 1) :=
 ⟨mem_Ok h.ok h.sm hi h.pl g, mem_Small h.sm, by rw [pend_len_mem, mem_nl]; exact h.pl⟩
end Go.Proofs.YtkbklooocdfcfaaGreatDoor
namespace Go.Proofs.YtkbklooocdfcfaaGreatDoor
open Go.RowKit
attribute [local go_sem] Oper.semAt_some
theorem show_loadN {P : Program} {ops : Array Oper} {rest : List Oper} {Q : Exit -> Act -> World -> Prop} {d : Option Nat} {t2 : TypeId} {x : Operand} {ps : String} {af : Array Edge} {g : Option (Nat × Bool)} {a : Act} {w : World} (h : wpList P ops Q (⟨d, .load 71 x, t2, ps, af, g⟩ :: rest) a w) : wpList P ops Q (⟨d, .load 71 x, t2, ps, af, g⟩ :: rest) a w := h
theorem show_storeN {P : Program} {ops : Array Oper} {rest : List Oper} {Q : Exit -> Act -> World -> Prop} {d : Option Nat} {t2 : TypeId} {x y : Operand} {ps : String} {af : Array Edge} {a : Act} {w : World} (h : wpList P ops Q (⟨d, .store 71 x y, t2, ps, af, none⟩ :: rest) a w) : wpList P ops Q (⟨d, .store 71 x y, t2, ps, af, none⟩ :: rest) a w := h
end Go.Proofs.YtkbklooocdfcfaaGreatDoor
