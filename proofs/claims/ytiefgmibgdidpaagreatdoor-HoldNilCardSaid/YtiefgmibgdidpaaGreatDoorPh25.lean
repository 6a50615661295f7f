/- Texts of this claim, packed: RnS, SnB, SnR, SnE, SnF, RnE, RnM. -/
import Derived.Test.YtiefgmibgdidpaaGreatDoorPh19
import Derived.Test.YtiefgmibgdidpaaGreatDoorPh03
import Derived.Test.YtiefgmibgdidpaaGreatDoorPh07
import Derived.Test.YtiefgmibgdidpaaGreatDoorPh20
import Derived.Test.YtiefgmibgdidpaaGreatDoorPh23
import Derived.Test.YtiefgmibgdidpaaGreatDoorPh24
import Derived.Test.YtiefgmibgdidpaaGreatDoorPh12
import Derived.BigQuiet
/- A run's step, of whatever it is to do next; of no run, a zero one, one that is done, no memory, no client. -/
namespace Go.Proofs.YtiefgmibgdidpaaGreatDoor
open Go.RowKit Go.Shelf
set_option linter.unusedVariables false
attribute [local go_sem] Oper.semAt_some
theorem eqFnR (w : World) (g : Nat) (fi lb : Array Value) : (binOp .eql 29 (.func (.func g) fi lb) .nilFunc).run Tryz.prog w = .ok (.bool false) w := by kernel_rfl
theorem guardFnR (w : World) (g : Nat) (fi lb : Array Value) (x : Operand) : (eqGuard .eql 29 x (.const .nilFunc) (.func (.func g) fi lb) .nilFunc).run Tryz.prog w = .ok () w := by kernel_rfl
/-- A run's cells. -/
def rcells (p : Option Addr) (c : Int) (V : Value) (line : Int) (F : Value) (d : Bool) (k : Int) : Array Value := #[.pointer p, .int .i64 c, V, .int .u64 line, F, .bool d, .int .i64 k]
/-- What is to be done next, by its function. -/
def nextV (f rg : Nat) : Value := .func (.func f) #[.pointer (some ⟨rg, 0, none⟩)] #[]
def Ph.no : Ph → Nat
  | .st => 147
  | .fl => 156
  | .fe => 161
  | .en => 148
theorem Ph.fn_no (ph : Ph) (rg : Nat) : ph.fn rg = nextV ph.no rg := by cases ph <;> rfl -- of 148
theorem RunAt.cells {w : World} {rg : Nat} {p : Option Addr} {r : RnRS} {V : Value} (h : RunAt w rg p r V) : Row w rg 222 (rcells p r.c V r.line (nextV r.ph.no rg) r.done r.code) := by
  have := h.row
  rw [Ph.fn_no] at this
  exact this
end Go.Proofs.YtiefgmibgdidpaaGreatDoor
/- What a snapshot's steps do: the first Count; for whatever the load answers. -/
namespace Go.Proofs.YtiefgmibgdidpaaGreatDoor
open Go.RowKit
set_option linter.unusedVariables false
attribute [local go_sem] Oper.semAt_some
/-- What a step's function leaves. -/
def FPost (g : Nat) (P : World → Prop) (k : Int) (R : Array Value → Prop) (e : Ending) (w' : World) : Prop := e = .returned (.int .i64 k) ∧ ∃ w1 cs', P w1 ∧ R cs' ∧ SnSw w1 w' g cs'
/-- What a load leaves beside its answer. -/
def LQ (g : Nat) (cs : Array Value) (P : World → Prop) (w' : World) : Prop := Row w' g 123 cs ∧ P w'
/-- The readings behind the first Count. -/
def rBeg (v : Int) : Nat → Int := fun j => if j = 3 then v else 0
def vBeg (v : Int) : List Value := uw 0 :: uw 0 :: uw 0 :: uw v :: List.replicate 44 (uw 0)
theorem vBeg_len (v : Int) : (vBeg v).length = 48 := rfl
theorem vBeg_at (v : Int) (j : Nat) (hj : j < 48) : (vBeg v)[j]? = some (.int .u64 (rBeg v j)) := by
  unfold vBeg rBeg
  match j with
  | 0 => rfl
  | 1 => rfl
  | 2 => rfl
  | 3 => rfl
  | j + 4 =>
    rw [if_neg (by omega)]
    simp only [List.getElem?_cons_succ]
    rw [List.getElem?_replicate, if_pos (by omega)]
theorem vBeg_one (v : Int) : (vBeg v).toArray.all (·.oneCell') = true := all_oneCell_toArray fun u hu => by
  simp only [vBeg, List.mem_cons, List.mem_replicate] at hu
  rcases hu with rfl | rfl | rfl | rfl | ⟨_, rfl⟩ <;> rfl
theorem rowThere {w : World} {g : Nat} {t : TypeId} {cs : Array Value} (h : Row w g t cs) {o n : Nat} (hn : o + n ≤ cs.size) : w.there g o n := fun j hj => ⟨by rw [h.cell, Array.getElem?_eq_getElem (by omega)]; rfl, h.free _⟩
theorem r2I : (Tryz.prog.info? 121).map (·.size) = some 48 := by kernel_rfl
set_option maxRecDepth 100000 in
set_option maxHeartbeats 3200000 in
theorem snBegin_any {w : World} {g a : Nat} {cs : Array Value} {p : Option Addr} {F : Value} {d : Bool} {k wh wd lo v kk : Int} {r : Nat → Int} {n : Nd} {P : World → Prop}
    (hr : Row w g 123 cs) (hs : IsS cs p F d k a r wh wd lo n) (ha : a < 18446744073709551616)
    (HL : ∀ W, Below w.heap.size w W → Calls Tryz.prog 65 #[.pointer p, .int .u64 ((snWordAt a 3 : Nat) : Int)] W fun e' w' => e' = .returned (.tuple #[.int .u64 v, .int .i64 kk]) ∧ LQ g cs P w') :
    Calls Tryz.prog 89 #[.pointer (some ⟨g, 0, none⟩)] w (FPost g P kk (fun cs' => IsS cs' p (nextV 109 g) d k a (rBeg v) 0 0 lo n)) := by
  have mixed : Tryz.prog.follows .mixedOrders = true := by kernel_rfl
  have c0 := (hr.cell 0).trans hs.c0
  have c4 := (hr.cell 4).trans hs.c4
  have HDR := Lib.hid (drew_below w)
  have STAY := Lib.hid (show ∀ W, Below w.heap.size w W → W.cell? ⟨g, 4, none⟩ = some (.int .u64 (a : Int)) from fun W hb => (hr.below hb hr.lt).cell 4 |>.trans hs.c4)
  have STQ := Lib.hid (show ∀ W, Row W g 123 cs → W.cell? ⟨g, 4, none⟩ = some (.int .u64 (a : Int)) from fun W h => (h.cell 4).trans hs.c4)
  have HM := Lib.hid (macLoad_any (k := 3) ((drew_below w).cell (block_lt_of_cell c0) |>.trans c0) ha (by decide) (HL _ (drew_below w)))
  have HS := Lib.hid hs
  clear hr hs HL c0 c4 ha mixed
  go_enter Tryz.func89, Tryz.ntmps89
  go_wp2_with fail
  refine wp_region_held_drew (S := fun W' => W'.cell? ⟨g, 4, none⟩ = some (.int .u64 (a : Int))) (by kernel_rfl) (STAY.out _ HDR.out) (fun hHeld => ?_)
  refine wpAnyH_take (i := 0) (oi := ⟨some 6, _, _, _, _, _⟩) (v := .pointer (some ⟨g, 0, none⟩)) rfl (by kernel_rfl) (by kernel_rfl) (by kernel_rfl) (fun _ _ _ h => h) (Or.inl ⟨by rfl, by intro WW hSw; (try dsimp only at hSw); go_simp⟩) (by assumption) ?_
  (try simp only [Act.put, List.setIfInBounds_toArray, List.set_cons_zero, List.set_cons_succ])
  refine wpAnyH_take (i := 1) (oi := ⟨some 7, _, _, _, _, _⟩) (v := .pointer (some ⟨g, 0, none⟩)) rfl (by kernel_rfl) (by kernel_rfl) (by kernel_rfl) (fun _ _ _ h => h) (Or.inl ⟨by rfl, by intro WW hSw; (try dsimp only at hSw); go_simp⟩) (by assumption) ?_
  (try simp only [Act.put, List.setIfInBounds_toArray, List.set_cons_zero, List.set_cons_succ])
  refine wpAnyH_take (i := 2) (oi := ⟨some 8, _, _, _, _, _⟩) (v := .pointer (some ⟨g, 0, none⟩)) rfl (by kernel_rfl) (by kernel_rfl) (by kernel_rfl) (fun _ _ _ h => h) (Or.inl ⟨by rfl, by intro WW hSw; (try dsimp only at hSw); go_simp⟩) (by assumption) ?_
  (try simp only [Act.put, List.setIfInBounds_toArray, List.set_cons_zero, List.set_cons_succ])
  refine wpAnyH_take (i := 3) (oi := ⟨some 9, _, _, _, _, _⟩) (v := .pointer (some ⟨g, 0, none⟩)) rfl (by kernel_rfl) (by kernel_rfl) (by kernel_rfl) (fun _ _ _ h => h) (Or.inl ⟨by rfl, by intro WW hSw; (try dsimp only at hSw); go_simp⟩) (by assumption) ?_
  (try simp only [Act.put, List.setIfInBounds_toArray, List.set_cons_zero, List.set_cons_succ])
  refine wpAnyH_take (i := 4) (oi := ⟨some 10, _, _, _, _, _⟩) (v := .pointer (some ⟨g, 0, none⟩)) rfl (by kernel_rfl) (by kernel_rfl) (by kernel_rfl) (fun _ _ _ h => h) (Or.inl ⟨by rfl, by intro WW hSw; (try dsimp only at hSw); go_simp⟩) (by assumption) ?_
  (try simp only [Act.put, List.setIfInBounds_toArray, List.set_cons_zero, List.set_cons_succ])
  refine wpAnyH_take (i := 5) (oi := ⟨some 11, _, _, _, _, _⟩) (v := .pointer (some ⟨g, 4, none⟩)) rfl (by kernel_rfl) (by kernel_rfl) (by kernel_rfl) (fun _ _ _ h => h) (Or.inl ⟨by rfl, by intro WW hSw; (try dsimp only at hSw); go_simp⟩) (by assumption) ?_
  (try simp only [Act.put, List.setIfInBounds_toArray, List.set_cons_zero, List.set_cons_succ])
  refine wpAnyH_take (i := 6) (oi := ⟨some 12, _, _, _, _, _⟩) (v := .int .u64 (a : Int)) rfl (by kernel_rfl) (by kernel_rfl) (by kernel_rfl) (fun _ _ _ h => h) (Or.inl ⟨by rfl, by intro WW hSw; (try dsimp only at hSw); go_simp⟩) (by assumption) ?_
  (try simp only [Act.put, List.setIfInBounds_toArray, List.set_cons_zero, List.set_cons_succ])
  refine wpAnyH_one (i := 7) (oi := ⟨some 13, _, _, _, _, _⟩) rfl (by kernel_rfl) (fun K hK => ?_)
  refine step_calls (by rfl) 108 (fun args w => Tryz.call108 _ _) [.tmp 8, .tmp 12, .const (.int .i64 3)] _ rfl [.pointer (some ⟨g, 0, none⟩), .int .u64 (a : Int), .int .i64 3] rfl (HM.out) ?_
  rintro e w2 ⟨rfl, hq, hp⟩
  have HQ := Lib.hid hq
  have HP := Lib.hid hp
  clear hq hp HM
  refine ⟨_, rfl, hK _ _ (STQ.out _ HQ.out) (fun hSn => ?_)⟩
  clear hK K
  (try simp only [Act.put, List.setIfInBounds_toArray, List.set_cons_zero, List.set_cons_succ])
  refine wpAnyH_take (i := 8) (oi := ⟨some 5, _, _, _, _, _⟩) (v := .tuple #[.int .u64 v, .int .i64 kk]) rfl (by kernel_rfl) (by kernel_rfl) (by kernel_rfl) (fun _ _ _ h => h) (Or.inl ⟨by rfl, by intro WW hSw; (try dsimp only at hSw); go_simp⟩) (by assumption) ?_
  (try simp only [Act.put, List.setIfInBounds_toArray, List.set_cons_zero, List.set_cons_succ])
  refine wpAnyH_take (i := 9) (oi := ⟨some 14, _, _, _, _, _⟩) (v := .int .u64 v) rfl (by kernel_rfl) (by kernel_rfl) (by kernel_rfl) (fun _ _ _ h => h) (Or.inl ⟨by rfl, by intro WW hSw; (try dsimp only at hSw); go_simp⟩) (by assumption) ?_
  (try simp only [Act.put, List.setIfInBounds_toArray, List.set_cons_zero, List.set_cons_succ])
  refine wpAnyH_take (i := 10) (oi := ⟨some 15, _, _, _, _, _⟩) (v := .int .i64 kk) rfl (by kernel_rfl) (by kernel_rfl) (by kernel_rfl) (fun _ _ _ h => h) (Or.inl ⟨by rfl, by intro WW hSw; (try dsimp only at hSw); go_simp⟩) (by assumption) ?_
  (try simp only [Act.put, List.setIfInBounds_toArray, List.set_cons_zero, List.set_cons_succ])
  refine wpAnyH_take (i := 11) (oi := ⟨some 3, _, _, _, _, _⟩) (v := .int .u64 v) rfl (by kernel_rfl) (by kernel_rfl) (by kernel_rfl) (fun _ _ _ h => h) (Or.inl ⟨by rfl, by intro WW hSw; (try dsimp only at hSw); go_simp⟩) (by assumption) ?_
  (try simp only [Act.put, List.setIfInBounds_toArray, List.set_cons_zero, List.set_cons_succ])
  refine wpAnyH_take (i := 12) (oi := ⟨some 4, _, _, _, _, _⟩) (v := .int .i64 kk) rfl (by kernel_rfl) (by kernel_rfl) (by kernel_rfl) (fun _ _ _ h => h) (Or.inl ⟨by rfl, by intro WW hSw; (try dsimp only at hSw); go_simp⟩) (by assumption) ?_
  (try simp only [Act.put, List.setIfInBounds_toArray, List.set_cons_zero, List.set_cons_succ])
  refine wpAnyH_done (by kernel_rfl) ?_ _

  have hth := rowThere (o := 5) (n := 48) HQ.out (by rw [HS.out.sz]; omega)
  have SW := (SnSw.refl HQ.out).setAll 5 (vBeg v)
  have IS := HS.out.rall (vBeg_len v) (fun j hj => vBeg_at v j hj)
  obtain ⟨W3, hW3⟩ : ∃ W3, W3 = w2.setCells g 5 (vBeg v) := ⟨_, rfl⟩
  rw [← hW3] at SW
  have c1 := (SW.row.cell 1).trans IS.c1
  have c53 := (SW.row.cell 53).trans IS.cw
  have c54 := (SW.row.cell 54).trans IS.cd
  have f1 := SW.row.free 1
  have f53 := SW.row.free 53
  have f54 := SW.row.free 54
  have HE := Lib.hid (show ∃ w1 cs', P w1 ∧ IsS cs' p (nextV 109 g) d k a (rBeg v) 0 0 lo n ∧ SnSw w1 (((W3.setCell ⟨g, 53, none⟩ (.int .i64 0)).setCell ⟨g, 54, none⟩ (.int .i64 0)).setCell ⟨g, 1, none⟩ (.func (.func 109) #[.pointer (some ⟨g, 0, none⟩)] #[])) g cs' from
    ⟨w2, _, HP.out, ((IS.which 0).word 0).next _, ((SW.set 53 _).set 54 _).set 1 _⟩)
  have HT := Lib.hid hth
  have HW3 := Lib.hid hW3
  clear SW IS hth hW3
  go_wp2_with ((refine wpList_store_mid rfl _ _ _ rfl g 5 (vBeg v).toArray rfl rfl HT.out r2I (vBeg_one v) ?_); rw [← HW3.out])
  go_ret
  exact ⟨rfl, HE.out⟩
end Go.Proofs.YtiefgmibgdidpaaGreatDoor
/- What a snapshot's step does that reads the word that comes; for whatever the load answers. -/
namespace Go.Proofs.YtiefgmibgdidpaaGreatDoor
open Go.RowKit
set_option linter.unusedVariables false
attribute [local go_sem] Oper.semAt_some
/-- What a step that reads a word lets come next. -/
def rdF (F : Value) (g : Nat) (r : Nat → Int) (wh wd : Nat) (v : Int) : Value :=
  if (bh wd v).2 = true then F else if wh = 0 then F else if rput r (24 * wh + wd) v 26 = 0 then nextV 130 g else nextV 129 g
def rdWh (wh wd : Nat) (v : Int) : Nat := if (bh wd v).2 = true then wh else 1
theorem bh_no {k : Nat} {v : Int} (h : (bh k v).2 = false) : 9 ≤ k := by
  unfold bh at h
  split at h
  · cases h
  · split at h
    · cases h
    · split at h
      · rename_i h2
        rcases h2 with h2 | h2 <;> omega
      · cases h
/-- What lies in the snapshot's block behind the store of the word. -/
theorem rd_facts {w : World} {g wd : Nat} {cs : Array Value} {p : Option Addr} {F : Value} {d : Bool} {k a lo wz wdz : Int} {r : Nat → Int} {n : Nd}
    (hr : Row w g 123 cs) (hs : IsS cs p F d k a r wz wdz lo n) (hwd : wd < 24) : ∀ wh : Nat, wh ≤ 1 → ∀ q : LowBy w,
    (q.W.cell? ⟨g, 5 + 24 * wh + wd, none⟩ = some (.int .u64 (r (24 * wh + wd)))) ∧ (∀ i, q.W.frozen? ⟨g, i, none⟩ = false) ∧
    (∀ u, (q.W.setCell ⟨g, 5 + 24 * wh + wd, none⟩ u).cell? ⟨g, 54, none⟩ = some (.int .i64 wdz)) ∧ (∀ u, (q.W.setCell ⟨g, 5 + 24 * wh + wd, none⟩ u).cell? ⟨g, 53, none⟩ = some (.int .i64 wz)) ∧
    (∀ u, (q.W.setCell ⟨g, 5 + 24 * wh + wd, none⟩ u).cell? ⟨g, 1, none⟩ = some F) ∧
    (9 ≤ wd → ∀ u, (q.W.setCell ⟨g, 5 + 24 * wh + wd, none⟩ u).cell? ⟨g, 31, none⟩ = some (.int .u64 (r 26))) := by
  intro wh hwh q
  have hq := hr.below q.low hr.lt
  have ho : ∀ i, i ≠ 5 + 24 * wh + wd → ∀ u, (q.W.setCell ⟨g, 5 + 24 * wh + wd, none⟩ u).cell? ⟨g, i, none⟩ = cs[i]? := fun i hi u => by
    rw [World.cell?_setCell_other _ _ _ _ (by simp <;> omega)]
    exact hq.cell i
  refine ⟨(hq.cell _).trans ?_, fun i => hq.free i, fun u => (ho _ (by omega) u).trans hs.cd, fun u => (ho _ (by omega) u).trans hs.cw, fun u => (ho _ (by omega) u).trans hs.c1, fun h9 u => (ho _ (by omega) u).trans (hs.rr 26 (by omega))⟩
  rw [show 5 + 24 * wh + wd = 5 + (24 * wh + wd) by omega]
  exact hs.rr _ (by omega)
/-- The snapshot's cells behind the stores of a step that reads a word. -/
theorem rd_fin {w : World} {g wh wd : Nat} {cs : Array Value} {p : Option Addr} {F : Value} {d : Bool} {k a lo wz wdz : Int} {r : Nat → Int} {n : Nd} {P : World → Prop}
    (hr : Row w g 123 cs) (hs : IsS cs p F d k a r wz wdz lo n) (hwd : wd < 24) (hwh : wh ≤ 1) (hp : P w) (q : LowBy w) (v : Int) (b : Nat) :
    ∃ cs', P w ∧ IsS cs' p F d k a (rput r (24 * wh + wd) v) wz (b : Nat) lo n ∧ SnSw w ((q.W.setCell ⟨g, 5 + 24 * wh + wd, none⟩ (.int .u64 v)).setCell ⟨g, 54, none⟩ (.int .i64 (b : Nat))) g cs' := by
  have h1 := hs.rset (i := 24 * wh + wd) (by omega) v
  refine ⟨_, hp, h1.word b, ?_⟩
  rw [show 5 + (24 * wh + wd) = 5 + 24 * wh + wd by omega]
  exact (((SnSw.refl hr).below q.low).set _ _).set _ _
set_option maxRecDepth 100000 in
set_option maxHeartbeats 6400000 in
theorem read_any {w : World} {g a wh wd : Nat} {cs : Array Value} {p : Option Addr} {F : Value} {d : Bool} {k lo v kk : Int} {r : Nat → Int} {n : Nd} {P : World → Prop}
    (hr : Row w g 123 cs) (hs : IsS cs p F d k a r wh wd lo n) (ha : a < 18446744073709551616) (hwh : wh = 0 ∨ wh = 1) (hwd : wd < 24)
    (HL : ∀ W, Below w.heap.size w W → Calls Tryz.prog 65 #[.pointer p, .int .u64 ((snWordAt a wd : Nat) : Int)] W fun e' w' => e' = .returned (.tuple #[.int .u64 v, .int .i64 kk]) ∧ LQ g cs P w') :
    Calls Tryz.prog 109 #[.pointer (some ⟨g, 0, none⟩)] w (FPost g P kk (fun cs' => IsS cs' p (rdF F g r wh wd v) d k a (rput r (24 * wh + wd) v) (rdWh wh wd v : Nat) ((bh wd v).1 : Nat) lo n)) := by
  have mixed : Tryz.prog.follows .mixedOrders = true := by kernel_rfl
  have c0 := (hr.cell 0).trans hs.c0
  have HDR := Lib.hid (drew_below w)
  have STAY := Lib.hid (show ∀ W, Below w.heap.size w W → W.cell? ⟨g, 4, none⟩ = some (.int .u64 (a : Int)) ∧ W.cell? ⟨g, 54, none⟩ = some (.int .i64 (wd : Int)) from fun W hb => ⟨(hr.below hb hr.lt).cell 4 |>.trans hs.c4, (hr.below hb hr.lt).cell 54 |>.trans hs.cd⟩)
  have STQ := Lib.hid (show ∀ W, Row W g 123 cs → W.cell? ⟨g, 4, none⟩ = some (.int .u64 (a : Int)) ∧ W.cell? ⟨g, 54, none⟩ = some (.int .i64 (wd : Int)) from fun W h => ⟨(h.cell 4).trans hs.c4, (h.cell 54).trans hs.cd⟩)
  have HM := Lib.hid (macLoad_any (k := wd) ((drew_below w).cell (block_lt_of_cell c0) |>.trans c0) ha hwd (HL _ (drew_below w)))
  have HS := Lib.hid hs
  have HBH := Lib.hid fun W => behindS_any hwd v W
  have HWD := Lib.hid hwd
  obtain ⟨b1, hb1⟩ : ∃ b, b = (bh wd v).1 := ⟨_, rfl⟩
  obtain ⟨b2, hb2⟩ : ∃ b, b = (bh wd v).2 := ⟨_, rfl⟩
  have HB2 := Lib.hid hb2
  have HRF := Lib.hid (show rdF F g r wh wd v = (if b2 = true then F else if wh = 0 then F else if rput r (24 * wh + wd) v 26 = 0 then nextV 130 g else nextV 129 g) ∧ rdWh wh wd v = if b2 = true then wh else 1 from by
    unfold rdF rdWh
    rw [← hb2]
    exact ⟨rfl, rfl⟩)
  rw [← hb1, ← hb2] at HBH
  rw [← hb1]
  have HWH := Lib.hid hwh
  clear hr hs HL c0 ha hb1 hb2 hwh
  go_enter Tryz.func109, Tryz.ntmps109
  go_wp2_with fail
  refine wp_region_held_drew (S := fun W' => W'.cell? ⟨g, 4, none⟩ = some (.int .u64 (a : Int)) ∧ W'.cell? ⟨g, 54, none⟩ = some (.int .i64 (wd : Int))) (by kernel_rfl) (STAY.out _ HDR.out) (fun hHeld => ?_)
  refine wpAnyH_take (i := 0) (oi := ⟨some 8, _, _, _, _, _⟩) (v := .pointer (some ⟨g, 0, none⟩)) rfl (by kernel_rfl) (by kernel_rfl) (by kernel_rfl) (fun _ _ _ h => h) (Or.inl ⟨by rfl, by intro WW hSw; (try dsimp only at hSw); go_simp⟩) (by assumption) ?_
  (try simp only [Act.put, List.setIfInBounds_toArray, List.set_cons_zero, List.set_cons_succ])
  refine wpAnyH_take (i := 1) (oi := ⟨some 9, _, _, _, _, _⟩) (v := .pointer (some ⟨g, 0, none⟩)) rfl (by kernel_rfl) (by kernel_rfl) (by kernel_rfl) (fun _ _ _ h => h) (Or.inl ⟨by rfl, by intro WW hSw; (try dsimp only at hSw); go_simp⟩) (by assumption) ?_
  (try simp only [Act.put, List.setIfInBounds_toArray, List.set_cons_zero, List.set_cons_succ])
  refine wpAnyH_take (i := 2) (oi := ⟨some 10, _, _, _, _, _⟩) (v := .pointer (some ⟨g, 0, none⟩)) rfl (by kernel_rfl) (by kernel_rfl) (by kernel_rfl) (fun _ _ _ h => h) (Or.inl ⟨by rfl, by intro WW hSw; (try dsimp only at hSw); go_simp⟩) (by assumption) ?_
  (try simp only [Act.put, List.setIfInBounds_toArray, List.set_cons_zero, List.set_cons_succ])
  refine wpAnyH_take (i := 3) (oi := ⟨some 11, _, _, _, _, _⟩) (v := .pointer (some ⟨g, 0, none⟩)) rfl (by kernel_rfl) (by kernel_rfl) (by kernel_rfl) (fun _ _ _ h => h) (Or.inl ⟨by rfl, by intro WW hSw; (try dsimp only at hSw); go_simp⟩) (by assumption) ?_
  (try simp only [Act.put, List.setIfInBounds_toArray, List.set_cons_zero, List.set_cons_succ])
  refine wpAnyH_take (i := 4) (oi := ⟨some 12, _, _, _, _, _⟩) (v := .pointer (some ⟨g, 0, none⟩)) rfl (by kernel_rfl) (by kernel_rfl) (by kernel_rfl) (fun _ _ _ h => h) (Or.inl ⟨by rfl, by intro WW hSw; (try dsimp only at hSw); go_simp⟩) (by assumption) ?_
  (try simp only [Act.put, List.setIfInBounds_toArray, List.set_cons_zero, List.set_cons_succ])
  refine wpAnyH_take (i := 5) (oi := ⟨some 13, _, _, _, _, _⟩) (v := .pointer (some ⟨g, 4, none⟩)) rfl (by kernel_rfl) (by kernel_rfl) (by kernel_rfl) (fun _ _ _ h => h) (Or.inl ⟨by rfl, by intro WW hSw; (try dsimp only at hSw); go_simp⟩) (by assumption) ?_
  (try simp only [Act.put, List.setIfInBounds_toArray, List.set_cons_zero, List.set_cons_succ])
  refine wpAnyH_take (i := 6) (oi := ⟨some 14, _, _, _, _, _⟩) (v := .int .u64 (a : Int)) rfl (by kernel_rfl) (by kernel_rfl) (by kernel_rfl) (fun _ _ _ h => h) (Or.inl ⟨by rfl, by intro WW hSw; (try dsimp only at hSw); go_simp⟩) (by assumption) ?_
  (try simp only [Act.put, List.setIfInBounds_toArray, List.set_cons_zero, List.set_cons_succ])
  refine wpAnyH_take (i := 7) (oi := ⟨some 15, _, _, _, _, _⟩) (v := .pointer (some ⟨g, 0, none⟩)) rfl (by kernel_rfl) (by kernel_rfl) (by kernel_rfl) (fun _ _ _ h => h) (Or.inl ⟨by rfl, by intro WW hSw; (try dsimp only at hSw); go_simp⟩) (by assumption) ?_
  (try simp only [Act.put, List.setIfInBounds_toArray, List.set_cons_zero, List.set_cons_succ])
  refine wpAnyH_take (i := 8) (oi := ⟨some 16, _, _, _, _, _⟩) (v := .pointer (some ⟨g, 0, none⟩)) rfl (by kernel_rfl) (by kernel_rfl) (by kernel_rfl) (fun _ _ _ h => h) (Or.inl ⟨by rfl, by intro WW hSw; (try dsimp only at hSw); go_simp⟩) (by assumption) ?_
  (try simp only [Act.put, List.setIfInBounds_toArray, List.set_cons_zero, List.set_cons_succ])
  refine wpAnyH_take (i := 9) (oi := ⟨some 17, _, _, _, _, _⟩) (v := .pointer (some ⟨g, 54, none⟩)) rfl (by kernel_rfl) (by kernel_rfl) (by kernel_rfl) (fun _ _ _ h => h) (Or.inl ⟨by rfl, by intro WW hSw; (try dsimp only at hSw); go_simp⟩) (by assumption) ?_
  (try simp only [Act.put, List.setIfInBounds_toArray, List.set_cons_zero, List.set_cons_succ])
  refine wpAnyH_take (i := 10) (oi := ⟨some 18, _, _, _, _, _⟩) (v := .int .i64 (wd : Int)) rfl (by kernel_rfl) (by kernel_rfl) (by kernel_rfl) (fun _ _ _ h => h) (Or.inl ⟨by rfl, by intro WW hSw; (try dsimp only at hSw); go_simp⟩) (by assumption) ?_
  (try simp only [Act.put, List.setIfInBounds_toArray, List.set_cons_zero, List.set_cons_succ])
  refine wpAnyH_one (i := 11) (oi := ⟨some 19, _, _, _, _, _⟩) rfl (by kernel_rfl) (fun K hK => ?_)
  refine step_calls (by rfl) 108 (fun args w => Tryz.call108 _ _) [.tmp 10, .tmp 14, .tmp 18] _ rfl [.pointer (some ⟨g, 0, none⟩), .int .u64 (a : Int), .int .i64 (wd : Int)] rfl (HM.out) ?_
  rintro e w2 ⟨rfl, hq, hp⟩
  have HQ := Lib.hid hq
  have HP := Lib.hid hp
  clear hq hp HM
  refine ⟨_, rfl, hK _ _ (STQ.out _ HQ.out) (fun hSn => ?_)⟩
  clear hK K
  (try simp only [Act.put, List.setIfInBounds_toArray, List.set_cons_zero, List.set_cons_succ])
  refine wpAnyH_take (i := 12) (oi := ⟨some 7, _, _, _, _, _⟩) (v := .tuple #[.int .u64 v, .int .i64 kk]) rfl (by kernel_rfl) (by kernel_rfl) (by kernel_rfl) (fun _ _ _ h => h) (Or.inl ⟨by rfl, by intro WW hSw; (try dsimp only at hSw); go_simp⟩) (by assumption) ?_
  (try simp only [Act.put, List.setIfInBounds_toArray, List.set_cons_zero, List.set_cons_succ])
  refine wpAnyH_take (i := 13) (oi := ⟨some 20, _, _, _, _, _⟩) (v := .int .u64 v) rfl (by kernel_rfl) (by kernel_rfl) (by kernel_rfl) (fun _ _ _ h => h) (Or.inl ⟨by rfl, by intro WW hSw; (try dsimp only at hSw); go_simp⟩) (by assumption) ?_
  (try simp only [Act.put, List.setIfInBounds_toArray, List.set_cons_zero, List.set_cons_succ])
  refine wpAnyH_take (i := 14) (oi := ⟨some 21, _, _, _, _, _⟩) (v := .int .i64 kk) rfl (by kernel_rfl) (by kernel_rfl) (by kernel_rfl) (fun _ _ _ h => h) (Or.inl ⟨by rfl, by intro WW hSw; (try dsimp only at hSw); go_simp⟩) (by assumption) ?_
  (try simp only [Act.put, List.setIfInBounds_toArray, List.set_cons_zero, List.set_cons_succ])
  refine wpAnyH_take (i := 15) (oi := ⟨some 3, _, _, _, _, _⟩) (v := .int .u64 v) rfl (by kernel_rfl) (by kernel_rfl) (by kernel_rfl) (fun _ _ _ h => h) (Or.inl ⟨by rfl, by intro WW hSw; (try dsimp only at hSw); go_simp⟩) (by assumption) ?_
  (try simp only [Act.put, List.setIfInBounds_toArray, List.set_cons_zero, List.set_cons_succ])
  refine wpAnyH_take (i := 16) (oi := ⟨some 4, _, _, _, _, _⟩) (v := .int .i64 kk) rfl (by kernel_rfl) (by kernel_rfl) (by kernel_rfl) (fun _ _ _ h => h) (Or.inl ⟨by rfl, by intro WW hSw; (try dsimp only at hSw); go_simp⟩) (by assumption) ?_
  (try simp only [Act.put, List.setIfInBounds_toArray, List.set_cons_zero, List.set_cons_succ])
  refine wpAnyH_done (by kernel_rfl) ?_ _


  go_wp2_with fail
  have c53 := (HQ.out.cell 53).trans HS.out.cw
  have c54 := (HQ.out.cell 54).trans HS.out.cd
  have ca := fun q : LowBy w2 => q.cell c53
  have cb := fun q : LowBy w2 => q.cell c54
  clear c53 c54 STQ hSn hHeld STAY HDR
  have HX := Lib.hid (rd_facts HQ.out HS.out hwd)
  rcases HWH.out with rfl | rfl
  · refine wp_region_low_tail 14 (by assumption) (by kernel_rfl) ?_
    simp only [List.take_succ_cons, List.take_zero, List.drop_succ_cons, List.drop_zero]
    repeat (go_big_quiet_step (fail))
    refine wpQuiet_nil ?_
    intro _ hw'
    obtain ⟨q, hw''⟩ := hw'
    subst hw''
    obtain ⟨e1, e2, e3, e4, e5, e6⟩ := HX.out 0 (by omega) q
    have FIN := rd_fin (wh := 0) HQ.out HS.out HWD.out (by omega) HP.out q v b1
    rw [show 5 + 24 * 0 + wd = 5 + wd by omega] at e1 e3 e4 e5 e6 FIN
    clear ca cb HX
    obtain ⟨cs', fp, fi, fs⟩ := FIN
    cases b2 with
    | true =>
      have HE := Lib.hid (show ∃ w1 cs', P w1 ∧ IsS cs' p (rdF F g r 0 wd v) d k a (rput r (24 * 0 + wd) v) (rdWh 0 wd v : Nat) (b1 : Nat) lo n ∧ SnSw w1 ((q.W.setCell ⟨g, 5 + wd, none⟩ (.int .u64 v)).setCell ⟨g, 54, none⟩ (.int .i64 (b1 : Nat))) g cs' from
        ⟨w2, cs', fp, by rw [HRF.out.1, HRF.out.2]; exact fi, fs⟩)
      clear e6 fp fi fs HRF
      go_wp2_with (refine (HBH.out _).mono ?_; rintro e w3 ⟨rfl, rfl⟩)
      go_ret
      exact ⟨rfl, HE.out⟩
    | false =>
      have HE := Lib.hid (show ∃ w1 cs', P w1 ∧ IsS cs' p (rdF F g r 0 wd v) d k a (rput r (24 * 0 + wd) v) (rdWh 0 wd v : Nat) (b1 : Nat) lo n ∧ SnSw w1 (((q.W.setCell ⟨g, 5 + wd, none⟩ (.int .u64 v)).setCell ⟨g, 54, none⟩ (.int .i64 (b1 : Nat))).setCell ⟨g, 53, none⟩ (.int .i64 1)) g cs' from
        ⟨w2, _, fp, by rw [HRF.out.1, HRF.out.2]; exact fi.which 1, fs.set 53 _⟩)
      clear e6 fp fi fs HRF
      go_wp2_with (refine (HBH.out _).mono ?_; rintro e w3 ⟨rfl, rfl⟩)
      go_ret
      exact ⟨rfl, HE.out⟩
  · refine wp_region_low_tail 14 (by assumption) (by kernel_rfl) ?_
    simp only [List.take_succ_cons, List.take_zero, List.drop_succ_cons, List.drop_zero]
    repeat (go_big_quiet_step (fail))
    refine wpQuiet_nil ?_
    intro _ hw'
    obtain ⟨q, hw''⟩ := hw'
    subst hw''
    obtain ⟨e1, e2, e3, e4, e5, e6⟩ := HX.out 1 (by omega) q
    have FIN := rd_fin (wh := 1) HQ.out HS.out HWD.out (by omega) HP.out q v b1
    rw [show 5 + 24 * 1 + wd = 29 + wd by omega] at e1 e3 e4 e5 e6 FIN
    clear ca cb HX
    obtain ⟨cs', fp, fi, fs⟩ := FIN
    cases b2 with
    | true =>
      have HE := Lib.hid (show ∃ w1 cs', P w1 ∧ IsS cs' p (rdF F g r 1 wd v) d k a (rput r (24 * 1 + wd) v) (rdWh 1 wd v : Nat) (b1 : Nat) lo n ∧ SnSw w1 ((q.W.setCell ⟨g, 29 + wd, none⟩ (.int .u64 v)).setCell ⟨g, 54, none⟩ (.int .i64 (b1 : Nat))) g cs' from
        ⟨w2, cs', fp, by rw [HRF.out.1, HRF.out.2]; exact fi, fs⟩)
      clear e6 fp fi fs HRF
      go_wp2_with (refine (HBH.out _).mono ?_; rintro e w3 ⟨rfl, rfl⟩)
      go_ret
      exact ⟨rfl, HE.out⟩
    | false =>
      have e6 := e6 (bh_no HB2.out.symm)
      have hn26 : rput r (24 * 1 + wd) v 26 = r 26 := by
        have := bh_no HB2.out.symm
        unfold rput
        rw [if_neg (by omega)]
      by_cases h26 : r 26 = 0
      · have HE := Lib.hid (show ∃ w1 cs', P w1 ∧ IsS cs' p (rdF F g r 1 wd v) d k a (rput r (24 * 1 + wd) v) (rdWh 1 wd v : Nat) (b1 : Nat) lo n ∧ SnSw w1 (((q.W.setCell ⟨g, 29 + wd, none⟩ (.int .u64 v)).setCell ⟨g, 54, none⟩ (.int .i64 (b1 : Nat))).setCell ⟨g, 1, none⟩ (.func (.func 130) #[.pointer (some ⟨g, 0, none⟩)] #[])) g cs' from
          ⟨w2, _, fp, by rw [HRF.out.1, HRF.out.2, hn26, h26]; exact fi.next _, fs.set 1 _⟩)
        have hb : (r 26 != 0) = false := by simp [h26]
        clear fp fi fs HRF hn26
        obtain ⟨z, hz⟩ : ∃ z, z = r 26 := ⟨_, rfl⟩
        rw [← hz] at e6 hb
        clear hz h26
        go_wp2_with (refine (HBH.out _).mono ?_; rintro e w3 ⟨rfl, rfl⟩)
        go_ret
        exact ⟨rfl, HE.out⟩
      · have HE := Lib.hid (show ∃ w1 cs', P w1 ∧ IsS cs' p (rdF F g r 1 wd v) d k a (rput r (24 * 1 + wd) v) (rdWh 1 wd v : Nat) (b1 : Nat) lo n ∧ SnSw w1 (((q.W.setCell ⟨g, 29 + wd, none⟩ (.int .u64 v)).setCell ⟨g, 54, none⟩ (.int .i64 (b1 : Nat))).setCell ⟨g, 1, none⟩ (.func (.func 129) #[.pointer (some ⟨g, 0, none⟩)] #[])) g cs' from
          ⟨w2, _, fp, by rw [HRF.out.1, HRF.out.2, hn26, if_neg (by simp), if_neg (by simp), if_neg h26, if_neg (by simp)]; exact fi.next _, fs.set 1 _⟩)
        have hb : (r 26 != 0) = true := by simp [h26]
        clear fp fi fs HRF hn26
        obtain ⟨z, hz⟩ : ∃ z, z = r 26 := ⟨_, rfl⟩
        rw [← hz] at e6 hb
        clear hz h26
        go_wp2_with (refine (HBH.out _).mono ?_; rintro e w3 ⟨rfl, rfl⟩)
        go_ret
        exact ⟨rfl, HE.out⟩
end Go.Proofs.YtiefgmibgdidpaaGreatDoor
/- What a snapshot's last steps do: Low of the next node; Count once more, and the node; for whatever the load answers. -/
namespace Go.Proofs.YtiefgmibgdidpaaGreatDoor
open Go.RowKit
set_option linter.unusedVariables false
attribute [local go_sem] Oper.semAt_some
set_option maxRecDepth 100000 in
set_option maxHeartbeats 6400000 in
theorem readLow_any {w : World} {g a : Nat} {cs : Array Value} {p : Option Addr} {F : Value} {d : Bool} {k at' wh wd lo v kk : Int} {r : Nat → Int} {n : Nd} {P : World → Prop}
    (hr : Row w g 123 cs) (hs : IsS cs p F d k at' r wh wd lo n) (h26 : r 26 = (a : Int)) (ha : a < 18446744073709551616)
    (HL : ∀ W, Below w.heap.size w W → Calls Tryz.prog 65 #[.pointer p, .int .u64 ((snWordAt a 1 : Nat) : Int)] W fun e' w' => e' = .returned (.tuple #[.int .u64 v, .int .i64 kk]) ∧ LQ g cs P w') :
    Calls Tryz.prog 129 #[.pointer (some ⟨g, 0, none⟩)] w (FPost g P kk (fun cs' => IsS cs' p (nextV 130 g) d k at' r wh wd v n)) := by
  have c0 := (hr.cell 0).trans hs.c0
  have HDR := Lib.hid (drew_below w)
  have STAY := Lib.hid (show ∀ W, Below w.heap.size w W → W.cell? ⟨g, 31, none⟩ = some (.int .u64 (a : Int)) from fun W hb => by rw [← h26]; exact (hr.below hb hr.lt).cell 31 |>.trans (hs.rr 26 (by omega)))
  have STQ := Lib.hid (show ∀ W, Row W g 123 cs → W.cell? ⟨g, 31, none⟩ = some (.int .u64 (a : Int)) from fun W h => by rw [← h26]; exact (h.cell 31).trans (hs.rr 26 (by omega)))
  have HM := Lib.hid (macLoad_any (k := 1) ((drew_below w).cell (block_lt_of_cell c0) |>.trans c0) ha (by decide) (HL _ (drew_below w)))
  have HS := Lib.hid hs
  clear hr hs HL c0 ha h26
  go_enter Tryz.func129, Tryz.ntmps129
  go_wp2_with fail
  refine wp_region_held_drew (S := fun W' => W'.cell? ⟨g, 31, none⟩ = some (.int .u64 (a : Int))) (by kernel_rfl) (STAY.out _ HDR.out) (fun hHeld => ?_)
  refine wpAnyH_take (i := 0) (oi := ⟨some 6, _, _, _, _, _⟩) (v := .pointer (some ⟨g, 0, none⟩)) rfl (by kernel_rfl) (by kernel_rfl) (by kernel_rfl) (fun _ _ _ h => h) (Or.inl ⟨by rfl, by intro WW hSw; (try dsimp only at hSw); go_simp⟩) (by assumption) ?_
  (try simp only [Act.put, List.setIfInBounds_toArray, List.set_cons_zero, List.set_cons_succ])
  refine wpAnyH_take (i := 1) (oi := ⟨some 7, _, _, _, _, _⟩) (v := .pointer (some ⟨g, 0, none⟩)) rfl (by kernel_rfl) (by kernel_rfl) (by kernel_rfl) (fun _ _ _ h => h) (Or.inl ⟨by rfl, by intro WW hSw; (try dsimp only at hSw); go_simp⟩) (by assumption) ?_
  (try simp only [Act.put, List.setIfInBounds_toArray, List.set_cons_zero, List.set_cons_succ])
  refine wpAnyH_take (i := 2) (oi := ⟨some 8, _, _, _, _, _⟩) (v := .pointer (some ⟨g, 0, none⟩)) rfl (by kernel_rfl) (by kernel_rfl) (by kernel_rfl) (fun _ _ _ h => h) (Or.inl ⟨by rfl, by intro WW hSw; (try dsimp only at hSw); go_simp⟩) (by assumption) ?_
  (try simp only [Act.put, List.setIfInBounds_toArray, List.set_cons_zero, List.set_cons_succ])
  refine wpAnyH_take (i := 3) (oi := ⟨some 9, _, _, _, _, _⟩) (v := .pointer (some ⟨g, 0, none⟩)) rfl (by kernel_rfl) (by kernel_rfl) (by kernel_rfl) (fun _ _ _ h => h) (Or.inl ⟨by rfl, by intro WW hSw; (try dsimp only at hSw); go_simp⟩) (by assumption) ?_
  (try simp only [Act.put, List.setIfInBounds_toArray, List.set_cons_zero, List.set_cons_succ])
  refine wpAnyH_take (i := 4) (oi := ⟨some 10, _, _, _, _, _⟩) (v := .pointer (some ⟨g, 0, none⟩)) rfl (by kernel_rfl) (by kernel_rfl) (by kernel_rfl) (fun _ _ _ h => h) (Or.inl ⟨by rfl, by intro WW hSw; (try dsimp only at hSw); go_simp⟩) (by assumption) ?_
  (try simp only [Act.put, List.setIfInBounds_toArray, List.set_cons_zero, List.set_cons_succ])
  refine wpAnyH_take (i := 5) (oi := ⟨some 11, _, _, _, _, _⟩) (v := .pointer (some ⟨g, 5, none⟩)) rfl (by kernel_rfl) (by kernel_rfl) (by kernel_rfl) (fun _ _ _ h => h) (Or.inl ⟨by rfl, by intro WW hSw; (try dsimp only at hSw); go_simp⟩) (by assumption) ?_
  (try simp only [Act.put, List.setIfInBounds_toArray, List.set_cons_zero, List.set_cons_succ])
  refine wpAnyH_take (i := 6) (oi := ⟨some 12, _, _, _, _, _⟩) (v := .pointer (some ⟨g, 29, none⟩)) rfl (by kernel_rfl) (by kernel_rfl) (by kernel_rfl) (fun _ _ _ h => h) (Or.inl ⟨by rfl, by intro WW hSw; (try dsimp only at hSw); go_simp⟩) (by assumption) ?_
  (try simp only [Act.put, List.setIfInBounds_toArray, List.set_cons_zero, List.set_cons_succ])
  refine wpAnyH_take (i := 7) (oi := ⟨some 13, _, _, _, _, _⟩) (v := .pointer (some ⟨g, 31, none⟩)) rfl (by kernel_rfl) (by kernel_rfl) (by kernel_rfl) (fun _ _ _ h => h) (Or.inl ⟨by rfl, by intro WW hSw; (try dsimp only at hSw); go_simp⟩) (by assumption) ?_
  (try simp only [Act.put, List.setIfInBounds_toArray, List.set_cons_zero, List.set_cons_succ])
  refine wpAnyH_take (i := 8) (oi := ⟨some 14, _, _, _, _, _⟩) (v := .int .u64 (a : Int)) rfl (by kernel_rfl) (by kernel_rfl) (by kernel_rfl) (fun _ _ _ h => h) (Or.inl ⟨by rfl, by intro WW hSw; (try dsimp only at hSw); go_simp⟩) (by assumption) ?_
  (try simp only [Act.put, List.setIfInBounds_toArray, List.set_cons_zero, List.set_cons_succ])
  refine wpAnyH_one (i := 9) (oi := ⟨some 15, _, _, _, _, _⟩) rfl (by kernel_rfl) (fun K hK => ?_)
  refine step_calls (by rfl) 108 (fun args w => Tryz.call108 _ _) [.tmp 8, .tmp 14, .const (.int .i64 1)] _ rfl [.pointer (some ⟨g, 0, none⟩), .int .u64 (a : Int), .int .i64 1] rfl (HM.out) ?_
  rintro e w2 ⟨rfl, hq, hp⟩
  have HQ := Lib.hid hq
  have HP := Lib.hid hp
  clear hq hp HM
  refine ⟨_, rfl, hK _ _ (STQ.out _ HQ.out) (fun hSn => ?_)⟩
  clear hK K
  (try simp only [Act.put, List.setIfInBounds_toArray, List.set_cons_zero, List.set_cons_succ])
  refine wpAnyH_take (i := 10) (oi := ⟨some 5, _, _, _, _, _⟩) (v := .tuple #[.int .u64 v, .int .i64 kk]) rfl (by kernel_rfl) (by kernel_rfl) (by kernel_rfl) (fun _ _ _ h => h) (Or.inl ⟨by rfl, by intro WW hSw; (try dsimp only at hSw); go_simp⟩) (by assumption) ?_
  (try simp only [Act.put, List.setIfInBounds_toArray, List.set_cons_zero, List.set_cons_succ])
  refine wpAnyH_take (i := 11) (oi := ⟨some 16, _, _, _, _, _⟩) (v := .int .u64 v) rfl (by kernel_rfl) (by kernel_rfl) (by kernel_rfl) (fun _ _ _ h => h) (Or.inl ⟨by rfl, by intro WW hSw; (try dsimp only at hSw); go_simp⟩) (by assumption) ?_
  (try simp only [Act.put, List.setIfInBounds_toArray, List.set_cons_zero, List.set_cons_succ])
  refine wpAnyH_take (i := 12) (oi := ⟨some 17, _, _, _, _, _⟩) (v := .int .i64 kk) rfl (by kernel_rfl) (by kernel_rfl) (by kernel_rfl) (fun _ _ _ h => h) (Or.inl ⟨by rfl, by intro WW hSw; (try dsimp only at hSw); go_simp⟩) (by assumption) ?_
  (try simp only [Act.put, List.setIfInBounds_toArray, List.set_cons_zero, List.set_cons_succ])
  refine wpAnyH_take (i := 13) (oi := ⟨some 3, _, _, _, _, _⟩) (v := .int .u64 v) rfl (by kernel_rfl) (by kernel_rfl) (by kernel_rfl) (fun _ _ _ h => h) (Or.inl ⟨by rfl, by intro WW hSw; (try dsimp only at hSw); go_simp⟩) (by assumption) ?_
  (try simp only [Act.put, List.setIfInBounds_toArray, List.set_cons_zero, List.set_cons_succ])
  refine wpAnyH_take (i := 14) (oi := ⟨some 4, _, _, _, _, _⟩) (v := .int .i64 kk) rfl (by kernel_rfl) (by kernel_rfl) (by kernel_rfl) (fun _ _ _ h => h) (Or.inl ⟨by rfl, by intro WW hSw; (try dsimp only at hSw); go_simp⟩) (by assumption) ?_
  (try simp only [Act.put, List.setIfInBounds_toArray, List.set_cons_zero, List.set_cons_succ])
  refine wpAnyH_done (by kernel_rfl) ?_ _


  have c1 := (HQ.out.cell 1).trans HS.out.c1
  have c55 := (HQ.out.cell 55).trans HS.out.cl
  have f1 := HQ.out.free 1
  have f55 := HQ.out.free 55
  have HE := Lib.hid (show ∃ w1 cs', P w1 ∧ IsS cs' p (nextV 130 g) d k at' r wh wd v n ∧ SnSw w1 ((w2.setCell ⟨g, 55, none⟩ (.int .u64 v)).setCell ⟨g, 1, none⟩ (.func (.func 130) #[.pointer (some ⟨g, 0, none⟩)] #[])) g cs' from
    ⟨w2, _, HP.out, (HS.out.low v).next _, ((SnSw.refl HQ.out).set 55 _).set 1 _⟩)
  clear STQ hHeld hSn
  go_wp2
  go_ret
  exact ⟨rfl, HE.out⟩
/-- Whether both readings are one. -/
def sameR (r : Nat → Int) : Bool := (List.range 24).all fun j => r j == r (24 + j)
def rdL (r : Nat → Int) (o : Nat) : List Int := (List.range 24).map fun j => r (o + j)
theorem rdL_len (r : Nat → Int) (o : Nat) : (rdL r o).length = 24 := by simp [rdL]
theorem rdL_at (r : Nat → Int) (o : Nat) {j : Nat} (hj : j < 24) : wAt (rdL r o) j = r (o + j) := by
  unfold wAt rdL
  rw [List.getD_eq_getElem?_getD, List.getElem?_map, List.getElem?_range hj]
  rfl
theorem rdL_get (r : Nat → Int) (o : Nat) {j : Nat} (hj : j < 24) : ((rdL r o).map uw)[j]? = some (.int .u64 (r (o + j))) := by
  rw [wAt_get (rdL_len r o) hj, rdL_at r o hj]
theorem infUr : (Tryz.prog.info? 27).map (fun i => (i.zero, i.size, i.bytes)) = some (some (.int .u64 0), 1, 8) := by kernel_rfl
theorem celUr : Tryz.prog.cellsOf 27 = 1 := by kernel_rfl
theorem plnUr : Tryz.prog.plainKey 27 = true := by kernel_rfl
theorem itemsR (f g : Nat → Int) (xs ys : Array Value) (w : World) : ∀ is : List Nat, (∀ i ∈ is, xs[i]? = some (.int .u64 (f i)) ∧ ys[i]? = some (.int .u64 (g i))) → (Op.eqItems 9999 27 1 xs ys is).run Tryz.prog w = .ok (is.all fun i => f i == g i) w
  | [], _ => by simp [Op.eqItems]
  | i :: is, h => by
    obtain ⟨hx, hy⟩ := h i (by simp)
    have hp := run_part_plain (P := Tryz.prog) w plnUr (xs := xs) (off := i) hx
    have hq := run_part_plain (P := Tryz.prog) w plnUr (xs := ys) (off := i) hy
    have he := run_equalIn_int (P := Tryz.prog) w 9998 27 .u64 .u64 (f i) (g i) Tryz.underlying27
    have hi := itemsR f g xs ys w is (fun j hj => h j (by simp [hj]))
    cases hb : (f i == g i) <;> rw [hb] at he <;> simp [Op.eqItems, Sem.run_bind, Nat.mul_one, hp, hq, Result.andThen_ok, he, hb, hi, List.all_cons]
theorem neqR (r : Nat → Int) (w : World) : (binOp .neq 120 (.agg ((rdL r 0).map uw).toArray) (.agg ((rdL r 24).map uw).toArray)).run Tryz.prog w = .ok (.bool (!sameR r)) w := by
  obtain ⟨i0, hi0, hz0, hz1, hz2⟩ := info_parts infUr
  rw [run_neq_struct, run_equalIn_array (P := Tryz.prog) w 9999 _ _ Tryz.underlying120 hi0, celUr,
    itemsR (fun j => r j) (fun j => r (24 + j)) _ _ w _ (fun i hi => by
      have hi := List.mem_range.1 hi
      rw [List.getElem?_toArray, List.getElem?_toArray, rdL_get r 0 hi, rdL_get r 24 hi, Nat.zero_add]
      exact ⟨rfl, rfl⟩)]
  rfl
theorem rdI : (Tryz.prog.info? 120).map (·.size) = some 24 := by kernel_rfl
theorem rdRange {w : World} {g : Nat} {cs : Array Value} {p : Option Addr} {F : Value} {d : Bool} {k a wh wd lo : Int} {r : Nat → Int} {n : Nd} (hr : Row w g 123 cs) (hs : IsS cs p F d k a r wh wd lo n) (o : Nat) (ho : o ≤ 24) : w.rangeAt g (5 + o) ((rdL r o).map uw) := fun j v hv => by
  have hj : j < 24 := by have := (List.getElem?_eq_some_iff.1 hv).1; simpa [rdL] using this
  rw [rdL_get r o hj] at hv
  rw [hr.cell, show 5 + o + j = 5 + (o + j) by omega, hs.rr _ (by omega)]
  exact hv
end Go.Proofs.YtiefgmibgdidpaaGreatDoor
/- What a snapshot's last step does: Count once more; the node, if nothing has changed; for whatever the load answers. -/
namespace Go.Proofs.YtiefgmibgdidpaaGreatDoor
open Go.RowKit
set_option linter.unusedVariables false
attribute [local go_sem] Oper.semAt_some
/-- What follows the last word: anew, or done. -/
def enF (F : Value) (g : Nat) (r : Nat → Int) (kk : Int) : Value := if kk = 0 ∧ sameR r = true then F else nextV 89 g
def enD (d : Bool) (r : Nat → Int) (kk : Int) : Bool := if kk = 0 ∧ sameR r = true then true else d
def enN (n : Nd) (r : Nat → Int) (kk : Int) : Nd := if kk = 0 ∧ sameR r = true then (ofR (rdL r 24)).1 else n
def enK (r : Nat → Int) (kk : Int) : Int := if kk = 0 ∧ sameR r = true then (ofR (rdL r 24)).2 else kk
set_option maxRecDepth 100000 in
set_option maxHeartbeats 6400000 in
theorem end_any {w : World} {g a : Nat} {cs : Array Value} {p : Option Addr} {F : Value} {d : Bool} {k wh wd lo v kk : Int} {r : Nat → Int} {n : Nd} {P : World → Prop}
    (hr : Row w g 123 cs) (hs : IsS cs p F d k a r wh wd lo n) (ha : a < 18446744073709551616) (h24 : 0 ≤ r 24 ∧ r 24 < 18446744073709551616)
    (HL : ∀ W, Below w.heap.size w W → Calls Tryz.prog 65 #[.pointer p, .int .u64 ((snWordAt a 3 : Nat) : Int)] W fun e' w' => e' = .returned (.tuple #[.int .u64 v, .int .i64 kk]) ∧ LQ g cs P w') :
    Calls Tryz.prog 130 #[.pointer (some ⟨g, 0, none⟩)] w (FPost g P (enK (rput r 27 v) kk) (fun cs' => IsS cs' p (enF F g (rput r 27 v) kk) (enD d (rput r 27 v) kk) k a (rput r 27 v) wh wd lo (enN n (rput r 27 v) kk))) := by
  have mixed : Tryz.prog.follows .mixedOrders = true := by kernel_rfl
  have c0 := (hr.cell 0).trans hs.c0
  have HDR := Lib.hid (drew_below w)
  have STAY := Lib.hid (show ∀ W, Below w.heap.size w W → W.cell? ⟨g, 4, none⟩ = some (.int .u64 (a : Int)) from fun W hb => (hr.below hb hr.lt).cell 4 |>.trans hs.c4)
  have STQ := Lib.hid (show ∀ W, Row W g 123 cs → W.cell? ⟨g, 4, none⟩ = some (.int .u64 (a : Int)) from fun W h => (h.cell 4).trans hs.c4)
  have HM := Lib.hid (macLoad_any (k := 3) ((drew_below w).cell (block_lt_of_cell c0) |>.trans c0) ha (by decide) (HL _ (drew_below w)))
  have HS := Lib.hid hs
  have H24 := Lib.hid (show 0 ≤ wAt (rdL (rput r 27 v) 24) 0 ∧ wAt (rdL (rput r 27 v) 24) 0 < 18446744073709551616 from by rw [rdL_at _ _ (by omega)]; exact h24)
  have HSW := Lib.hid (show ∀ w2, Row w2 g 123 cs → ∃ cs3, SnSw w2 (w2.setCell ⟨g, 32, none⟩ (.int .u64 v)) g cs3 ∧ IsS cs3 p F d k a (rput r 27 v) wh wd lo n from fun w2 h => ⟨_, (SnSw.refl h).set 32 _, hs.rset (i := 27) (by omega) v⟩)
  obtain ⟨r', hr'⟩ : ∃ r', r' = rput r 27 v := ⟨_, rfl⟩
  rw [← hr'] at HSW H24 ⊢
  clear hr hs HL c0 ha h24 hr'
  by_cases hk : kk = 0
  · by_cases hsm : sameR r' = true
    · have HG := Lib.hid (show enF F g r' kk = F ∧ enD d r' kk = true ∧ enN n r' kk = (ofR (rdL r' 24)).1 ∧ enK r' kk = (ofR (rdL r' 24)).2 from by
        unfold enF enD enN enK
        simp only [hk, hsm, and_self, if_true])
      rw [HG.out.1, HG.out.2.1, HG.out.2.2.1, HG.out.2.2.2]
      have hnq := fun W => neqR r' W
      simp only [hsm, Bool.not_true] at hnq
      have HOF := Lib.hid fun W => nOf_any (rdL_len r' 24) H24.out W
      obtain ⟨m, hm⟩ : ∃ m, m = (ofR (rdL r' 24)).1 := ⟨_, rfl⟩
      obtain ⟨e1, he1⟩ : ∃ e1, e1 = (ofR (rdL r' 24)).2 := ⟨_, rfl⟩
      rw [← hm, ← he1] at HOF ⊢
      clear HG hsm H24 hm he1
      subst hk
      go_enter Tryz.func130, Tryz.ntmps130
      go_wp2_with fail
      refine wp_region_held_drew (S := fun W' => W'.cell? ⟨g, 4, none⟩ = some (.int .u64 (a : Int))) (by kernel_rfl) (STAY.out _ HDR.out) (fun hHeld => ?_)
      refine wpAnyH_take (i := 0) (oi := ⟨some 6, _, _, _, _, _⟩) (v := .pointer (some ⟨g, 0, none⟩)) rfl (by kernel_rfl) (by kernel_rfl) (by kernel_rfl) (fun _ _ _ h => h) (Or.inl ⟨by rfl, by intro WW hSw; (try dsimp only at hSw); go_simp⟩) (by assumption) ?_
      (try simp only [Act.put, List.setIfInBounds_toArray, List.set_cons_zero, List.set_cons_succ])
      refine wpAnyH_take (i := 1) (oi := ⟨some 7, _, _, _, _, _⟩) (v := .pointer (some ⟨g, 0, none⟩)) rfl (by kernel_rfl) (by kernel_rfl) (by kernel_rfl) (fun _ _ _ h => h) (Or.inl ⟨by rfl, by intro WW hSw; (try dsimp only at hSw); go_simp⟩) (by assumption) ?_
      (try simp only [Act.put, List.setIfInBounds_toArray, List.set_cons_zero, List.set_cons_succ])
      refine wpAnyH_take (i := 2) (oi := ⟨some 8, _, _, _, _, _⟩) (v := .pointer (some ⟨g, 0, none⟩)) rfl (by kernel_rfl) (by kernel_rfl) (by kernel_rfl) (fun _ _ _ h => h) (Or.inl ⟨by rfl, by intro WW hSw; (try dsimp only at hSw); go_simp⟩) (by assumption) ?_
      (try simp only [Act.put, List.setIfInBounds_toArray, List.set_cons_zero, List.set_cons_succ])
      refine wpAnyH_take (i := 3) (oi := ⟨some 9, _, _, _, _, _⟩) (v := .pointer (some ⟨g, 0, none⟩)) rfl (by kernel_rfl) (by kernel_rfl) (by kernel_rfl) (fun _ _ _ h => h) (Or.inl ⟨by rfl, by intro WW hSw; (try dsimp only at hSw); go_simp⟩) (by assumption) ?_
      (try simp only [Act.put, List.setIfInBounds_toArray, List.set_cons_zero, List.set_cons_succ])
      refine wpAnyH_take (i := 4) (oi := ⟨some 10, _, _, _, _, _⟩) (v := .pointer (some ⟨g, 0, none⟩)) rfl (by kernel_rfl) (by kernel_rfl) (by kernel_rfl) (fun _ _ _ h => h) (Or.inl ⟨by rfl, by intro WW hSw; (try dsimp only at hSw); go_simp⟩) (by assumption) ?_
      (try simp only [Act.put, List.setIfInBounds_toArray, List.set_cons_zero, List.set_cons_succ])
      refine wpAnyH_take (i := 5) (oi := ⟨some 11, _, _, _, _, _⟩) (v := .pointer (some ⟨g, 4, none⟩)) rfl (by kernel_rfl) (by kernel_rfl) (by kernel_rfl) (fun _ _ _ h => h) (Or.inl ⟨by rfl, by intro WW hSw; (try dsimp only at hSw); go_simp⟩) (by assumption) ?_
      (try simp only [Act.put, List.setIfInBounds_toArray, List.set_cons_zero, List.set_cons_succ])
      refine wpAnyH_take (i := 6) (oi := ⟨some 12, _, _, _, _, _⟩) (v := .int .u64 (a : Int)) rfl (by kernel_rfl) (by kernel_rfl) (by kernel_rfl) (fun _ _ _ h => h) (Or.inl ⟨by rfl, by intro WW hSw; (try dsimp only at hSw); go_simp⟩) (by assumption) ?_
      (try simp only [Act.put, List.setIfInBounds_toArray, List.set_cons_zero, List.set_cons_succ])
      refine wpAnyH_one (i := 7) (oi := ⟨some 13, _, _, _, _, _⟩) rfl (by kernel_rfl) (fun K hK => ?_)
      refine step_calls (by rfl) 108 (fun args w => Tryz.call108 _ _) [.tmp 8, .tmp 12, .const (.int .i64 3)] _ rfl [.pointer (some ⟨g, 0, none⟩), .int .u64 (a : Int), .int .i64 3] rfl (HM.out) ?_
      rintro e w2 ⟨rfl, hq, hp⟩
      have HQ := Lib.hid hq
      have HP := Lib.hid hp
      clear hq hp HM
      refine ⟨_, rfl, hK _ _ (STQ.out _ HQ.out) (fun hSn => ?_)⟩
      clear hK K
      (try simp only [Act.put, List.setIfInBounds_toArray, List.set_cons_zero, List.set_cons_succ])
      refine wpAnyH_take (i := 8) (oi := ⟨some 5, _, _, _, _, _⟩) (v := .tuple #[.int .u64 v, .int .i64 0]) rfl (by kernel_rfl) (by kernel_rfl) (by kernel_rfl) (fun _ _ _ h => h) (Or.inl ⟨by rfl, by intro WW hSw; (try dsimp only at hSw); go_simp⟩) (by assumption) ?_
      (try simp only [Act.put, List.setIfInBounds_toArray, List.set_cons_zero, List.set_cons_succ])
      refine wpAnyH_take (i := 9) (oi := ⟨some 14, _, _, _, _, _⟩) (v := .int .u64 v) rfl (by kernel_rfl) (by kernel_rfl) (by kernel_rfl) (fun _ _ _ h => h) (Or.inl ⟨by rfl, by intro WW hSw; (try dsimp only at hSw); go_simp⟩) (by assumption) ?_
      (try simp only [Act.put, List.setIfInBounds_toArray, List.set_cons_zero, List.set_cons_succ])
      refine wpAnyH_take (i := 10) (oi := ⟨some 15, _, _, _, _, _⟩) (v := .int .i64 0) rfl (by kernel_rfl) (by kernel_rfl) (by kernel_rfl) (fun _ _ _ h => h) (Or.inl ⟨by rfl, by intro WW hSw; (try dsimp only at hSw); go_simp⟩) (by assumption) ?_
      (try simp only [Act.put, List.setIfInBounds_toArray, List.set_cons_zero, List.set_cons_succ])
      refine wpAnyH_take (i := 11) (oi := ⟨some 3, _, _, _, _, _⟩) (v := .int .u64 v) rfl (by kernel_rfl) (by kernel_rfl) (by kernel_rfl) (fun _ _ _ h => h) (Or.inl ⟨by rfl, by intro WW hSw; (try dsimp only at hSw); go_simp⟩) (by assumption) ?_
      (try simp only [Act.put, List.setIfInBounds_toArray, List.set_cons_zero, List.set_cons_succ])
      refine wpAnyH_take (i := 12) (oi := ⟨some 4, _, _, _, _, _⟩) (v := .int .i64 0) rfl (by kernel_rfl) (by kernel_rfl) (by kernel_rfl) (fun _ _ _ h => h) (Or.inl ⟨by rfl, by intro WW hSw; (try dsimp only at hSw); go_simp⟩) (by assumption) ?_
      (try simp only [Act.put, List.setIfInBounds_toArray, List.set_cons_zero, List.set_cons_succ])
      refine wpAnyH_done (by kernel_rfl) ?_ _

      clear STQ hHeld hSn STAY HDR
      have c32 := (HQ.out.cell 32).trans (HS.out.rr 27 (by omega))
      have f32 := HQ.out.free 32
      obtain ⟨cs3, S3, I3⟩ := HSW.out _ HQ.out
      obtain ⟨W3, hW3⟩ : ∃ W3, W3 = w2.setCell ⟨g, 32, none⟩ (.int .u64 v) := ⟨_, rfl⟩
      rw [← hW3] at S3
      have HS3 := Lib.hid S3
      have HI3 := Lib.hid I3
      clear HSW HS
      have hR0 := Lib.hid (fun (w' : World) (h : ∃ q : LowBy W3, w' = q.W) => (show w'.rangeAt g 5 ((rdL r' 0).map uw) by obtain ⟨q, rfl⟩ := h; exact rdRange (S3.row.below q.low S3.row.lt) I3 0 (by omega)))
      have hR1 := Lib.hid (fun (w' : World) (h : ∃ q : LowBy W3, w' = q.W) => (show w'.rangeAt g 29 ((rdL r' 24).map uw) by obtain ⟨q, rfl⟩ := h; exact rdRange (S3.row.below q.low S3.row.lt) I3 24 (by omega)))
      have HF := Lib.hid (fun q : LowBy W3 => (show SnSw w2 q.W g cs3 from S3.below q.low))
      clear S3 I3
      go_wp2_with fail
      rw [← hW3]
      clear hW3 c32 f32
      refine wp_region_quiet_low (by assumption) (by kernel_rfl) ?_
      repeat (first | go_big_quiet_skip | (go_big_quiet_want; first | (refine quiet_load_mid 120 _ rfl g 5 rfl ((rdL r' 0).map uw) _ hR0.out Tryz.underlying120 rfl (by rw [List.length_map, rdL_len]; exact rdI) ?_; simp only [Act.put, List.setIfInBounds_toArray, List.set_cons_succ, List.set_cons_zero]; go_big_quiet_on) | (refine quiet_load_mid 120 _ rfl g 29 rfl ((rdL r' 24).map uw) _ hR1.out Tryz.underlying120 rfl (by rw [List.length_map, rdL_len]; exact rdI) ?_; simp only [Act.put, List.setIfInBounds_toArray, List.set_cons_succ, List.set_cons_zero]; go_big_quiet_on) | (go_big_quiet_op; first | go_big_quiet_on)))
      refine wpQuiet_nil ?_
      intro _ hw'
      obtain ⟨q, hw''⟩ := hw'
      subst hw''
      have S4 := HF.out q
      have d2 := (S4.row.cell 2).trans HI3.out.c2
      have g2 := S4.row.free 2
      obtain ⟨W4, hW4⟩ : ∃ W4, W4 = q.W := ⟨_, rfl⟩
      rw [← hW4] at S4 d2 g2 ⊢
      have S5 := S4.set 2 (.bool true)
      have I5 := HI3.out.done true
      obtain ⟨W5, hW5⟩ : ∃ W5, W5 = W4.setCell ⟨g, 2, none⟩ (.bool true) := ⟨_, rfl⟩
      rw [← hW5] at S5
      have HS5 := Lib.hid S5
      have HI5 := Lib.hid I5
      have hR5 := Lib.hid (rdRange S5.row I5 24 (by omega))
      clear HF hR0 hR1 hW4 S4 S5 I5 hnq HS3 HI3
      have HW5 := Lib.hid hW5
      clear hW5
      go_wp2_with (first
        | (rw [← HW5.out])
        | (refine wpList_load_mid rfl _ _ rfl g 29 rfl ((rdL r' 24).map uw) _ hR5.out Tryz.underlying120 rfl (by rw [List.length_map, rdL_len]; exact rdI) ?_)
        | ((with_reducible refine (HOF.out _).mono ?_); rintro e w6 ⟨rfl, h6⟩; have HS6 := Lib.hid (HS5.out.below h6))
        | (refine wpList_store_mid rfl _ _ _ rfl g 56 m.cl.toArray rfl rfl (rowThere HS6.out.row (by rw [HI5.out.sz]; show 56 + m.cl.toArray.size ≤ 77; exact Nat.le_refl _)) (by exact ndI) (all_oneCell_toArray (cl_one m)) ?_))
      go_ret
      exact ⟨rfl, w2, _, HP.out, HI5.out.node m, HS6.out.setAll 56 m.cl⟩
    · have hno : ¬ (kk = 0 ∧ sameR r' = true) := fun h => hsm h.2
      have HG := Lib.hid (show enF F g r' kk = nextV 89 g ∧ enD d r' kk = d ∧ enN n r' kk = n ∧ enK r' kk = kk from by
        unfold enF enD enN enK
        rw [if_neg hno, if_neg hno, if_neg hno, if_neg hno]
        exact ⟨rfl, rfl, rfl, rfl⟩)
      rw [HG.out.1, HG.out.2.1, HG.out.2.2.1, HG.out.2.2.2]
      clear HG H24
      have hnq := fun W => neqR r' W
      have hsm' : sameR r' = false := by simpa using hsm
      simp only [hsm', Bool.not_false] at hnq
      subst hk
      clear hno hsm hsm'
      go_enter Tryz.func130, Tryz.ntmps130
      go_wp2_with fail
      refine wp_region_held_drew (S := fun W' => W'.cell? ⟨g, 4, none⟩ = some (.int .u64 (a : Int))) (by kernel_rfl) (STAY.out _ HDR.out) (fun hHeld => ?_)
      refine wpAnyH_take (i := 0) (oi := ⟨some 6, _, _, _, _, _⟩) (v := .pointer (some ⟨g, 0, none⟩)) rfl (by kernel_rfl) (by kernel_rfl) (by kernel_rfl) (fun _ _ _ h => h) (Or.inl ⟨by rfl, by intro WW hSw; (try dsimp only at hSw); go_simp⟩) (by assumption) ?_
      (try simp only [Act.put, List.setIfInBounds_toArray, List.set_cons_zero, List.set_cons_succ])
      refine wpAnyH_take (i := 1) (oi := ⟨some 7, _, _, _, _, _⟩) (v := .pointer (some ⟨g, 0, none⟩)) rfl (by kernel_rfl) (by kernel_rfl) (by kernel_rfl) (fun _ _ _ h => h) (Or.inl ⟨by rfl, by intro WW hSw; (try dsimp only at hSw); go_simp⟩) (by assumption) ?_
      (try simp only [Act.put, List.setIfInBounds_toArray, List.set_cons_zero, List.set_cons_succ])
      refine wpAnyH_take (i := 2) (oi := ⟨some 8, _, _, _, _, _⟩) (v := .pointer (some ⟨g, 0, none⟩)) rfl (by kernel_rfl) (by kernel_rfl) (by kernel_rfl) (fun _ _ _ h => h) (Or.inl ⟨by rfl, by intro WW hSw; (try dsimp only at hSw); go_simp⟩) (by assumption) ?_
      (try simp only [Act.put, List.setIfInBounds_toArray, List.set_cons_zero, List.set_cons_succ])
      refine wpAnyH_take (i := 3) (oi := ⟨some 9, _, _, _, _, _⟩) (v := .pointer (some ⟨g, 0, none⟩)) rfl (by kernel_rfl) (by kernel_rfl) (by kernel_rfl) (fun _ _ _ h => h) (Or.inl ⟨by rfl, by intro WW hSw; (try dsimp only at hSw); go_simp⟩) (by assumption) ?_
      (try simp only [Act.put, List.setIfInBounds_toArray, List.set_cons_zero, List.set_cons_succ])
      refine wpAnyH_take (i := 4) (oi := ⟨some 10, _, _, _, _, _⟩) (v := .pointer (some ⟨g, 0, none⟩)) rfl (by kernel_rfl) (by kernel_rfl) (by kernel_rfl) (fun _ _ _ h => h) (Or.inl ⟨by rfl, by intro WW hSw; (try dsimp only at hSw); go_simp⟩) (by assumption) ?_
      (try simp only [Act.put, List.setIfInBounds_toArray, List.set_cons_zero, List.set_cons_succ])
      refine wpAnyH_take (i := 5) (oi := ⟨some 11, _, _, _, _, _⟩) (v := .pointer (some ⟨g, 4, none⟩)) rfl (by kernel_rfl) (by kernel_rfl) (by kernel_rfl) (fun _ _ _ h => h) (Or.inl ⟨by rfl, by intro WW hSw; (try dsimp only at hSw); go_simp⟩) (by assumption) ?_
      (try simp only [Act.put, List.setIfInBounds_toArray, List.set_cons_zero, List.set_cons_succ])
      refine wpAnyH_take (i := 6) (oi := ⟨some 12, _, _, _, _, _⟩) (v := .int .u64 (a : Int)) rfl (by kernel_rfl) (by kernel_rfl) (by kernel_rfl) (fun _ _ _ h => h) (Or.inl ⟨by rfl, by intro WW hSw; (try dsimp only at hSw); go_simp⟩) (by assumption) ?_
      (try simp only [Act.put, List.setIfInBounds_toArray, List.set_cons_zero, List.set_cons_succ])
      refine wpAnyH_one (i := 7) (oi := ⟨some 13, _, _, _, _, _⟩) rfl (by kernel_rfl) (fun K hK => ?_)
      refine step_calls (by rfl) 108 (fun args w => Tryz.call108 _ _) [.tmp 8, .tmp 12, .const (.int .i64 3)] _ rfl [.pointer (some ⟨g, 0, none⟩), .int .u64 (a : Int), .int .i64 3] rfl (HM.out) ?_
      rintro e w2 ⟨rfl, hq, hp⟩
      have HQ := Lib.hid hq
      have HP := Lib.hid hp
      clear hq hp HM
      refine ⟨_, rfl, hK _ _ (STQ.out _ HQ.out) (fun hSn => ?_)⟩
      clear hK K
      (try simp only [Act.put, List.setIfInBounds_toArray, List.set_cons_zero, List.set_cons_succ])
      refine wpAnyH_take (i := 8) (oi := ⟨some 5, _, _, _, _, _⟩) (v := .tuple #[.int .u64 v, .int .i64 0]) rfl (by kernel_rfl) (by kernel_rfl) (by kernel_rfl) (fun _ _ _ h => h) (Or.inl ⟨by rfl, by intro WW hSw; (try dsimp only at hSw); go_simp⟩) (by assumption) ?_
      (try simp only [Act.put, List.setIfInBounds_toArray, List.set_cons_zero, List.set_cons_succ])
      refine wpAnyH_take (i := 9) (oi := ⟨some 14, _, _, _, _, _⟩) (v := .int .u64 v) rfl (by kernel_rfl) (by kernel_rfl) (by kernel_rfl) (fun _ _ _ h => h) (Or.inl ⟨by rfl, by intro WW hSw; (try dsimp only at hSw); go_simp⟩) (by assumption) ?_
      (try simp only [Act.put, List.setIfInBounds_toArray, List.set_cons_zero, List.set_cons_succ])
      refine wpAnyH_take (i := 10) (oi := ⟨some 15, _, _, _, _, _⟩) (v := .int .i64 0) rfl (by kernel_rfl) (by kernel_rfl) (by kernel_rfl) (fun _ _ _ h => h) (Or.inl ⟨by rfl, by intro WW hSw; (try dsimp only at hSw); go_simp⟩) (by assumption) ?_
      (try simp only [Act.put, List.setIfInBounds_toArray, List.set_cons_zero, List.set_cons_succ])
      refine wpAnyH_take (i := 11) (oi := ⟨some 3, _, _, _, _, _⟩) (v := .int .u64 v) rfl (by kernel_rfl) (by kernel_rfl) (by kernel_rfl) (fun _ _ _ h => h) (Or.inl ⟨by rfl, by intro WW hSw; (try dsimp only at hSw); go_simp⟩) (by assumption) ?_
      (try simp only [Act.put, List.setIfInBounds_toArray, List.set_cons_zero, List.set_cons_succ])
      refine wpAnyH_take (i := 12) (oi := ⟨some 4, _, _, _, _, _⟩) (v := .int .i64 0) rfl (by kernel_rfl) (by kernel_rfl) (by kernel_rfl) (fun _ _ _ h => h) (Or.inl ⟨by rfl, by intro WW hSw; (try dsimp only at hSw); go_simp⟩) (by assumption) ?_
      (try simp only [Act.put, List.setIfInBounds_toArray, List.set_cons_zero, List.set_cons_succ])
      refine wpAnyH_done (by kernel_rfl) ?_ _

      clear STQ hHeld hSn STAY HDR
      have c32 := (HQ.out.cell 32).trans (HS.out.rr 27 (by omega))
      have f32 := HQ.out.free 32
      obtain ⟨cs3, S3, I3⟩ := HSW.out _ HQ.out
      obtain ⟨W3, hW3⟩ : ∃ W3, W3 = w2.setCell ⟨g, 32, none⟩ (.int .u64 v) := ⟨_, rfl⟩
      rw [← hW3] at S3
      have HS3 := Lib.hid S3
      have HI3 := Lib.hid I3
      clear HSW HS
      have hR0 := Lib.hid (fun (w' : World) (h : ∃ q : LowBy W3, w' = q.W) => (show w'.rangeAt g 5 ((rdL r' 0).map uw) by obtain ⟨q, rfl⟩ := h; exact rdRange (S3.row.below q.low S3.row.lt) I3 0 (by omega)))
      have hR1 := Lib.hid (fun (w' : World) (h : ∃ q : LowBy W3, w' = q.W) => (show w'.rangeAt g 29 ((rdL r' 24).map uw) by obtain ⟨q, rfl⟩ := h; exact rdRange (S3.row.below q.low S3.row.lt) I3 24 (by omega)))
      have HF := Lib.hid (fun q : LowBy W3 => (show SnSw w2 q.W g cs3 from S3.below q.low))
      clear S3 I3
      go_wp2_with fail
      rw [← hW3]
      clear hW3 c32 f32
      refine wp_region_quiet_low (by assumption) (by kernel_rfl) ?_
      repeat (first | go_big_quiet_skip | (go_big_quiet_want; first | (refine quiet_load_mid 120 _ rfl g 5 rfl ((rdL r' 0).map uw) _ hR0.out Tryz.underlying120 rfl (by rw [List.length_map, rdL_len]; exact rdI) ?_; simp only [Act.put, List.setIfInBounds_toArray, List.set_cons_succ, List.set_cons_zero]; go_big_quiet_on) | (refine quiet_load_mid 120 _ rfl g 29 rfl ((rdL r' 24).map uw) _ hR1.out Tryz.underlying120 rfl (by rw [List.length_map, rdL_len]; exact rdI) ?_; simp only [Act.put, List.setIfInBounds_toArray, List.set_cons_succ, List.set_cons_zero]; go_big_quiet_on) | (go_big_quiet_op; first | go_big_quiet_on)))
      refine wpQuiet_nil ?_
      intro _ hw'
      obtain ⟨q, hw''⟩ := hw'
      subst hw''
      have S4 := HF.out q
      clear hR0 hR1 hnq
      have d1 := (S4.row.cell 1).trans HI3.out.c1
      have g1 := S4.row.free 1
      have HE := Lib.hid (show ∃ w1 cs', P w1 ∧ IsS cs' p (nextV 89 g) d k a r' wh wd lo n ∧ SnSw w1 (q.W.setCell ⟨g, 1, none⟩ (.func (.func 89) #[.pointer (some ⟨g, 0, none⟩)] #[])) g cs' from
        ⟨w2, _, HP.out, HI3.out.next _, S4.set 1 _⟩)
      clear HF S4 HS3 HI3
      go_wp2
      go_ret
      exact ⟨rfl, HE.out⟩
  · have hno : ¬ (kk = 0 ∧ sameR r' = true) := fun h => hk h.1
    have HG := Lib.hid (show enF F g r' kk = nextV 89 g ∧ enD d r' kk = d ∧ enN n r' kk = n ∧ enK r' kk = kk from by
      unfold enF enD enN enK
      rw [if_neg hno, if_neg hno, if_neg hno, if_neg hno]
      exact ⟨rfl, rfl, rfl, rfl⟩)
    rw [HG.out.1, HG.out.2.1, HG.out.2.2.1, HG.out.2.2.2]
    clear HG H24
    have hk' : (kk != 0) = true := by simpa using hk
    clear hno hk
    go_enter Tryz.func130, Tryz.ntmps130
    go_wp2_with fail
    refine wp_region_held_drew (S := fun W' => W'.cell? ⟨g, 4, none⟩ = some (.int .u64 (a : Int))) (by kernel_rfl) (STAY.out _ HDR.out) (fun hHeld => ?_)
    refine wpAnyH_take (i := 0) (oi := ⟨some 6, _, _, _, _, _⟩) (v := .pointer (some ⟨g, 0, none⟩)) rfl (by kernel_rfl) (by kernel_rfl) (by kernel_rfl) (fun _ _ _ h => h) (Or.inl ⟨by rfl, by intro WW hSw; (try dsimp only at hSw); go_simp⟩) (by assumption) ?_
    (try simp only [Act.put, List.setIfInBounds_toArray, List.set_cons_zero, List.set_cons_succ])
    refine wpAnyH_take (i := 1) (oi := ⟨some 7, _, _, _, _, _⟩) (v := .pointer (some ⟨g, 0, none⟩)) rfl (by kernel_rfl) (by kernel_rfl) (by kernel_rfl) (fun _ _ _ h => h) (Or.inl ⟨by rfl, by intro WW hSw; (try dsimp only at hSw); go_simp⟩) (by assumption) ?_
    (try simp only [Act.put, List.setIfInBounds_toArray, List.set_cons_zero, List.set_cons_succ])
    refine wpAnyH_take (i := 2) (oi := ⟨some 8, _, _, _, _, _⟩) (v := .pointer (some ⟨g, 0, none⟩)) rfl (by kernel_rfl) (by kernel_rfl) (by kernel_rfl) (fun _ _ _ h => h) (Or.inl ⟨by rfl, by intro WW hSw; (try dsimp only at hSw); go_simp⟩) (by assumption) ?_
    (try simp only [Act.put, List.setIfInBounds_toArray, List.set_cons_zero, List.set_cons_succ])
    refine wpAnyH_take (i := 3) (oi := ⟨some 9, _, _, _, _, _⟩) (v := .pointer (some ⟨g, 0, none⟩)) rfl (by kernel_rfl) (by kernel_rfl) (by kernel_rfl) (fun _ _ _ h => h) (Or.inl ⟨by rfl, by intro WW hSw; (try dsimp only at hSw); go_simp⟩) (by assumption) ?_
    (try simp only [Act.put, List.setIfInBounds_toArray, List.set_cons_zero, List.set_cons_succ])
    refine wpAnyH_take (i := 4) (oi := ⟨some 10, _, _, _, _, _⟩) (v := .pointer (some ⟨g, 0, none⟩)) rfl (by kernel_rfl) (by kernel_rfl) (by kernel_rfl) (fun _ _ _ h => h) (Or.inl ⟨by rfl, by intro WW hSw; (try dsimp only at hSw); go_simp⟩) (by assumption) ?_
    (try simp only [Act.put, List.setIfInBounds_toArray, List.set_cons_zero, List.set_cons_succ])
    refine wpAnyH_take (i := 5) (oi := ⟨some 11, _, _, _, _, _⟩) (v := .pointer (some ⟨g, 4, none⟩)) rfl (by kernel_rfl) (by kernel_rfl) (by kernel_rfl) (fun _ _ _ h => h) (Or.inl ⟨by rfl, by intro WW hSw; (try dsimp only at hSw); go_simp⟩) (by assumption) ?_
    (try simp only [Act.put, List.setIfInBounds_toArray, List.set_cons_zero, List.set_cons_succ])
    refine wpAnyH_take (i := 6) (oi := ⟨some 12, _, _, _, _, _⟩) (v := .int .u64 (a : Int)) rfl (by kernel_rfl) (by kernel_rfl) (by kernel_rfl) (fun _ _ _ h => h) (Or.inl ⟨by rfl, by intro WW hSw; (try dsimp only at hSw); go_simp⟩) (by assumption) ?_
    (try simp only [Act.put, List.setIfInBounds_toArray, List.set_cons_zero, List.set_cons_succ])
    refine wpAnyH_one (i := 7) (oi := ⟨some 13, _, _, _, _, _⟩) rfl (by kernel_rfl) (fun K hK => ?_)
    refine step_calls (by rfl) 108 (fun args w => Tryz.call108 _ _) [.tmp 8, .tmp 12, .const (.int .i64 3)] _ rfl [.pointer (some ⟨g, 0, none⟩), .int .u64 (a : Int), .int .i64 3] rfl (HM.out) ?_
    rintro e w2 ⟨rfl, hq, hp⟩
    have HQ := Lib.hid hq
    have HP := Lib.hid hp
    clear hq hp HM
    refine ⟨_, rfl, hK _ _ (STQ.out _ HQ.out) (fun hSn => ?_)⟩
    clear hK K
    (try simp only [Act.put, List.setIfInBounds_toArray, List.set_cons_zero, List.set_cons_succ])
    refine wpAnyH_take (i := 8) (oi := ⟨some 5, _, _, _, _, _⟩) (v := .tuple #[.int .u64 v, .int .i64 kk]) rfl (by kernel_rfl) (by kernel_rfl) (by kernel_rfl) (fun _ _ _ h => h) (Or.inl ⟨by rfl, by intro WW hSw; (try dsimp only at hSw); go_simp⟩) (by assumption) ?_
    (try simp only [Act.put, List.setIfInBounds_toArray, List.set_cons_zero, List.set_cons_succ])
    refine wpAnyH_take (i := 9) (oi := ⟨some 14, _, _, _, _, _⟩) (v := .int .u64 v) rfl (by kernel_rfl) (by kernel_rfl) (by kernel_rfl) (fun _ _ _ h => h) (Or.inl ⟨by rfl, by intro WW hSw; (try dsimp only at hSw); go_simp⟩) (by assumption) ?_
    (try simp only [Act.put, List.setIfInBounds_toArray, List.set_cons_zero, List.set_cons_succ])
    refine wpAnyH_take (i := 10) (oi := ⟨some 15, _, _, _, _, _⟩) (v := .int .i64 kk) rfl (by kernel_rfl) (by kernel_rfl) (by kernel_rfl) (fun _ _ _ h => h) (Or.inl ⟨by rfl, by intro WW hSw; (try dsimp only at hSw); go_simp⟩) (by assumption) ?_
    (try simp only [Act.put, List.setIfInBounds_toArray, List.set_cons_zero, List.set_cons_succ])
    refine wpAnyH_take (i := 11) (oi := ⟨some 3, _, _, _, _, _⟩) (v := .int .u64 v) rfl (by kernel_rfl) (by kernel_rfl) (by kernel_rfl) (fun _ _ _ h => h) (Or.inl ⟨by rfl, by intro WW hSw; (try dsimp only at hSw); go_simp⟩) (by assumption) ?_
    (try simp only [Act.put, List.setIfInBounds_toArray, List.set_cons_zero, List.set_cons_succ])
    refine wpAnyH_take (i := 12) (oi := ⟨some 4, _, _, _, _, _⟩) (v := .int .i64 kk) rfl (by kernel_rfl) (by kernel_rfl) (by kernel_rfl) (fun _ _ _ h => h) (Or.inl ⟨by rfl, by intro WW hSw; (try dsimp only at hSw); go_simp⟩) (by assumption) ?_
    (try simp only [Act.put, List.setIfInBounds_toArray, List.set_cons_zero, List.set_cons_succ])
    refine wpAnyH_done (by kernel_rfl) ?_ _

    clear STQ hHeld hSn STAY HDR
    have c32 := (HQ.out.cell 32).trans (HS.out.rr 27 (by omega))
    have f32 := HQ.out.free 32
    obtain ⟨cs3, S3, I3⟩ := HSW.out _ HQ.out
    obtain ⟨W3, hW3⟩ : ∃ W3, W3 = w2.setCell ⟨g, 32, none⟩ (.int .u64 v) := ⟨_, rfl⟩
    rw [← hW3] at S3
    have HS3 := Lib.hid S3
    have HI3 := Lib.hid I3
    clear HSW HS
    have HF := Lib.hid (fun q : LowBy W3 => (show SnSw w2 q.W g cs3 from S3.below q.low))
    clear S3 I3
    go_wp2_with fail
    rw [← hW3]
    clear hW3 c32 f32
    refine wp_region_quiet_low (by assumption) (by kernel_rfl) ?_
    repeat (go_big_quiet_step (fail))
    refine wpQuiet_nil ?_
    intro _ hw'
    obtain ⟨q, hw''⟩ := hw'
    subst hw''
    have S4 := HF.out q
    have d1 := (S4.row.cell 1).trans HI3.out.c1
    have g1 := S4.row.free 1
    have HE := Lib.hid (show ∃ w1 cs', P w1 ∧ IsS cs' p (nextV 89 g) d k a r' wh wd lo n ∧ SnSw w1 (q.W.setCell ⟨g, 1, none⟩ (.func (.func 89) #[.pointer (some ⟨g, 0, none⟩)] #[])) g cs' from
      ⟨w2, _, HP.out, HI3.out.next _, S4.set 1 _⟩)
    clear HF S4 HS3 HI3
    go_wp2
    go_ret
    exact ⟨rfl, HE.out⟩
end Go.Proofs.YtiefgmibgdidpaaGreatDoor
/- A run's step where there is no memory, or no such client; a run's stores that are left; without conditions. -/
namespace Go.Proofs.YtiefgmibgdidpaaGreatDoor
open Go.RowKit Go.Shelf
set_option linter.unusedVariables false
attribute [local go_sem] Oper.semAt_some
end Go.Proofs.YtiefgmibgdidpaaGreatDoor
/- What a run does next: a store, a flush, a fence, the end; for stores that may be. -/
namespace Go.Proofs.YtiefgmibgdidpaaGreatDoor
open Go.RowKit Go.Shelf
set_option linter.unusedVariables false
attribute [local go_sem] Oper.semAt_some

/-- What a step of a run turns: the memory's blocks, the run's own; new ones may come. -/
structure RT (w w' : World) (y y' : Lay) (rg : Nat) : Prop where
  g : y'.g = y.g
  but : But w w' (fun k => y.fp k ∨ k = rg)
  fp : ∀ k, y'.fp k → y.fp k ∨ w.heap.size ≤ k
theorem RT.of_turn {w w' : World} {y y' : Lay} (rg : Nat) (t : Turn w w' y y') : RT w w' y y' rg := ⟨t.g, t.but.mono fun k h => .inl h, t.fp⟩
theorem RT.trans {w w1 w2 : World} {y y1 y2 : Lay} {rg : Nat} (h : RT w w1 y y1 rg) (h2 : RT w1 w2 y1 y2 rg) : RT w w2 y y2 rg :=
  ⟨h2.g.trans h.g, h.but.trans h2.but fun k hk => by
    rcases hk with hk | hk
    · rcases h.fp k hk with h3 | h3
      · exact .inl (.inl h3)
      · exact .inr h3
    · exact .inl (.inr hk), fun k hk => by
    rcases h2.fp k hk with h3 | h3
    · exact h.fp k h3
    · exact .inr (Nat.le_trans h.but.size h3)⟩
theorem RT.set {w : World} (y : Lay) (rg i : Nat) (u : Value) : RT w (w.setCell ⟨rg, i, none⟩ u) y y rg := ⟨rfl, (But.refl w _).set (.inr rfl) u, fun _ h => .inl h⟩
theorem RT.of_below {w w' : World} (y : Lay) (rg : Nat) (h : Below w.heap.size w w') : RT w w' y y rg := ⟨rfl, But.of_below h _, fun _ h => .inl h⟩
theorem MemAt.rset {w : World} {y : Lay} {s : St} (h : MemAt w y s) {rg : Nat} (hn : ¬ y.fp rg) (i : Nat) (u : Value) : MemAt (w.setCell ⟨rg, i, none⟩ u) y s :=
  h.same fun k hk => heap_setCell_other w _ k u (fun e => hn (by have e' : k = rg := e; rw [← e']; exact hk))

end Go.Proofs.YtiefgmibgdidpaaGreatDoor
