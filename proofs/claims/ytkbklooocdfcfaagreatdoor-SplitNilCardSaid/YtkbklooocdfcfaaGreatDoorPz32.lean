/- Texts of this claim, packed: HoS, SpS, SpA, HoA, HoB, HoC, HoD, HoM, SpRd. -/
import Derived.Test.YtkbklooocdfcfaaGreatDoorPzQ
import Derived.Test.YtkbklooocdfcfaaGreatDoorPz26
import Derived.Test.YtkbklooocdfcfaaGreatDoorPz29
import Derived.Test.YtkbklooocdfcfaaGreatDoorPz08
import Derived.Test.YtkbklooocdfcfaaGreatDoorPz30
import Derived.Test.YtkbklooocdfcfaaGreatDoorPz03
import Derived.Test.YtkbklooocdfcfaaGreatDoorPz19
import Derived.Test.YtkbklooocdfcfaaGreatDoorPz24
import Derived.Test.YtkbklooocdfcfaaGreatDoorPz31
import Derived.Test.YtkbklooocdfcfaaGreatDoorPz21
import Derived.OwnWalk
set_option linter.unusedVariables false
set_option maxRecDepth 100000
set_option maxHeartbeats 6400000
namespace Go.Proofs.YtkbklooocdfcfaaGreatDoor
open Go.RowKit
structure HF where
 rn : Value
 si : Option Addr
 cl : Int
 key : Int
 at_ : Int
 nx : Value
 sn : Value
 la : Value
 n : Nd
 lk : Bool
 d : Bool
 k : Int
def HF.cells (s : HF) : List Value := [s.rn, .pointer s.si, .int .i64 s.cl, .int .u64 s.key, .int .u64 s.at_, s.nx, s.sn, s.la] ++ s.n.cl ++ [.bool s.lk, .bool s.d, .int .i64 s.k]
def HoAt (w : World) (g : Nat) (s : HF) : Prop := Row w g 144 s.cells.toArray
def HF.zero (x : Option Addr) (cl key : Int) : HF := ⟨.pointer none, x, cl, key, 0, .nilFunc, .pointer none, .pointer none, zeroNd, false, false, 0⟩
def HF.new (x : Option Addr) (cl key a : Int) (g : Nat) : HF := { HF.zero x cl key with at_ := a, nx := nextV 130 g }
section
variable {w w' : World} {g : Nat} {s : HF}
theorem HoAt.lt (h : HoAt w g s) : g < w.heap.size := Row.lt h
theorem HoAt.below (h : HoAt w g s) (hb : Below w.heap.size w w') : HoAt w' g s := Row.below h hb (Row.lt h)
theorem HoAt.but {fp : Nat -> Prop} (h : HoAt w g s) (hb : But w w' fp) (hn : ¬ fp g) : HoAt w' g s := hb.row h hn
theorem HoAt.ats (h : HoAt w g s) (v : Int) : HoAt (w.setCell ⟨g, 4, none⟩ (.int .u64 v)) g { s with at_ := v } := Row.set h 4 _
theorem HoAt.next (h : HoAt w g s) (v : Value) : HoAt (w.setCell ⟨g, 5, none⟩ v) g { s with nx := v } := Row.set h 5 v
theorem HoAt.snap (h : HoAt w g s) (v : Value) : HoAt (w.setCell ⟨g, 6, none⟩ v) g { s with sn := v } := Row.set h 6 v
theorem HoAt.locked (h : HoAt w g s) (v : Bool) : HoAt (w.setCell ⟨g, 29, none⟩ (.bool v)) g { s with lk := v } := Row.set h 29 _
theorem HoAt.done (h : HoAt w g s) (v : Bool) : HoAt (w.setCell ⟨g, 30, none⟩ (.bool v)) g { s with d := v } := Row.set h 30 _
end
theorem hbut1 {w w' : World} {g : Nat} (h : But w w' (fun q => q = g)) (i : Nat) (v : Value) : But w (w'.setCell ⟨g, i, none⟩ v) (fun q => q = g) := h.set (p := ⟨g, i, none⟩) rfl v
structure SF where
 si : Option Addr
 cl : Int
 ho : Option Addr
 row : Value
 un : Value
 st : Value
 low : Int
 to : Int
 d : Bool
 k : Int
def SF.cells (s : SF) : List Value := [.pointer s.si, .int .i64 s.cl, .pointer s.ho, s.row, s.un, s.st, .int .u64 s.low, .int .u64 s.to, .bool s.d, .int .i64 s.k]
def SpAt (w : World) (g : Nat) (s : SF) : Prop := Row w g 33 s.cells.toArray
def SF.zero : SF := ⟨none, 0, none, .slice none 0 0, .nilFunc, .slice none 0 0, 0, 0, false, 0⟩
section
variable {w w' : World} {g : Nat} {s : SF}
theorem SpAt.lt (h : SpAt w g s) : g < w.heap.size := Row.lt h
theorem SpAt.below (h : SpAt w g s) (hb : Below w.heap.size w w') : SpAt w' g s := Row.below h hb (Row.lt h)
theorem SpAt.but {fp : Nat -> Prop} (h : SpAt w g s) (hb : But w w' fp) (hn : ¬ fp g) : SpAt w' g s := hb.row h hn
theorem SpAt.rows (h : SpAt w g s) (v : Value) : SpAt (w.setCell ⟨g, 3, none⟩ v) g { s with row := v } := Row.set h 3 _
theorem SpAt.under (h : SpAt w g s) (v : Value) : SpAt (w.setCell ⟨g, 4, none⟩ v) g { s with un := v } := Row.set h 4 v
theorem SpAt.stores (h : SpAt w g s) (v : Value) : SpAt (w.setCell ⟨g, 5, none⟩ v) g { s with st := v } := Row.set h 5 v
theorem SpAt.lows (h : SpAt w g s) (v : Int) : SpAt (w.setCell ⟨g, 6, none⟩ (.int .u64 v)) g { s with low := v } := Row.set h 6 _
theorem SpAt.tos (h : SpAt w g s) (v : Int) : SpAt (w.setCell ⟨g, 7, none⟩ (.int .u64 v)) g { s with to := v } := Row.set h 7 _
theorem SpAt.done (h : SpAt w g s) (v : Bool) : SpAt (w.setCell ⟨g, 8, none⟩ (.bool v)) g { s with d := v } := Row.set h 8 _
theorem SpAt.code (h : SpAt w g s) (v : Int) : SpAt (w.setCell ⟨g, 9, none⟩ (.int .i64 v)) g { s with k := v } := Row.set h 9 _
end
end Go.Proofs.YtkbklooocdfcfaaGreatDoor
namespace Go.Proofs.YtkbklooocdfcfaaGreatDoor
open Go.RowKit
attribute [local go_sem] Oper.semAt_some
def rowV (g : Nat) : List Value := [nextV 14 g, nextV 15 g, nextV 16 g, nextV 17 g]
def SF.new (x : Option Addr) (c : Int) (h : Option Addr) (gr : Nat) : SF := { SF.zero with si := x, cl := c, ho := h, row := .slice (some ⟨gr, 0, none⟩) 4 4 }
theorem spNew_any (x : Option Addr) (c : Int) (h : Option Addr) (w : World) :
  Calls Tryz.prog 5 #[.pointer x, .int .i64 c, .pointer h] w fun e w' => ∃ g gr, e = .returned (.pointer (some ⟨g, 0, none⟩)) /\ SpAt w' g (SF.new x c h gr) /\ Row w' gr 53 (rowV g).toArray /\ w.heap.size <= g /\ w.heap.size <= gr /\ Below w.heap.size w w' := by
 go_enter Tryz.func5, Tryz.ntmps5
 go_wp2_with fail
 go_ret
 have hr1 : SpAt (w.alloc (.cells (SF.new x c h (w.heap.size + 1)).cells.toArray 33)) w.heap.size (SF.new x c h (w.heap.size + 1)) := Row.new _ _ _
 have hb1 : Below w.heap.size w (w.alloc (.cells (SF.new x c h (w.heap.size + 1)).cells.toArray 33)) := alloc_below _ _
 have hb2 := alloc_below (w.alloc (.cells (SF.new x c h (w.heap.size + 1)).cells.toArray 33)) (.cells (rowV w.heap.size).toArray 53)
 have hr2 : Row ((w.alloc (.cells (SF.new x c h (w.heap.size + 1)).cells.toArray 33)).alloc (.cells (rowV w.heap.size).toArray 53)) (w.alloc (.cells (SF.new x c h (w.heap.size + 1)).cells.toArray 33)).heap.size 53 (rowV w.heap.size).toArray := Row.new _ _ _
 rw [World.size_alloc] at hr2
 exact ⟨w.heap.size, w.heap.size + 1, rfl, hr1.below hb2, hr2, Nat.le_refl _, by omega, Below.and hb1 hb2⟩
theorem spStep_nil (w : World) : Calls Tryz.prog 4 #[.pointer none] w fun e w' => e = .returned (.tuple #[.bool true, .int .i64 1]) /\ w = w' := by
 go_enter Tryz.func4, Tryz.ntmps4
 go_wp2
 go_ret2
 exact ⟨rfl, rfl⟩
theorem spMade_nil (w : World) : Calls Tryz.prog 8 #[.pointer none] w fun e w' => e = .returned (.tuple #[.int .u64 0, .int .u64 0, .bool false]) /\ w = w' := by
 go_enter Tryz.func8, Tryz.ntmps8
 go_wp2
 go_ret3
 exact ⟨rfl, rfl⟩
theorem spMade_no {w : World} {g : Nat} {s : SF} (h : SpAt w g s) (hk : s.k ≠ 0) (hd : s.d = true) : Calls Tryz.prog 8 #[.pointer (some ⟨g, 0, none⟩)] w fun e w' => e = .returned (.tuple #[.int .u64 0, .int .u64 0, .bool false]) /\ w = w' := by
 have c8 : w.cell? ⟨g, 8, none⟩ = some (.bool s.d) := Row.cell h 8
 have c9 : w.cell? ⟨g, 9, none⟩ = some (.int .i64 s.k) := Row.cell h 9
 rw [hd] at c8
 have hk1 : (s.k != 0) = true := by simpa using hk
 clear h hd
 go_enter Tryz.func8, Tryz.ntmps8
 go_wp2
 go_ret3
 exact ⟨rfl, rfl⟩
theorem spMade_yes {w : World} {g : Nat} {s : SF} (h : SpAt w g s) (hk : s.k = 0) (hd : s.d = true) : Calls Tryz.prog 8 #[.pointer (some ⟨g, 0, none⟩)] w fun e w' => e = .returned (.tuple #[.int .u64 s.low, .int .u64 s.to, .bool true]) /\ Below w.heap.size w w' := by
 have mixed : Tryz.prog.follows .mixedOrders = true := by kernel_rfl
 have c8 : w.cell? ⟨g, 8, none⟩ = some (.bool s.d) := Row.cell h 8
 have c9 : w.cell? ⟨g, 9, none⟩ = some (.int .i64 s.k) := Row.cell h 9
 have c6 : w.cell? ⟨g, 6, none⟩ = some (.int .u64 s.low) := Row.cell h 6
 have c7 : w.cell? ⟨g, 7, none⟩ = some (.int .u64 s.to) := Row.cell h 7
 rw [hd] at c8
 rw [hk] at c9
 have ca := fun q : LowBy w => q.cell c6
 have cb := fun q : LowBy w => q.cell c7
 clear h hd
 go_enter Tryz.func8, Tryz.ntmps8
 go_wp2_with fail
 refine wp_region_quiet_low (by assumption) (by kernel_rfl) ?_
 repeat (go_big_quiet_step (fail))
 refine wpQuiet_nil ?_
 intro _ hw'
 obtain ⟨q, hw''⟩ := hw'
 subst hw''
 have HG := Lib.hid q.low
 clear ca cb
 go_wp2
 go_ret3
 exact ⟨rfl, HG.out⟩
theorem spStep_next {w : World} {g : Nat} {s : SF} {D : Bool} {P : World -> Prop} (h : SpAt w g s) (hd : s.d = false) (HW : Calls Tryz.prog 10 #[.pointer (some ⟨g, 0, none⟩)] w fun e w' => e = .returned (.int .i64 0) /\ Below w.heap.size w w')
  (HF : ∀ W, Below w.heap.size w W -> Calls Tryz.prog 11 #[.pointer (some ⟨g, 0, none⟩)] W fun e w' => e = .returned (.int .i64 0) /\ P w') (hP : ∀ w', P w' -> ∃ s', SpAt w' g s' /\ s'.d = D /\ s'.k = 0) (hPb : ∀ W W', P W -> Below W.heap.size W W' -> P W') :
  Calls Tryz.prog 4 #[.pointer (some ⟨g, 0, none⟩)] w fun e w' => e = .returned (.tuple #[.bool D, .int .i64 0]) /\ P w' := by
 have mixed : Tryz.prog.follows .mixedOrders = true := by kernel_rfl
 have c30 : w.cell? ⟨g, 8, none⟩ = some (.bool s.d) := Row.cell h 8
 rw [hd] at c30
 have HWW := Lib.hid HW
 have HFF := Lib.hid HF
 have HPP := Lib.hid hP
 have HPB := Lib.hid hPb
 clear h hd HW HF hP hPb
 go_enter Tryz.func4, Tryz.ntmps4
 go_wp2_with fail
 refine HWW.out.mono ?_
 rintro e w1 ⟨rfl, hb1⟩
 have HC := Lib.hid (HFF.out w1 hb1)
 clear hb1 c30 HWW HFF
 go_wp2_with fail
 refine HC.out.mono ?_
 rintro e w2 ⟨rfl, hp⟩
 obtain ⟨s', h2, hd2, hk2⟩ := HPP.out w2 hp
 have e30 : w2.cell? ⟨g, 8, none⟩ = some (.bool s'.d) := Row.cell h2 8
 have e31 : w2.cell? ⟨g, 9, none⟩ = some (.int .i64 s'.k) := Row.cell h2 9
 rw [hd2] at e30
 rw [hk2] at e31
 have ca := fun q : LowBy w2 => q.cell e30
 have cb := fun q : LowBy w2 => q.cell e31
 have HE := Lib.hid (show ∀ q : LowBy w2, P q.W from fun q => HPB.out _ _ hp q.low)
 clear hp h2 hd2 hk2 e30 e31 HC HPP HPB
 go_wp2_with fail
 refine wp_region_quiet_low (by assumption) (by kernel_rfl) ?_
 repeat (go_big_quiet_step (fail))
 refine wpQuiet_nil ?_
 intro _ hw'
 obtain ⟨q, hw''⟩ := hw'
 subst hw''
 have HG := Lib.hid (HE.out q)
 clear ca cb HE
 go_wp2
 go_ret2
 exact ⟨rfl, HG.out⟩
theorem spStep_wrong {w : World} {g : Nat} {s : SF} {k : Int} {q0 : Option Addr} {r : Value} (h : SpAt w g s) (hd : s.d = false) (hk : k ≠ 0) (HW : Calls Tryz.prog 10 #[.pointer (some ⟨g, 0, none⟩)] w fun e w' => e = .returned (.int .i64 k) /\ Below w.heap.size w w')
  (HS : ∀ W, But w W (fun q => q = g) -> Calls Tryz.prog 12 #[.pointer s.si] W fun e w' => e = .returned (.pointer q0) /\ W = w')
  (HR : ∀ W, But w W (fun q => q = g) -> Calls Tryz.prog 13 #[.pointer q0, .int .u64 s.to] W fun e w' => e = .returned r /\ Below W.heap.size W w') :
  Calls Tryz.prog 4 #[.pointer (some ⟨g, 0, none⟩)] w fun e w' => e = .returned (.tuple #[.bool true, .int .i64 k]) /\ SpAt w' g { s with d := true, k := k } /\ But w w' (fun q => q = g) := by
 have mixed : Tryz.prog.follows .mixedOrders = true := by kernel_rfl
 have c30 : w.cell? ⟨g, 8, none⟩ = some (.bool s.d) := Row.cell h 8
 rw [hd] at c30
 have HH := Lib.hid h
 have HWW := Lib.hid HW
 have HSS := Lib.hid HS
 have HRR := Lib.hid HR
 have hk1 : (k != 0) = true := by simpa using hk
 have hk2 : (k == 0) = false := by simpa using hk
 clear h hd HW HS HR
 go_enter Tryz.func4, Tryz.ntmps4
 go_wp2_with fail
 refine HWW.out.mono ?_
 rintro e w1 ⟨rfl, hb1⟩
 have h1 := HH.out.below hb1
 have e30 : w1.cell? ⟨g, 8, none⟩ = some (.bool s.d) := Row.cell h1 8
 have e31 : w1.cell? ⟨g, 9, none⟩ = some (.int .i64 s.k) := Row.cell h1 9
 have f30 := Row.free h1 8
 have f31 := Row.free h1 9
 obtain ⟨W2, hW2⟩ : ∃ W2, W2 = (w1.setCell ⟨g, 8, none⟩ (.bool true)).setCell ⟨g, 9, none⟩ (.int .i64 k) := ⟨_, rfl⟩
 have h2 : SpAt W2 g { s with d := true, k := k } := by rw [hW2]; exact (h1.done true).code k
 have hb2 : But w W2 (fun q => q = g) := by rw [hW2]; exact hbut1 (hbut1 (But.of_below hb1 (fun q => q = g)) 8 _) 9 _
 have H2 := Lib.hid (And.intro h2 hb2)
 clear c30 h1 hb1 h2 hb2 HWW HH
 go_wp2_with fail
 (try rw [<- hW2])
 clear e30 e31 f30 f31 hW2
 have HC1 := Lib.hid fun p : LowBy W2 => Calls.low_of_same (w := W2) (p := p) (HSS.out p.W (H2.out.2.trans (But.of_below p.low (fun q => q = g)) fun q hq => .inl hq))
 have HC2 := Lib.hid fun p : LowBy W2 => Calls.low_of (w := W2) (p := p) (HRR.out p.W (H2.out.2.trans (But.of_below p.low (fun q => q = g)) fun q hq => .inl hq))
 have ca := fun q : LowBy W2 => q.cell (show W2.cell? ⟨g, 0, none⟩ = some (.pointer s.si) from Row.cell H2.out.1 0)
 have cb := fun q : LowBy W2 => q.cell (show W2.cell? ⟨g, 7, none⟩ = some (.int .u64 s.to) from Row.cell H2.out.1 7)
 clear HSS HRR
 refine wp_region_quiet_low (by assumption) (by kernel_rfl) ?_
 repeat (go_big_quiet_step (first | (go_at_call 12; with_reducible exact HC1.out _) | (go_at_call 13; with_reducible exact HC2.out _)))
 refine wpQuiet_nil ?_
 intro _ hw'
 obtain ⟨q1, hw''⟩ := hw'
 subst hw''
 have h3 := H2.out.1.below q1.low
 have HB3 := Lib.hid (And.intro h3 (H2.out.2.trans (But.of_below q1.low (fun q => q = g)) fun q hq => .inl hq))
 clear ca cb HC1 HC2
 generalize q1.W = w3 at *
 have ca := fun q : LowBy w3 => q.cell (show w3.cell? ⟨g, 8, none⟩ = some (.bool true) from Row.cell h3 8)
 have cb := fun q : LowBy w3 => q.cell (show w3.cell? ⟨g, 9, none⟩ = some (.int .i64 k) from Row.cell h3 9)
 clear h3 H2
 go_wp2_with fail
 refine wp_region_quiet_low (by assumption) (by kernel_rfl) ?_
 repeat (go_big_quiet_step (fail))
 refine wpQuiet_nil ?_
 intro _ hw'
 obtain ⟨q, hw''⟩ := hw'
 subst hw''
 have HF := Lib.hid q.low
 clear ca cb
 go_wp2
 go_ret2
 exact ⟨rfl, HB3.out.1.below HF.out, HB3.out.2.trans (But.of_below HF.out (fun q => q = g)) fun q hq => .inl hq⟩
theorem hoCome_any {w : World} {g : Nat} {s : HF} (h : HoAt w g s) (a : Int) :
  Calls Tryz.prog 100 #[.pointer (some ⟨g, 0, none⟩), .int .u64 a] w fun e w' => e = .returned (.tuple #[]) /\ HoAt w' g { s with at_ := a, nx := nextV 130 g } /\ But w w' (fun q => q = g) := by
 have c4 : w.cell? ⟨g, 4, none⟩ = some (.int .u64 s.at_) := Row.cell h 4
 have c5 : w.cell? ⟨g, 5, none⟩ = some s.nx := Row.cell h 5
 have f4 := Row.free h 4
 have f5 := Row.free h 5
 have HE := Lib.hid (show HoAt ((w.setCell ⟨g, 4, none⟩ (.int .u64 a)).setCell ⟨g, 5, none⟩ (.func (.func 130) #[.pointer (some ⟨g, 0, none⟩)] #[])) g { s with at_ := a, nx := nextV 130 g } /\ But w ((w.setCell ⟨g, 4, none⟩ (.int .u64 a)).setCell ⟨g, 5, none⟩ (.func (.func 130) #[.pointer (some ⟨g, 0, none⟩)] #[])) (fun q => q = g) from
  ⟨(h.ats a).next _, hbut1 (hbut1 (But.refl w (fun q => q = g)) 4 _) 5 _⟩)
 clear h
 go_enter Tryz.func100, Tryz.ntmps100
 go_wp2
 go_end0
 exact ⟨rfl, HE.out⟩
theorem hoNew_any (x : Option Addr) (cl a key : Int) (w : World) :
  Calls Tryz.prog 58 #[.pointer x, .int .i64 cl, .int .u64 a, .int .u64 key] w fun e w' => ∃ g, e = .returned (.pointer (some ⟨g, 0, none⟩)) /\ HoAt w' g (HF.new x cl key a g) /\ w.heap.size <= g /\ Below w.heap.size w w' := by
 have hb1 : Below w.heap.size w (w.alloc (.cells (HF.zero x cl key).cells.toArray 144)) := alloc_below _ _
 have hr1 : HoAt (w.alloc (.cells (HF.zero x cl key).cells.toArray 144)) w.heap.size (HF.zero x cl key) := Row.new _ _ _
 have HC := Lib.hid (hoCome_any hr1 a)
 have HB := Lib.hid hb1
 clear hb1 hr1
 go_enter Tryz.func58, Tryz.ntmps58
 go_wp2_with fail
 refine HC.out.mono ?_
 rintro e w2 ⟨rfl, h2, hb2⟩
 have HE := Lib.hid (show ∃ g, g = w.heap.size /\ HoAt w2 g (HF.new x cl key a g) /\ w.heap.size <= g /\ Below w.heap.size w w2 from ⟨_, rfl, h2, Nat.le_refl _, HB.out.trans (hb2.below HB.out.size fun q e => by omega)⟩)
 clear h2 hb2 HC HB
 go_wp2
 go_ret
 obtain ⟨g, rfl, h⟩ := HE.out
 exact ⟨_, rfl, h⟩
structure SiteK (w : World) (si m : Option Addr) (z n : Int) : Prop where
 mem : ∀ W, Below w.heap.size w W -> Calls Tryz.prog 27 #[.pointer si] W fun e w' => e = .returned (.pointer m) /\ W = w'
 size : ∀ W, Below w.heap.size w W -> Calls Tryz.prog 30 #[.pointer m] W fun e w' => e = .returned (.int .i64 z) /\ W = w'
 clients : ∀ W, Below w.heap.size w W -> Calls Tryz.prog 131 #[.pointer si] W fun e w' => e = .returned (.int .i64 n) /\ W = w'
 nz : z ≠ 0
theorem hoWrong_any {w : World} {g : Nat} {s : HF} {m : Option Addr} {z n : Int} (h : HoAt w g s) (K : SiteK w s.si m z n) (h0 : 0 <= s.cl) (ha : s.at_ ≠ 0) :
  Calls Tryz.prog 101 #[.pointer (some ⟨g, 0, none⟩)] w fun e w' => e = .returned (.int .i64 (if n <= s.cl then 12 else 0)) /\ Below w.heap.size w w' := by
 have mixed : Tryz.prog.follows .mixedOrders = true := by kernel_rfl
 have c1 : w.cell? ⟨g, 1, none⟩ = some (.pointer s.si) := Row.cell h 1
 have c2 : w.cell? ⟨g, 2, none⟩ = some (.int .i64 s.cl) := Row.cell h 2
 have c4 : w.cell? ⟨g, 4, none⟩ = some (.int .u64 s.at_) := Row.cell h 4
 have HM := Lib.hid (K.mem w (Below.refl _ _))
 have HZ := Lib.hid (K.size w (Below.refl _ _))
 have HC := Lib.hid fun p : LowBy w => Calls.low_of_same (w := w) (p := p) (K.clients p.W p.low)
 have hz2 : (z == 0) = false := by simpa using K.nz
 have h1 : ¬ s.cl < 0 := by omega
 have h2 : decide (s.cl < 0) = false := decide_eq_false h1
 have h5 : (s.at_ == 0) = false := by simpa using ha
 obtain ⟨cl, hcl⟩ : ∃ cl, cl = s.cl := ⟨_, rfl⟩
 obtain ⟨si, hsi⟩ : ∃ si, si = s.si := ⟨_, rfl⟩
 obtain ⟨a, haa⟩ : ∃ a, a = s.at_ := ⟨_, rfl⟩
 rw [<- hcl] at c2 h0 h1 h2 ⊢
 rw [<- hsi] at c1 HM HC
 rw [<- haa] at c4 ha h5
 have ca := fun p : LowBy w => p.cell c1
 have cb := fun p : LowBy w => p.cell c2
 have cd := fun p : LowBy w => p.cell c4
 clear h K hcl hsi haa
 by_cases hn : n <= cl
 ·have h3 : decide (n <= cl) = true := decide_eq_true hn
  rw [if_pos hn]
  go_enter Tryz.func101, Tryz.ntmps101
  go_wp2_with fail
  refine HM.out.mono ?_
  rintro e w' ⟨rfl, rfl⟩
  go_wp2_with fail
  refine HZ.out.mono ?_
  rintro e w' ⟨rfl, rfl⟩
  go_wp2_with fail
  refine wp_region_quiet_low (by assumption) (by kernel_rfl) ?_
  repeat (go_big_quiet_step ((go_at_call 131; with_reducible exact HC.out _)))
  refine wpQuiet_nil ?_
  intro _ hw'
  obtain ⟨q, hw''⟩ := hw'
  subst hw''
  have HF := Lib.hid q.low
  clear ca cb cd HC HM HZ c1 c2 c4
  go_wp2
  go_ret
  exact ⟨rfl, HF.out⟩
 ·have h3 : decide (n <= cl) = false := decide_eq_false hn
  rw [if_neg hn]
  go_enter Tryz.func101, Tryz.ntmps101
  go_wp2_with fail
  refine HM.out.mono ?_
  rintro e w' ⟨rfl, rfl⟩
  go_wp2_with fail
  refine HZ.out.mono ?_
  rintro e w' ⟨rfl, rfl⟩
  go_wp2_with fail
  refine wp_region_quiet_low (by assumption) (by kernel_rfl) ?_
  repeat (go_big_quiet_step ((go_at_call 131; with_reducible exact HC.out _)))
  refine wpQuiet_nil ?_
  intro _ hw'
  obtain ⟨q, hw''⟩ := hw'
  subst hw''
  have c4' := cd q
  have HF := Lib.hid q.low
  clear ca cb cd HC HM HZ c1 c2 c4
  go_wp2
  go_ret
  exact ⟨rfl, HF.out⟩
theorem hoWrong_in {w : World} {g : Nat} {s : HF} {m : Option Addr} {z n : Int} (h : HoAt w g s) (K : SiteK w s.si m z n) (h0 : 0 <= s.cl) (ha : s.at_ ≠ 0) (hn : s.cl < n) :
  Calls Tryz.prog 101 #[.pointer (some ⟨g, 0, none⟩)] w fun e w' => e = .returned (.int .i64 0) /\ Below w.heap.size w w' := by
 have := hoWrong_any h K h0 ha
 rwa [if_neg (by omega)] at this
theorem hoRefusal_nil (w : World) : Calls Tryz.prog 60 #[.pointer none] w fun e w' => e = .returned (.int .i64 1) /\ w = w' := by
 go_enter Tryz.func60, Tryz.ntmps60
 go_wp2
 go_ret
 exact ⟨rfl, rfl⟩
theorem hoRefusal_done {w : World} {g : Nat} {s : HF} (h : HoAt w g s) (hd : s.d = true) (hk : s.k = 0) : Calls Tryz.prog 60 #[.pointer (some ⟨g, 0, none⟩)] w fun e w' => e = .returned (.int .i64 (if s.lk then 0 else 7)) /\ w = w' := by
 have c29 : w.cell? ⟨g, 29, none⟩ = some (.bool s.lk) := Row.cell h 29
 have c30 : w.cell? ⟨g, 30, none⟩ = some (.bool s.d) := Row.cell h 30
 have c31 : w.cell? ⟨g, 31, none⟩ = some (.int .i64 s.k) := Row.cell h 31
 rw [hd] at c30
 rw [hk] at c31
 obtain ⟨b, hb⟩ : ∃ b, b = s.lk := ⟨_, rfl⟩
 rw [<- hb] at c29 ⊢
 clear h hd hk hb
 cases b with
 | true =>
  go_enter Tryz.func60, Tryz.ntmps60
  go_wp2
  go_ret
  exact ⟨rfl, rfl⟩
 | false =>
  go_enter Tryz.func60, Tryz.ntmps60
  go_wp2
  go_ret
  exact ⟨rfl, rfl⟩
theorem step_storeH1 {ops : Array Oper} {o : Oper} {a : Act} {w : World} {K : Act -> World -> Prop} {Q : Exit -> Act -> World -> Prop} {E : Prop} (hw : Region.wanted o (yielded ops a.tmps) = true) (ty : TypeId) (x y : Operand) (ho : o.op = .store ty x y)
  (b i : Nat) (v old : Value) (hx : a.eval x = .pointer (some ⟨b, i, none⟩)) (hy : a.eval y = v) (hv : v.cells = #[v]) (hc : w.cell? ⟨b, i, none⟩ = some old) (hf : w.frozen? ⟨b, i, none⟩ = false) (hi : (Tryz.prog.info? ty).map (·.size) = some 1) (h1 : v.oneCell' = true)
  (h : K (a.put o.dst undef) (w.setCell ⟨b, i, none⟩ v)) : if Region.wanted o (yielded ops a.tmps) = true then Oper.wp Tryz.prog o a w K Q else E := by
 rw [if_pos hw]
 have hs := run_storeCells_cells (P := Tryz.prog) b i [v] 0 w (fun j hj => by
  obtain rfl : j = 0 := by simpa using hj
  rw [show i + 0 + 0 = i from rfl, hc]; rfl) (fun j hj => by
  obtain rfl : j = 0 := by simpa using hj
  exact hf) (fun u hu => by
  obtain rfl : u = v := by simpa using hu
  exact h1)
 have hr : (storeVar ty ⟨b, i, none⟩ v).run Tryz.prog w = .ok () (w.setCell ⟨b, i, none⟩ v) := by
  have hs' : (storeCells ⟨b, i, none⟩ [v] 0).run Tryz.prog w = .ok () (w.setCell ⟨b, i, none⟩ v) := hs
  cases hq : Tryz.prog.info? ty with
  | none => simp [hq] at hi
  | some inf =>
   have hz : inf.size = 1 := by simpa [hq] using hi
   simp [storeVar, sizeOf, typeInfo, hq, hv, hz, hs']
 unfold Oper.wp execOp
 simp only [ho, hx, hy, Instr.storeAt, Instr.sureAddr, Sem.run_bind, Sem.run_pure, Result.andThen_ok, hr]
 exact h
theorem step_storeNdH {ops : Array Oper} {o : Oper} {a : Act} {w : World} {K : Act -> World -> Prop} {Q : Exit -> Act -> World -> Prop} {E : Prop} (hw : Region.wanted o (yielded ops a.tmps) = true) (x y : Operand) (ho : o.op = .store 71 x y)
  (g : Nat) (vs : List Value) (old : Array Value) (hx : a.eval x = .pointer (some ⟨g, 0, none⟩)) (hy : a.eval y = .agg vs.toArray) (hr : Row w g 71 old) (hold : old.size = 21) (hl : vs.length = 21) (h1 : ∀ v ∈ vs, v.oneCell' = true)
  (h : ∀ w', Row w' g 71 vs.toArray -> (∀ B, B <= g -> B <= w.heap.size -> Below B w w') -> (∀ k, k ≠ g -> w'.heap[k]? = w.heap[k]?) -> K (a.put o.dst undef) w') : if Region.wanted o (yielded ops a.tmps) = true then Oper.wp Tryz.prog o a w K Q else E := by
 rw [if_pos hw]
 refine wp_store_row 71 x y ho g vs.toArray hx hy 71 old hr (by rw [List.size_toArray, hl]; exact ndI) (by rw [hold, List.size_toArray, hl]) (all_oneCell_toArray h1) ?_
 exact h _ (hr.setRow _) (fun B hB hB2 => below_setRow (Below.refl _ _) hB _) (fun k hk => setRow_other w g k _ hk)
theorem results_tctH {fn : Func} {p u v : Tmp} (h : fn.results = #[.tmp u, .cell p 71, .tmp v]) (tmps : Array Value) (w : World) (g : Nat) (n : Nd)
  (hp : tmps.getD p undef = .pointer (some ⟨g, 0, none⟩)) (hg : NdAt w g n) :
  (results fn tmps).run Tryz.prog w = .ok (.tuple #[tmps.getD u undef, n.V, tmps.getD v undef]) w := by
 have hv := run_loadVar_mid w g 0 71 n.cl _ (ndR hg) Tryz.underlying71 rfl ndI
 have hp' : tmps[p]?.getD undef = .pointer (some ⟨g, 0, none⟩) := by simpa using hp
 simp only [results, h]
 simp [Sem.run_bind, Result.andThen, hp', asAddr, hv]
theorem store_ndH (w1 : World) (n : Nd) : ∃ W2, W2 = (w1.alloc (.cells #[.int .i64 0, .int .u64 0, .int .u64 0, .int .u64 0, .int .u64 0, .int .u64 0, .int .u64 0, .int .u64 0, .int .u64 0, .int .u64 0, .int .u64 0, .int .u64 0, .int .u64 0, .int .u64 0, .int .u64 0, .int .u64 0, .int .u64 0, .int .u64 0, .int .u64 0, .int .u64 0, .int .u64 0] 71)).setCells w1.heap.size 0 n.cl /\ NdAt W2 w1.heap.size n /\ Below w1.heap.size w1 W2 :=
 ⟨_, rfl, row_setCells (Row.new w1 71 zeroNd.cl.toArray) rfl, setCells_low _ (Nat.le_refl _) (alloc_low _ _)⟩
def HF.pre (s : HF) : List Value := [s.rn, .pointer s.si, .int .i64 s.cl, .int .u64 s.key, .int .u64 s.at_, s.nx, s.sn, s.la]
def HF.post (s : HF) : List Value := [.bool s.lk, .bool s.d, .int .i64 s.k]
theorem HF.cells_nd (s : HF) : s.cells = s.pre ++ (s.n.cl ++ s.post) := rfl
theorem setL_midH (pre old post vs : List Value) (h : old.length = vs.length) : setL (pre ++ (old ++ post)).toArray pre.length vs = (pre ++ (vs ++ post)).toArray := by
 have hg := (setL_get vs pre.length (pre ++ (old ++ post)).toArray (by simp; omega)).2
 apply Array.ext_getElem?
 intro i
 rw [hg i, List.getElem?_toArray, List.getElem?_toArray]
 by_cases h1 : i < pre.length
 ·rw [if_neg (by omega), List.getElem?_append_left h1, List.getElem?_append_left h1]
 ·by_cases h2 : i < pre.length + vs.length
  ·rw [if_pos ⟨by omega, h2⟩, List.getElem?_append_right (l₁ := pre) (by omega), List.getElem?_append_left (by omega)]
  ·rw [if_neg (by omega), List.getElem?_append_right (l₁ := pre) (l₂ := old ++ post) (by omega), List.getElem?_append_right (l₁ := pre) (l₂ := vs ++ post) (by omega), List.getElem?_append_right (l₁ := old) (by omega), List.getElem?_append_right (l₁ := vs) (by omega), h]
theorem HoAt.node {w : World} {g : Nat} {s : HF} (h : HoAt w g s) (n : Nd) : HoAt (w.setCells g 8 n.cl) g { s with n := n } := by
 have h1 := row_setCellsAux n.cl 8 w s.cells.toArray h
 have e := setL_midH s.pre s.n.cl s.post n.cl rfl
 rw [HF.cells_nd] at h1
 exact (show Row _ _ _ _ from e ▸ h1)
theorem row_thereH {w : World} {b : Nat} {t : TypeId} {cs : Array Value} (h : Row w b t cs) {o n : Nat} (hn : o + n <= cs.size) : w.there b o n := fun j hj => by
 exact ⟨by rw [h.cell, Array.getElem?_eq_getElem (by omega)]; rfl, h.free _⟩
theorem HoAt.rng {w : World} {g : Nat} {s : HF} (h : HoAt w g s) : w.rangeAt g 8 s.n.cl := fun j v hv => by
 rw [Row.cell h, List.getElem?_toArray, HF.cells_nd, List.getElem?_append_right (by show 8 <= 8 + j; omega), show 8 + j - s.pre.length = j by show 8 + j - 8 = j; omega, List.getElem?_append_left (List.getElem?_eq_some_iff.1 hv).1]
 exact hv
theorem hoAt_no {w : World} {p : Option Addr} {k : Int} (hk : k ≠ 0) (HR : ∀ W, Below w.heap.size w W -> Calls Tryz.prog 60 #[.pointer p] W fun e w' => e = .returned (.int .i64 k) /\ Below W.heap.size W w') :
  Calls Tryz.prog 25 #[.pointer p] w fun e w' => e = .returned (.tuple #[.int .u64 0, zeroNd.V, .int .i64 k]) /\ Below w.heap.size w w' := by
 obtain ⟨W0, hW0⟩ : ∃ W0, W0 = w.alloc (.cells zeroNd.cl.toArray 71) := ⟨_, rfl⟩
 have hb0 : Below w.heap.size w W0 := by rw [hW0]; exact alloc_low _ _
 have HT := Lib.hid (HR W0 hb0)
 have HR0 := Lib.hid (show NdAt W0 w.heap.size zeroNd from by rw [hW0]; exact Row.new _ _ _)
 have HB0 := Lib.hid hb0
 have HW0 := Lib.hid hW0
 have hk2 : (k != 0) = true := by simpa using hk
 clear hb0 hW0 HR
 go_enter Tryz.func25, Tryz.ntmps25
 go_upto_region 1 with (fail)
 have HWW := HW0.out
 unfold zeroNd Nd.cl uw at HWW
 rw [<- HWW]
 clear HWW
 go_wp2_with fail
 refine HT.out.mono ?_
 rintro e w1 ⟨rfl, hb1⟩
 have HB1 := Lib.hid (Below.and HB0.out hb1)
 have HR1 := Lib.hid (HR0.out.below hb1 HR0.out.lt)
 have hth := row_thereH (n := 21) (o := 0) HR1.out (by show 0 + 21 <= 21; decide)
 have HTH := Lib.hid hth
 clear hb1 HT hth
 go_wp2_with (first
  | ((with_reducible refine show_storeN ?_); refine wpList_store_mid rfl _ _ _ rfl w.heap.size 0 zeroNd.cl.toArray rfl rfl HTH.out ndI (all_oneCell_toArray (cl_one _)) ?_; obtain ⟨W2, hW2⟩ : ∃ W2, W2 = w1.setCells w.heap.size 0 zeroNd.cl := ⟨_, rfl⟩; have HR2 := Lib.hid (show NdAt W2 w.heap.size zeroNd from by rw [hW2]; exact row_setCells HR1.out rfl); have HB2 := Lib.hid (show Below w.heap.size w W2 from by rw [hW2]; exact setCells_low _ (Nat.le_refl _) HB1.out); (try rw [<- hW2]); clear hW2))
 refine bodyPost_ret (results_tctH rfl _ _ w.heap.size zeroNd rfl HR2.out) rfl ⟨rfl, HB2.out⟩
theorem hoAt_yes {w : World} {g : Nat} {s : HF} (h : HoAt w g s) (HR : ∀ W, Below w.heap.size w W -> Calls Tryz.prog 60 #[.pointer (some ⟨g, 0, none⟩)] W fun e w' => e = .returned (.int .i64 0) /\ Below W.heap.size W w') :
  Calls Tryz.prog 25 #[.pointer (some ⟨g, 0, none⟩)] w fun e w' => e = .returned (.tuple #[.int .u64 s.at_, s.n.V, .int .i64 0]) /\ Below w.heap.size w w' := by
 have mixed : Tryz.prog.follows .mixedOrders = true := by kernel_rfl
 obtain ⟨W0, hW0⟩ : ∃ W0, W0 = w.alloc (.cells zeroNd.cl.toArray 71) := ⟨_, rfl⟩
 have hb0 : Below w.heap.size w W0 := by rw [hW0]; exact alloc_low _ _
 have HT := Lib.hid (HR W0 hb0)
 have HR0 := Lib.hid (show NdAt W0 w.heap.size zeroNd from by rw [hW0]; exact Row.new _ _ _)
 have HB0 := Lib.hid hb0
 have HW0 := Lib.hid hW0
 have HH := Lib.hid h
 have HGL := Lib.hid h.lt
 obtain ⟨a, ha⟩ : ∃ x, x = s.at_ := ⟨_, rfl⟩
 obtain ⟨N, hN⟩ : ∃ x, x = s.n := ⟨_, rfl⟩
 have HAN := Lib.hid (And.intro ha hN)
 rw [<- ha, <- hN]
 clear hb0 hW0 HR h ha hN
 go_enter Tryz.func25, Tryz.ntmps25
 go_upto_region 1 with (fail)
 have HWW := HW0.out
 unfold zeroNd Nd.cl uw at HWW
 rw [<- HWW]
 clear HWW
 go_wp2_with fail
 refine HT.out.mono ?_
 rintro e w1 ⟨rfl, hb1⟩
 have HB1 := Lib.hid (Below.and HB0.out hb1)
 have HR1 := Lib.hid (HR0.out.below hb1 HR0.out.lt)
 have h1 := HH.out.below HB1.out
 have HST := Lib.hid (show ∀ W : World, Below w1.heap.size w1 W -> W.cell? ⟨g, 4, none⟩ = some (.int .u64 a) /\ W.rangeAt g 8 N.cl from fun W hW => by
  rw [HAN.out.1, HAN.out.2]
  exact ⟨Row.cell (h1.below hW) 4, (h1.below hW).rng⟩)
 have HSK := Lib.hid (show ∀ W : World, (∀ k, k ≠ w.heap.size -> W.heap[k]? = (w1.drew).heap[k]?) -> W.cell? ⟨g, 4, none⟩ = some (.int .u64 a) /\ W.rangeAt g 8 N.cl from fun W hW => by
  rw [HAN.out.1, HAN.out.2]
  have hg : HoAt W g s := (hW g (by have := HGL.out; omega)).trans (h1.below (drew_below w1))
  exact ⟨Row.cell hg 4, hg.rng⟩)
 have HRG := Lib.hid (show ∀ W : World, (W.cell? ⟨g, 4, none⟩ = some (.int .u64 a) /\ W.rangeAt g 8 N.cl) -> W.rangeAt g 8 N.cl from fun W h => h.2)
 clear hb1 HT h1
 go_wp2_with fail
 refine wp_region_noPanic ?_
 refine wp_region_held_drew (S := fun W : World => W.cell? ⟨g, 4, none⟩ = some (.int .u64 a) /\ W.rangeAt g 8 N.cl) (by kernel_rfl) (HST.out _ (drew_below _)) (fun hHeld => ?_)
 refine tkH (i := 0) (oi := ⟨some 12, _, _, _, _, _⟩) (v := .pointer (some ⟨g, 0, none⟩)) rfl (Or.inl ⟨by kernel_rfl, by intro WW hSw; obtain ⟨s4, s8⟩ := hSw; go_simp⟩) (by assumption) ?_
 (try simp only [Act.put, q1, q2, q3])
 refine tkH (i := 1) (oi := ⟨some 13, _, _, _, _, _⟩) (v := .pointer (some ⟨g, 0, none⟩)) rfl (Or.inl ⟨by kernel_rfl, by intro WW hSw; obtain ⟨s4, s8⟩ := hSw; go_simp⟩) (by assumption) ?_
 (try simp only [Act.put, q1, q2, q3])
 refine tkH (i := 2) (oi := ⟨some 14, _, _, _, _, _⟩) (v := .pointer (some ⟨g, 4, none⟩)) rfl (Or.inl ⟨by kernel_rfl, by intro WW hSw; obtain ⟨s4, s8⟩ := hSw; go_simp⟩) (by assumption) ?_
 (try simp only [Act.put, q1, q2, q3])
 refine tkH (i := 3) (oi := ⟨some 15, _, _, _, _, _⟩) (v := .int .u64 a) rfl (Or.inl ⟨by kernel_rfl, by intro WW hSw; obtain ⟨s4, s8⟩ := hSw; go_simp⟩) (by assumption) ?_
 (try simp only [Act.put, q1, q2, q3])
 refine tkH (i := 4) (oi := ⟨some 16, _, _, _, _, _⟩) (v := .pointer (some ⟨g, 0, none⟩)) rfl (Or.inl ⟨by kernel_rfl, by intro WW hSw; obtain ⟨s4, s8⟩ := hSw; go_simp⟩) (by assumption) ?_
 (try simp only [Act.put, q1, q2, q3])
 refine tkH (i := 5) (oi := ⟨some 17, _, _, _, _, _⟩) (v := .pointer (some ⟨g, 0, none⟩)) rfl (Or.inl ⟨by kernel_rfl, by intro WW hSw; obtain ⟨s4, s8⟩ := hSw; go_simp⟩) (by assumption) ?_
 (try simp only [Act.put, q1, q2, q3])
 refine tkH (i := 6) (oi := ⟨some 18, _, _, _, _, _⟩) (v := .pointer (some ⟨g, 8, none⟩)) rfl (Or.inl ⟨by kernel_rfl, by intro WW hSw; obtain ⟨s4, s8⟩ := hSw; go_simp⟩) (by assumption) ?_
 (try simp only [Act.put, q1, q2, q3])
 refine tkH (i := 7) (oi := ⟨some 19, _, _, _, _, _⟩) (v := .agg N.cl.toArray) rfl (yieldsIf_load_mid (by rfl) _ _ rfl g 8 rfl N.cl _ HRG.out Tryz.underlying71 rfl ndI) (by assumption) ?_
 (try simp only [Act.put, q1, q2, q3])
 refine tkH (i := 8) (oi := ⟨some 2, _, _, _, _, _⟩) (v := .int .u64 a) rfl (Or.inl ⟨by kernel_rfl, by intro WW hSw; obtain ⟨s4, s8⟩ := hSw; go_simp⟩) (by assumption) ?_
 (try simp only [Act.put, q1, q2, q3])
 refine wpAnyH_one (i := 9) (oi := ⟨none, _, _, _, _, _⟩) rfl (by kernel_rfl) (fun K hK => ?_)
 refine step_storeNdH (by rfl) (.tmp 3) (.tmp 19) (by rfl) w.heap.size N.cl _ (by rfl) (by rfl) (HR1.out.below (drew_below w1) HR1.out.lt) rfl rfl (cl_one N) ?_
 intro w5 hr5 hb5 hk5
 have HR6 := Lib.hid hr5
 have HB5 := Lib.hid ((Below.and HB1.out (drew_below w1)).trans (hb5 _ (Nat.le_refl _) (Below.and HB1.out (drew_below w1)).size))
 refine hK _ _ (HSK.out w5 fun k hk => hk5 k hk) (fun hHeld => ?_)
 clear hK K hr5 hb5 hk5
 (try simp only [Act.put, q1, q2, q3])
 refine tkH (i := 10) (oi := ⟨some 4, _, _, _, _, _⟩) (v := .int .i64 0) rfl (Or.inl ⟨by kernel_rfl, by intro WW hSw; obtain ⟨s4, s8⟩ := hSw; go_simp⟩) (by assumption) ?_
 (try simp only [Act.put, q1, q2, q3])
 refine wpAnyH_done (by kernel_rfl) ?_ _
 clear hHeld
 go_wp2_with fail
 (try refine (‹∀ (a : Act) (w : World), Code.wp Tryz.prog _ _ a w -> _›) _ _ ?_)
 (try go_wp2_with fail)
 refine bodyPost_ret (results_tctH rfl _ _ w.heap.size N rfl HR6.out) rfl ⟨rfl, HB5.out⟩
theorem hoStep_next {w : World} {g f : Nat} {s : HF} {D : Bool} {P : World -> Prop} (h : HoAt w g s) (hd : s.d = false) (hn : s.nx = nextV f g) (HW : Calls Tryz.prog 101 #[.pointer (some ⟨g, 0, none⟩)] w fun e w' => e = .returned (.int .i64 0) /\ Below w.heap.size w w')
  (hcall : ∀ (w : World) (v : Value), (callFunc f #[v]).run Tryz.prog w = .ok (.enter f #[v]) w) (HF : ∀ W, Below w.heap.size w W -> Calls Tryz.prog f #[.pointer (some ⟨g, 0, none⟩)] W fun e w' => e = .returned (.int .i64 0) /\ P w') (hP : ∀ w', P w' -> ∃ s', HoAt w' g s' /\ s'.d = D /\ s'.k = 0) (hPb : ∀ W W', P W -> Below W.heap.size W W' -> P W') :
  Calls Tryz.prog 59 #[.pointer (some ⟨g, 0, none⟩)] w fun e w' => e = .returned (.tuple #[.bool D, .int .i64 0]) /\ P w' := by
 have mixed : Tryz.prog.follows .mixedOrders = true := by kernel_rfl
 have c30 : w.cell? ⟨g, 30, none⟩ = some (.bool s.d) := Row.cell h 30
 rw [hd] at c30
 have HH := Lib.hid h
 have HN := Lib.hid hn
 have HWW := Lib.hid HW
 have HFF := Lib.hid HF
 have HPP := Lib.hid hP
 have HPB := Lib.hid hPb
 clear h hd hn HW HF hP hPb
 go_enter Tryz.func59, Tryz.ntmps59
 go_wp2_with fail
 refine HWW.out.mono ?_
 rintro e w1 ⟨rfl, hb1⟩
 have c5 : w1.cell? ⟨g, 5, none⟩ = some s.nx := Row.cell (HH.out.below hb1) 5
 rw [HN.out] at c5
 unfold nextV at c5
 have HC := Lib.hid (HFF.out w1 hb1)
 clear hb1 c30 HWW HFF HH HN
 go_wp2_with fail
 refine HC.out.mono ?_
 rintro e w2 ⟨rfl, hp⟩
 obtain ⟨s', h2, hd2, hk2⟩ := HPP.out w2 hp
 have e30 : w2.cell? ⟨g, 30, none⟩ = some (.bool s'.d) := Row.cell h2 30
 have e31 : w2.cell? ⟨g, 31, none⟩ = some (.int .i64 s'.k) := Row.cell h2 31
 rw [hd2] at e30
 rw [hk2] at e31
 have ca := fun q : LowBy w2 => q.cell e30
 have cb := fun q : LowBy w2 => q.cell e31
 have HE := Lib.hid (show ∀ q : LowBy w2, P q.W from fun q => HPB.out _ _ hp q.low)
 clear hp h2 hd2 hk2 e30 e31 c5 HC HPP HPB
 go_wp2_with fail
 refine wp_region_quiet_low (by assumption) (by kernel_rfl) ?_
 repeat (go_big_quiet_step (fail))
 refine wpQuiet_nil ?_
 intro _ hw'
 obtain ⟨q, hw''⟩ := hw'
 subst hw''
 have HG := Lib.hid (HE.out q)
 clear ca cb HE
 go_wp2
 go_ret2
 exact ⟨rfl, HG.out⟩
theorem hoLook_any {w : World} {g : Nat} {s : HF} {m : Option Addr} (h : HoAt w g s) (hM : ∀ W, Below w.heap.size w W -> Calls Tryz.prog 27 #[.pointer s.si] W fun e w' => e = .returned (.pointer m) /\ W = w') :
  Calls Tryz.prog 157 #[.pointer (some ⟨g, 0, none⟩)] w fun e w' => e = .returned (.tuple #[]) /\ ∃ gs, HoAt w' g { s with sn := .pointer (some ⟨gs, 0, none⟩), nx := nextV 176 g } /\ Row w' gs 265 (zeroS m (nextV 184 gs) s.at_).toArray /\ w.heap.size <= gs /\ gs ≠ g /\ But w w' (fun q => q = g) := by
 have mixed : Tryz.prog.follows .mixedOrders = true := by kernel_rfl
 have EM := Lib.hid (enters_of Tryz.func27 (by kernel_rfl) rfl)
 have EN := Lib.hid (enters_of Tryz.func175 (by kernel_rfl) rfl)
 obtain ⟨si, hsi⟩ : ∃ x, x = s.si := ⟨_, rfl⟩
 obtain ⟨a, ha⟩ : ∃ x, x = s.at_ := ⟨_, rfl⟩
 have HSA := Lib.hid (And.intro hsi ha)
 have HST := Lib.hid (show ∀ W : World, Below w.heap.size w W -> W.cell? ⟨g, 1, none⟩ = some (.pointer si) /\ W.cell? ⟨g, 4, none⟩ = some (.int .u64 a) from fun W hW => by
  rw [hsi, ha]
  exact ⟨Row.cell (h.below hW) 1, Row.cell (h.below hW) 4⟩)
 rw [<- hsi] at hM
 rw [<- ha]
 have HMM := Lib.hid hM
 have HH := Lib.hid h
 clear h hM hsi ha
 go_enter Tryz.func157, Tryz.ntmps157
 go_wp2_with fail
 refine wp_region_held_drew (S := fun W : World => W.cell? ⟨g, 1, none⟩ = some (.pointer si) /\ W.cell? ⟨g, 4, none⟩ = some (.int .u64 a)) (by kernel_rfl) (HST.out _ (drew_below _)) (fun hHeld => ?_)
 refine tkH (i := 0) (oi := ⟨some 2, _, _, _, _, _⟩) (v := .pointer (some ⟨g, 0, none⟩)) rfl (Or.inl ⟨by kernel_rfl, by intro WW hSw; obtain ⟨s1, s4⟩ := hSw; go_simp⟩) (by assumption) ?_
 (try simp only [Act.put, q1, q2, q3])
 refine tkH (i := 1) (oi := ⟨some 3, _, _, _, _, _⟩) (v := .pointer (some ⟨g, 0, none⟩)) rfl (Or.inl ⟨by kernel_rfl, by intro WW hSw; obtain ⟨s1, s4⟩ := hSw; go_simp⟩) (by assumption) ?_
 (try simp only [Act.put, q1, q2, q3])
 refine tkH (i := 2) (oi := ⟨some 4, _, _, _, _, _⟩) (v := .pointer (some ⟨g, 0, none⟩)) rfl (Or.inl ⟨by kernel_rfl, by intro WW hSw; obtain ⟨s1, s4⟩ := hSw; go_simp⟩) (by assumption) ?_
 (try simp only [Act.put, q1, q2, q3])
 refine tkH (i := 3) (oi := ⟨some 5, _, _, _, _, _⟩) (v := .pointer (some ⟨g, 1, none⟩)) rfl (Or.inl ⟨by kernel_rfl, by intro WW hSw; obtain ⟨s1, s4⟩ := hSw; go_simp⟩) (by assumption) ?_
 (try simp only [Act.put, q1, q2, q3])
 refine tkH (i := 4) (oi := ⟨some 6, _, _, _, _, _⟩) (v := .pointer si) rfl (Or.inl ⟨by kernel_rfl, by intro WW hSw; obtain ⟨s1, s4⟩ := hSw; go_simp⟩) (by assumption) ?_
 (try simp only [Act.put, q1, q2, q3])
 refine tkH (i := 6) (oi := ⟨some 8, _, _, _, _, _⟩) (v := .pointer (some ⟨g, 0, none⟩)) rfl (Or.inl ⟨by kernel_rfl, by intro WW hSw; obtain ⟨s1, s4⟩ := hSw; go_simp⟩) (by assumption) ?_
 (try simp only [Act.put, q1, q2, q3])
 refine tkH (i := 7) (oi := ⟨some 9, _, _, _, _, _⟩) (v := .pointer (some ⟨g, 0, none⟩)) rfl (Or.inl ⟨by kernel_rfl, by intro WW hSw; obtain ⟨s1, s4⟩ := hSw; go_simp⟩) (by assumption) ?_
 (try simp only [Act.put, q1, q2, q3])
 refine tkH (i := 8) (oi := ⟨some 10, _, _, _, _, _⟩) (v := .pointer (some ⟨g, 4, none⟩)) rfl (Or.inl ⟨by kernel_rfl, by intro WW hSw; obtain ⟨s1, s4⟩ := hSw; go_simp⟩) (by assumption) ?_
 (try simp only [Act.put, q1, q2, q3])
 refine tkH (i := 9) (oi := ⟨some 11, _, _, _, _, _⟩) (v := .int .u64 a) rfl (Or.inl ⟨by kernel_rfl, by intro WW hSw; obtain ⟨s1, s4⟩ := hSw; go_simp⟩) (by assumption) ?_
 (try simp only [Act.put, q1, q2, q3])
 refine wpAnyH_one (i := 5) (oi := ⟨some 7, _, _, _, _, _⟩) rfl (by kernel_rfl) (fun K hK => ?_)
 refine step_calls (by rfl) 27 EM.out [.tmp 6] _ rfl [.pointer si] rfl (HMM.out _ (drew_below _)) ?_
 rintro e wx ⟨rfl, rfl⟩
 refine ⟨_, rfl, hK _ _ (HST.out _ (drew_below _)) (fun hHeld => ?_)⟩
 clear hK K
 (try simp only [Act.put, q1, q2, q3])
 refine wpAnyH_one (i := 10) (oi := ⟨some 12, _, _, _, _, _⟩) rfl (by kernel_rfl) (fun K hK => ?_)
 refine step_calls (by rfl) 175 EN.out [.tmp 7, .tmp 11] _ rfl [.pointer m, .int .u64 a] rfl (snNew_any m a _) ?_
 rintro e w3 ⟨rfl, hw3⟩
 obtain ⟨gs, hgs⟩ : ∃ gs, gs = (w.drew).heap.size := ⟨_, rfl⟩
 rw [<- hgs] at hw3 ⊢
 have hb3 : Below w.heap.size w w3 := by rw [<- hw3]; exact Below.and (drew_below w) (alloc_below _ _)
 have HB3 := Lib.hid hb3
 have HR3 := Lib.hid (show Row w3 gs 265 (zeroS m (nextV 184 gs) a).toArray from by rw [<- hw3, hgs]; exact Row.new _ _ _)
 have HGE := Lib.hid (show w.heap.size <= gs /\ gs ≠ g from by have := HH.out.lt; have := (drew_below w).size; omega)
 have k6 : w3.cell? ⟨g, 6, none⟩ = some s.sn := Row.cell (HH.out.below hb3) 6
 have fr6 := Row.free (HH.out.below hb3) 6
 clear hw3 hgs
 refine ⟨_, rfl, hK _ _ (HST.out _ HB3.out) (fun hHeld => ?_)⟩
 clear hK K
 (try simp only [Act.put, q1, q2, q3])
 have HS6 := Lib.hid (show (w3.setCell ⟨g, 6, none⟩ (.pointer (some ⟨gs, 0, none⟩))).cell? ⟨g, 1, none⟩ = some (.pointer si) /\ (w3.setCell ⟨g, 6, none⟩ (.pointer (some ⟨gs, 0, none⟩))).cell? ⟨g, 4, none⟩ = some (.int .u64 a) from by
  have h6 := (HH.out.below HB3.out).snap (.pointer (some ⟨gs, 0, none⟩))
  rw [HSA.out.1, HSA.out.2]
  exact ⟨Row.cell h6 1, Row.cell h6 4⟩)
 refine tkH (i := 11) (oi := ⟨some 13, _, _, _, _, _⟩) (v := .pointer (some ⟨g, 0, none⟩)) rfl (Or.inl ⟨by kernel_rfl, by intro WW hSw; obtain ⟨s1, s4⟩ := hSw; go_simp⟩) (by assumption) ?_
 (try simp only [Act.put, q1, q2, q3])
 refine tkH (i := 12) (oi := ⟨some 14, _, _, _, _, _⟩) (v := .pointer (some ⟨g, 6, none⟩)) rfl (Or.inl ⟨by kernel_rfl, by intro WW hSw; obtain ⟨s1, s4⟩ := hSw; go_simp⟩) (by assumption) ?_
 (try simp only [Act.put, q1, q2, q3])
 refine wpAnyH_one (i := 13) (oi := ⟨none, _, _, _, _, _⟩) rfl (by kernel_rfl) (fun K hK => ?_)
 refine step_storeH1 (by rfl) _ (.tmp 14) (.tmp 12) rfl g 6 (.pointer (some ⟨gs, 0, none⟩)) _ rfl rfl rfl k6 fr6 (by kernel_rfl) rfl ?_
 refine hK _ _ (HS6.out) (fun hHeld => ?_)
 clear hK K
 (try simp only [Act.put, q1, q2, q3])
 refine wpAnyH_done (by kernel_rfl) ?_ _
 have h6 := (HH.out.below HB3.out).snap (.pointer (some ⟨gs, 0, none⟩))
 have k5 : (w3.setCell ⟨g, 6, none⟩ (.pointer (some ⟨gs, 0, none⟩))).cell? ⟨g, 5, none⟩ = some s.nx := Row.cell h6 5
 have fr5 := Row.free h6 5
 have HE := Lib.hid (show HoAt ((w3.setCell ⟨g, 6, none⟩ (.pointer (some ⟨gs, 0, none⟩))).setCell ⟨g, 5, none⟩ (.func (.func 176) #[.pointer (some ⟨g, 0, none⟩)] #[])) g { s with sn := .pointer (some ⟨gs, 0, none⟩), nx := nextV 176 g } /\ Row ((w3.setCell ⟨g, 6, none⟩ (.pointer (some ⟨gs, 0, none⟩))).setCell ⟨g, 5, none⟩ (.func (.func 176) #[.pointer (some ⟨g, 0, none⟩)] #[])) gs 265 (zeroS m (nextV 184 gs) a).toArray /\ But w ((w3.setCell ⟨g, 6, none⟩ (.pointer (some ⟨gs, 0, none⟩))).setCell ⟨g, 5, none⟩ (.func (.func 176) #[.pointer (some ⟨g, 0, none⟩)] #[])) (fun q => q = g) from
  ⟨h6.next _, Row.other (Row.other HR3.out (p := ⟨g, 6, none⟩) HGE.out.2 _) (p := ⟨g, 5, none⟩) HGE.out.2 _, hbut1 (hbut1 (But.of_below HB3.out (fun q => q = g)) 6 _) 5 _⟩)
 clear hHeld h6 k6 fr6 HS6
 go_wp2_with fail
 (try refine (‹∀ (a : Act) (w : World), Code.wp Tryz.prog _ _ a w -> _›) _ _ ?_)
 (try go_wp2_with fail)
 go_end0
 obtain ⟨_, ha⟩ := HSA.out
 subst ha
 exact ⟨rfl, gs, HE.out.1, HE.out.2.1, HGE.out.1, HGE.out.2, HE.out.2.2⟩
theorem hoTry_yes {w : World} {g : Nat} {s : HF} {t m : Option Addr} {R Q : World -> Prop} (h : HoAt w g s) (hL : ∀ W, Below w.heap.size w W -> Calls Tryz.prog 132 #[.pointer s.si] W fun e w' => e = .returned (.pointer t) /\ W = w')
  (hT : ∀ W, Below w.heap.size w W -> Calls Tryz.prog 156 #[.pointer t, .int .i64 s.cl, .int .u64 s.at_] W fun e w' => e = .returned (.bool true) /\ HoAt w' g s /\ R w')
  (hK : ∀ w2, R w2 -> HoAt w2 g s -> Calls Tryz.prog 157 #[.pointer (some ⟨g, 0, none⟩)] (w2.setCell ⟨g, 29, none⟩ (.bool true)) fun e w' => e = .returned (.tuple #[]) /\ Q w') :
  Calls Tryz.prog 130 #[.pointer (some ⟨g, 0, none⟩)] w fun e w' => e = .returned (.int .i64 0) /\ Q w' := by
 have mixed : Tryz.prog.follows .mixedOrders = true := by kernel_rfl
 have EL := Lib.hid (enters_of Tryz.func132 (by kernel_rfl) rfl)
 have ET := Lib.hid (enters_of Tryz.func156 (by kernel_rfl) rfl)
 obtain ⟨si, hsi⟩ : ∃ x, x = s.si := ⟨_, rfl⟩
 obtain ⟨cl, hcl⟩ : ∃ x, x = s.cl := ⟨_, rfl⟩
 obtain ⟨a, ha⟩ : ∃ x, x = s.at_ := ⟨_, rfl⟩
 have HST := Lib.hid (show ∀ (W : World) (s' : HF), HoAt W g s' -> s'.si = s.si /\ s'.cl = s.cl /\ s'.at_ = s.at_ -> W.cell? ⟨g, 1, none⟩ = some (.pointer si) /\ W.cell? ⟨g, 2, none⟩ = some (.int .i64 cl) /\ W.cell? ⟨g, 4, none⟩ = some (.int .u64 a) from fun W s' hW hs => by
  rw [hsi, hcl, ha, <- hs.1, <- hs.2.1, <- hs.2.2]
  exact ⟨Row.cell hW 1, Row.cell hW 2, Row.cell hW 4⟩)
 rw [<- hsi] at hL
 rw [<- hcl, <- ha] at hT
 have HLL := Lib.hid hL
 have HTT := Lib.hid hT
 have HKK := Lib.hid hK
 have HH := Lib.hid h
 clear h hL hT hK hsi hcl ha
 go_enter Tryz.func130, Tryz.ntmps130
 go_wp2_with fail
 refine wp_region_held_drew (S := fun W : World => W.cell? ⟨g, 1, none⟩ = some (.pointer si) /\ W.cell? ⟨g, 2, none⟩ = some (.int .i64 cl) /\ W.cell? ⟨g, 4, none⟩ = some (.int .u64 a)) (by kernel_rfl) (HST.out _ _ (HH.out.below (drew_below _)) ⟨rfl, rfl, rfl⟩) (fun hHeld => ?_)
 refine tkH (i := 0) (oi := ⟨some 3, _, _, _, _, _⟩) (v := .pointer (some ⟨g, 0, none⟩)) rfl (Or.inl ⟨by kernel_rfl, by intro WW hSw; obtain ⟨s1, s2, s4⟩ := hSw; go_simp⟩) (by assumption) ?_
 (try simp only [Act.put, q1, q2, q3])
 refine tkH (i := 1) (oi := ⟨some 4, _, _, _, _, _⟩) (v := .pointer (some ⟨g, 0, none⟩)) rfl (Or.inl ⟨by kernel_rfl, by intro WW hSw; obtain ⟨s1, s2, s4⟩ := hSw; go_simp⟩) (by assumption) ?_
 (try simp only [Act.put, q1, q2, q3])
 refine tkH (i := 2) (oi := ⟨some 5, _, _, _, _, _⟩) (v := .pointer (some ⟨g, 0, none⟩)) rfl (Or.inl ⟨by kernel_rfl, by intro WW hSw; obtain ⟨s1, s2, s4⟩ := hSw; go_simp⟩) (by assumption) ?_
 (try simp only [Act.put, q1, q2, q3])
 refine tkH (i := 3) (oi := ⟨some 6, _, _, _, _, _⟩) (v := .pointer (some ⟨g, 1, none⟩)) rfl (Or.inl ⟨by kernel_rfl, by intro WW hSw; obtain ⟨s1, s2, s4⟩ := hSw; go_simp⟩) (by assumption) ?_
 (try simp only [Act.put, q1, q2, q3])
 refine tkH (i := 4) (oi := ⟨some 7, _, _, _, _, _⟩) (v := .pointer si) rfl (Or.inl ⟨by kernel_rfl, by intro WW hSw; obtain ⟨s1, s2, s4⟩ := hSw; go_simp⟩) (by assumption) ?_
 (try simp only [Act.put, q1, q2, q3])
 refine tkH (i := 6) (oi := ⟨some 9, _, _, _, _, _⟩) (v := .pointer (some ⟨g, 0, none⟩)) rfl (Or.inl ⟨by kernel_rfl, by intro WW hSw; obtain ⟨s1, s2, s4⟩ := hSw; go_simp⟩) (by assumption) ?_
 (try simp only [Act.put, q1, q2, q3])
 refine tkH (i := 7) (oi := ⟨some 10, _, _, _, _, _⟩) (v := .pointer (some ⟨g, 0, none⟩)) rfl (Or.inl ⟨by kernel_rfl, by intro WW hSw; obtain ⟨s1, s2, s4⟩ := hSw; go_simp⟩) (by assumption) ?_
 (try simp only [Act.put, q1, q2, q3])
 refine tkH (i := 8) (oi := ⟨some 11, _, _, _, _, _⟩) (v := .pointer (some ⟨g, 2, none⟩)) rfl (Or.inl ⟨by kernel_rfl, by intro WW hSw; obtain ⟨s1, s2, s4⟩ := hSw; go_simp⟩) (by assumption) ?_
 (try simp only [Act.put, q1, q2, q3])
 refine tkH (i := 9) (oi := ⟨some 12, _, _, _, _, _⟩) (v := .int .i64 cl) rfl (Or.inl ⟨by kernel_rfl, by intro WW hSw; obtain ⟨s1, s2, s4⟩ := hSw; go_simp⟩) (by assumption) ?_
 (try simp only [Act.put, q1, q2, q3])
 refine tkH (i := 10) (oi := ⟨some 13, _, _, _, _, _⟩) (v := .pointer (some ⟨g, 0, none⟩)) rfl (Or.inl ⟨by kernel_rfl, by intro WW hSw; obtain ⟨s1, s2, s4⟩ := hSw; go_simp⟩) (by assumption) ?_
 (try simp only [Act.put, q1, q2, q3])
 refine tkH (i := 11) (oi := ⟨some 14, _, _, _, _, _⟩) (v := .pointer (some ⟨g, 0, none⟩)) rfl (Or.inl ⟨by kernel_rfl, by intro WW hSw; obtain ⟨s1, s2, s4⟩ := hSw; go_simp⟩) (by assumption) ?_
 (try simp only [Act.put, q1, q2, q3])
 refine tkH (i := 12) (oi := ⟨some 15, _, _, _, _, _⟩) (v := .pointer (some ⟨g, 4, none⟩)) rfl (Or.inl ⟨by kernel_rfl, by intro WW hSw; obtain ⟨s1, s2, s4⟩ := hSw; go_simp⟩) (by assumption) ?_
 (try simp only [Act.put, q1, q2, q3])
 refine tkH (i := 13) (oi := ⟨some 16, _, _, _, _, _⟩) (v := .int .u64 a) rfl (Or.inl ⟨by kernel_rfl, by intro WW hSw; obtain ⟨s1, s2, s4⟩ := hSw; go_simp⟩) (by assumption) ?_
 (try simp only [Act.put, q1, q2, q3])
 refine wpAnyH_one (i := 5) (oi := ⟨some 8, _, _, _, _, _⟩) rfl (by kernel_rfl) (fun K hK => ?_)
 refine step_calls (by rfl) 132 EL.out [.tmp 7] _ rfl [.pointer si] rfl (HLL.out _ (drew_below _)) ?_
 rintro e wx ⟨rfl, rfl⟩
 refine ⟨_, rfl, hK _ _ (HST.out _ _ (HH.out.below (drew_below _)) ⟨rfl, rfl, rfl⟩) (fun hHeld => ?_)⟩
 clear hK K
 (try simp only [Act.put, q1, q2, q3])
 refine wpAnyH_one (i := 14) (oi := ⟨some 17, _, _, _, _, _⟩) rfl (by kernel_rfl) (fun K hK => ?_)
 refine step_calls (by rfl) 156 ET.out [.tmp 8, .tmp 12, .tmp 16] _ rfl [.pointer t, .int .i64 cl, .int .u64 a] rfl (HTT.out _ (drew_below _)) ?_
 rintro e w3 ⟨rfl, h3, hr3⟩
 have H3 := Lib.hid h3
 have HR3 := Lib.hid hr3
 have k29 : w3.cell? ⟨g, 29, none⟩ = some (.bool s.lk) := Row.cell h3 29
 have fr29 := Row.free h3 29
 refine ⟨_, rfl, hK _ _ (HST.out _ _ h3 ⟨rfl, rfl, rfl⟩) (fun hHeld => ?_)⟩
 clear hK K
 (try simp only [Act.put, q1, q2, q3])
 clear h3 hr3
 refine tkH (i := 15) (oi := ⟨some 18, _, _, _, _, _⟩) (v := .pointer (some ⟨g, 0, none⟩)) rfl (Or.inl ⟨by kernel_rfl, by intro WW hSw; obtain ⟨s1, s2, s4⟩ := hSw; go_simp⟩) (by assumption) ?_
 (try simp only [Act.put, q1, q2, q3])
 refine tkH (i := 16) (oi := ⟨some 19, _, _, _, _, _⟩) (v := .pointer (some ⟨g, 29, none⟩)) rfl (Or.inl ⟨by kernel_rfl, by intro WW hSw; obtain ⟨s1, s2, s4⟩ := hSw; go_simp⟩) (by assumption) ?_
 (try simp only [Act.put, q1, q2, q3])
 refine wpAnyH_one (i := 17) (oi := ⟨none, _, _, _, _, _⟩) rfl (by kernel_rfl) (fun K hK => ?_)
 refine step_storeH1 (by rfl) _ (.tmp 19) (.tmp 17) rfl g 29 (.bool true) _ rfl rfl rfl k29 fr29 (by kernel_rfl) rfl ?_
 refine hK _ _ (HST.out _ { s with lk := true } (H3.out.locked true) ⟨rfl, rfl, rfl⟩) (fun hHeld => ?_)
 clear hK K
 (try simp only [Act.put, q1, q2, q3])
 refine wpAnyH_done (by kernel_rfl) ?_ _
 have HC := Lib.hid (HKK.out w3 HR3.out H3.out)
 have h29 := H3.out.locked true
 have e29 : (w3.setCell ⟨g, 29, none⟩ (.bool true)).cell? ⟨g, 29, none⟩ = some (.bool true) := Row.cell h29 29
 obtain ⟨W4, hW4⟩ : ∃ W4, W4 = w3.setCell ⟨g, 29, none⟩ (.bool true) := ⟨_, rfl⟩
 rw [<- hW4] at HC e29 ⊢
 clear hHeld h29 k29 fr29 hW4 HKK HTT HLL
 go_wp2_with fail
 (try refine (‹∀ (a : Act) (w : World), Code.wp Tryz.prog _ _ a w -> _›) _ _ ?_)
 (try go_wp2_with fail)
 refine HC.out.mono ?_
 rintro e w5 ⟨rfl, hq⟩
 have HQ := Lib.hid hq
 clear hq e29 HC
 go_wp2_with fail
 go_ret
 exact ⟨rfl, HQ.out⟩
theorem hoRead_more {w : World} {g gs : Nat} {s : HF} {P : World -> Prop} (h : HoAt w g s) (hs : s.sn = .pointer (some ⟨gs, 0, none⟩)) (HS : Calls Tryz.prog 185 #[.pointer (some ⟨gs, 0, none⟩)] w fun e w' => e = .returned (.tuple #[.bool false, .int .i64 0]) /\ P w') :
  Calls Tryz.prog 176 #[.pointer (some ⟨g, 0, none⟩)] w fun e w' => e = .returned (.int .i64 0) /\ P w' := by
 have c6 : w.cell? ⟨g, 6, none⟩ = some s.sn := Row.cell h 6
 rw [hs] at c6
 have H := Lib.hid HS
 clear h hs HS
 go_enter Tryz.func176, Tryz.ntmps176
 go_wp2_with fail
 refine H.out.mono ?_
 rintro e w1 ⟨rfl, hp⟩
 have HP := Lib.hid hp
 clear hp c6 H
 go_wp2_with fail
 go_ret
 exact ⟨rfl, HP.out⟩
theorem hoRead_then {w : World} {g gs : Nat} {s : HF} {P Q : World -> Prop} (h : HoAt w g s) (hs : s.sn = .pointer (some ⟨gs, 0, none⟩)) (HS : Calls Tryz.prog 185 #[.pointer (some ⟨gs, 0, none⟩)] w fun e w' => e = .returned (.tuple #[.bool true, .int .i64 0]) /\ P w')
  (HE : ∀ w', P w' -> Calls Tryz.prog 186 #[.pointer (some ⟨g, 0, none⟩)] w' fun e w2 => e = .returned (.int .i64 0) /\ Q w2) :
  Calls Tryz.prog 176 #[.pointer (some ⟨g, 0, none⟩)] w fun e w' => e = .returned (.int .i64 0) /\ Q w' := by
 have c6 : w.cell? ⟨g, 6, none⟩ = some s.sn := Row.cell h 6
 rw [hs] at c6
 have H := Lib.hid HS
 have HEE := Lib.hid HE
 clear h hs HS HE
 go_enter Tryz.func176, Tryz.ntmps176
 go_wp2_with fail
 refine H.out.mono ?_
 rintro e w1 ⟨rfl, hp⟩
 have HP := Lib.hid (HEE.out w1 hp)
 clear hp c6 H HEE
 go_wp2_with fail
 refine HP.out.mono ?_
 rintro e w2 ⟨rfl, hq⟩
 have HQ := Lib.hid hq
 clear hq HP
 go_wp2_with fail
 go_ret
 exact ⟨rfl, HQ.out⟩
theorem hoSeen_done {w : World} {g gs : Nat} {s : HF} {N : Nd} (h : HoAt w g s) (hs : s.sn = .pointer (some ⟨gs, 0, none⟩)) (hN : ∀ W, Below w.heap.size w W -> Calls Tryz.prog 192 #[.pointer (some ⟨gs, 0, none⟩)] W fun e w' => e = .returned (.tuple #[N.V, .int .i64 0]) /\ Below W.heap.size W w')
  (hH : ∀ W, Below w.heap.size w W -> Calls Tryz.prog 193 #[.pointer (some ⟨gs, 0, none⟩)] W fun e w' => e = .returned (.tuple #[.int .u64 0, .bool false]) /\ Below W.heap.size W w') (hi : N.inv < 0) (ha : ¬ (N.act 0 false).length < N.len) :
  Calls Tryz.prog 186 #[.pointer (some ⟨g, 0, none⟩)] w fun e w' => e = .returned (.int .i64 0) /\ HoAt w' g { s with n := N, d := true } /\ But w w' (fun q => q = g) := by
 have mixed : Tryz.prog.follows .mixedOrders = true := by kernel_rfl
 have EA := Lib.hid (enters_of Tryz.func68 (by kernel_rfl) rfl)
 have EL := Lib.hid (enters_of Tryz.func83 (by kernel_rfl) rfl)
 have c6 : w.cell? ⟨g, 6, none⟩ = some s.sn := Row.cell h 6
 rw [hs] at c6
 have H := Lib.hid h
 have HN := Lib.hid (hN w (Below.refl _ _))
 have HH := Lib.hid hH
 have HAC := Lib.hid ha
 have HI := Lib.hid hi
 have hg := h.lt
 clear h hs hN hH hi ha
 go_enter Tryz.func186, Tryz.ntmps186
 go_wp2_with fail
 refine HN.out.mono ?_
 rintro e w1 ⟨rfl, hb1⟩
 have HB1 := Lib.hid hb1
 clear hb1 HN
 go_upto_region 2 with (first
  | ((with_reducible refine show_storeN ?_); refine wpList_store_row rfl _ _ _ rfl w1.heap.size N.cl rfl rfl (Row.new w1 71 zeroNd.cl.toArray) rfl ndI (cl_one _) ?_))
 obtain ⟨W2, hW2, hn2, hb2⟩ := store_ndH w1 N
 rw [<- hW2]
 have HB2 := Lib.hid (Below.and HB1.out hb2)
 have HN2 := Lib.hid hn2
 have c62 : W2.cell? ⟨g, 6, none⟩ = some (.pointer (some ⟨gs, 0, none⟩)) := (HB2.out.cell (p := ⟨g, 6, none⟩) hg).trans c6
 have HHW := Lib.hid (HH.out W2 HB2.out)
 have HGN := Lib.hid (show w1.heap.size ≠ g from by have := HB1.out.size; omega)
 obtain ⟨gn, hgn⟩ : ∃ gn, gn = w1.heap.size := ⟨_, rfl⟩
 rw [<- hgn] at HN2 HGN ⊢
 clear hW2 hn2 hb2 HH c6 hgn
 go_wp2_with fail
 refine HHW.out.mono ?_
 rintro e w3 ⟨rfl, hb3⟩
 have HB3 := Lib.hid (Below.and HB2.out hb3)
 have HN3 := Lib.hid (HN2.out.below hb3 HN2.out.lt)
 clear hb3 c62 HHW HN2 HB2 HB1
 obtain ⟨iv, hiv⟩ : ∃ iv, iv = N.inv := ⟨_, rfl⟩
 have HIV := Lib.hid (show Calls Tryz.prog 115 #[N.V] w3 fun e w' => e = .returned (.int .i64 iv) /\ Below w3.heap.size w3 w' from by rw [hiv]; exact nInv_any N w3)
 have div : ¬ (0 : Int) <= iv := by have := HI.out; omega
 have d1 : decide ((0 : Int) <= iv) = false := decide_eq_false div
 clear hiv
 go_wp2_with (first
  | ((with_reducible refine show_loadN ?_); refine wpList_load_mid rfl _ _ rfl gn 0 rfl N.cl _ (ndR HN3.out) Tryz.underlying71 rfl ndI ?_))
 refine HIV.out.mono ?_
 rintro e w4 ⟨rfl, hb4⟩
 have HB4 := Lib.hid (Below.and HB3.out hb4)
 have hn4 := HN3.out.below hb4 HN3.out.lt
 have HN4 := Lib.hid hn4
 have HST := Lib.hid (show ∀ W : World, Below w4.heap.size w4 W -> W.rangeAt gn 0 N.cl from fun W hW => ndR (hn4.below hW hn4.lt))
 have HRG := Lib.hid (show ∀ W : World, W.rangeAt gn 0 N.cl -> W.rangeAt gn 0 N.cl from fun W h => h)
 clear hb4 hn4 HIV HN3 HB3
 go_wp2_with fail
 refine wp_region_noPanic ?_
 refine wp_region_held_drew (S := fun W : World => W.rangeAt gn 0 N.cl) (by kernel_rfl) (HST.out _ (drew_below _)) (fun hHeld => ?_)
 refine tkH (i := 0) (oi := ⟨some 80, _, _, _, _, _⟩) (v := .agg N.cl.toArray) rfl (yieldsIf_load_mid (by rfl) _ _ rfl gn 0 rfl N.cl _ HRG.out Tryz.underlying71 rfl ndI) (by assumption) ?_
 (try simp only [Act.put, q1, q2, q3])
 refine tkH (i := 1) (oi := ⟨some 81, _, _, _, _, _⟩) (v := .int .u64 0) rfl (Or.inl ⟨by kernel_rfl, by intro WW hSw; (try dsimp only at hSw); go_simp⟩) (by assumption) ?_
 (try simp only [Act.put, q1, q2, q3])
 refine tkH (i := 2) (oi := ⟨some 82, _, _, _, _, _⟩) (v := .bool false) rfl (Or.inl ⟨by kernel_rfl, by intro WW hSw; (try dsimp only at hSw); go_simp⟩) (by assumption) ?_
 (try simp only [Act.put, q1, q2, q3])
 refine tkH (i := 5) (oi := ⟨some 85, _, _, _, _, _⟩) (v := .agg N.cl.toArray) rfl (yieldsIf_load_mid (by rfl) _ _ rfl gn 0 rfl N.cl _ HRG.out Tryz.underlying71 rfl ndI) (by assumption) ?_
 (try simp only [Act.put, q1, q2, q3])
 refine wpAnyH_one (i := 3) (oi := ⟨some 83, _, _, _, _, _⟩) rfl (by kernel_rfl) (fun K hK => ?_)
 refine step_calls (by rfl) 68 EA.out [.tmp 80, .tmp 81, .tmp 82] _ rfl [.agg N.cl.toArray, .int .u64 0, .bool false] rfl (nActive_any N 0 false _) ?_
 rintro e w6 ⟨⟨v, rfl, ho⟩, hb6⟩
 have HB6 := Lib.hid (Below.and (drew_below _) hb6)
 obtain ⟨ad, cap, hv⟩ : ∃ ad cap, v = .slice ad (N.act 0 false).length cap := by
  rcases ho.2 with ⟨h1, h2⟩ | ⟨g', cap, cur, h1, _⟩
  ·exact ⟨none, 0, by rw [h2]; exact h1⟩
  ·exact ⟨_, _, h1⟩
 obtain ⟨M, hM⟩ : ∃ M, M = (N.act 0 false).length := ⟨_, rfl⟩
 rw [<- hM] at hv
 subst hv
 have dlt : ¬ ((M : Nat) : Int) < ((N.len : Nat) : Int) := by have := HAC.out; omega
 obtain ⟨LN, hLN⟩ : ∃ LN, LN = N.len := ⟨_, rfl⟩
 rw [<- hLN] at dlt
 have d2 : decide ((M : Int) < (LN : Int)) = false := decide_eq_false dlt
 have dln : ¬ M < LN := by omega
 have HLN := Lib.hid hLN
 have HML := Lib.hid hM
 clear ho hb6 hM hLN
 refine ⟨_, rfl, hK _ _ (HST.out _ HB6.out) (fun hHeld => ?_)⟩
 clear hK K
 (try simp only [Act.put, q1, q2, q3])
 refine tkH (i := 4) (oi := ⟨some 84, _, _, _, _, _⟩) (v := .int .i64 (M : Int)) rfl (Or.inl ⟨by kernel_rfl, by intro WW hSw; (try dsimp only at hSw); go_simp⟩) (by assumption) ?_
 (try simp only [Act.put, q1, q2, q3])
 refine wpAnyH_one (i := 6) (oi := ⟨some 86, _, _, _, _, _⟩) rfl (by kernel_rfl) (fun K hK => ?_)
 refine step_calls (by rfl) 83 EL.out [.tmp 85] _ rfl [.agg N.cl.toArray] rfl (nlen_any N _) ?_
 rintro e w7 ⟨he7, hb7⟩
 rw [<- HLN.out] at he7
 subst he7
 have HB7 := Lib.hid (Below.and HB6.out hb7)
 clear hb7
 refine ⟨_, rfl, hK _ _ (HST.out _ HB7.out) (fun hHeld => ?_)⟩
 clear hK K
 (try simp only [Act.put, q1, q2, q3])
 refine tkH (i := 7) (oi := ⟨some 87, _, _, _, _, _⟩) (v := .bool false) rfl (Or.inl ⟨by kernel_rfl, by intro WW hSw; (try dsimp only at hSw); go_simp⟩) (by assumption) ?_
 (try simp only [Act.put, q1, q2, q3])
 refine tkH (i := 8) (oi := ⟨some 79, _, _, _, _, _⟩) (v := .bool false) rfl (Or.inl ⟨by kernel_rfl, by intro WW hSw; (try dsimp only at hSw); go_simp⟩) (by assumption) ?_
 (try simp only [Act.put, q1, q2, q3])
 refine wpAnyH_done (by kernel_rfl) ?_ _
 have hB7 := Below.and HB4.out HB7.out
 have HB8 := Lib.hid hB7
 have HN8 := Lib.hid (HN4.out.below HB7.out HN4.out.lt)
 have H8 := Lib.hid (H.out.below hB7)
 have HTH := Lib.hid (row_thereH (n := 21) (o := 8) H8.out (by show 8 + 21 <= 32; decide))
 clear hHeld dlt dln d2 hB7 HST HRG
 go_wp2_with fail
 (try refine (‹∀ (a : Act) (w : World), Code.wp Tryz.prog _ _ a w -> _›) _ _ ?_)
 go_wp2_with (first
  | ((with_reducible refine show_loadN ?_); refine wpList_load_mid rfl _ _ rfl gn 0 rfl N.cl _ (ndR HN8.out) Tryz.underlying71 rfl ndI ?_)
  | ((with_reducible refine show_storeN ?_); refine wpList_store_mid rfl _ _ _ rfl g 8 N.cl.toArray rfl rfl HTH.out ndI (all_oneCell_toArray (cl_one _)) ?_; obtain ⟨W9, hW9⟩ : ∃ W9, W9 = w7.setCells g 8 N.cl := ⟨_, rfl⟩; have H9 := Lib.hid (show HoAt W9 g { s with n := N } from by rw [hW9]; exact H8.out.node N); have HB9 := Lib.hid (show But w7 W9 (fun q => q = g) from by rw [hW9]; exact but_setCells (But.refl w7 _) N.cl 8); have e30 : W9.cell? ⟨g, 30, none⟩ = some (.bool s.d) := Row.cell H9.out 30; have f30 := Row.free H9.out 30; (try rw [<- hW9]); clear hW9))
 go_ret
 exact ⟨rfl, H9.out.done true, hbut1 ((But.of_below HB8.out (fun q => q = g)).trans HB9.out fun q hq => .inl hq) 30 _⟩
end Go.Proofs.YtkbklooocdfcfaaGreatDoor
namespace Go.Proofs.YtkbklooocdfcfaaGreatDoor
open Go.RowKit
structure HJS (w1 W : World) (y1 : Lay) (gw gs n : Nat) (s : St) (S : SS) (F : HF) : Prop where
 ex : ∃ y, MemAt W y s /\ y.g = y1.g /\ (∀ k, y.fp k -> y1.fp k \/ w1.heap.size <= k) /\ ¬ y.fp gs /\ ¬ y.fp gw
 sn : SnapAt W gs (some ⟨y1.g, 0, none⟩) S
 wk : HoAt W gw F
 lds : Lds s.nl n s
 ne : gs ≠ gw
 gs : w1.heap.size <= gs
 but : But w1 W (fun q => y1.fp q \/ q = gw)
structure HJB (w1 W : World) (y1 : Lay) (gw n : Nat) (s : St) (F : HF) : Prop where
 ex : ∃ y, MemAt W y s /\ y.g = y1.g /\ (∀ k, y.fp k -> y1.fp k \/ w1.heap.size <= k) /\ ¬ y.fp gw
 wk : HoAt W gw F
 lds : Lds s.nl n s
 but : But w1 W (fun q => y1.fp q \/ q = gw)
section
variable {w1 W W' : World} {y1 : Lay} {gw gs n : Nat} {s : St} {S : SS} {F F' : HF}
theorem HJS.below (h : HJS w1 W y1 gw gs n s S F) (hb : Below W.heap.size W W') : HJS w1 W' y1 gw gs n s S F := by
 obtain ⟨y, a, b, c, d, e⟩ := h.ex
 obtain ⟨cs, hr, hs⟩ := h.sn
 exact ⟨⟨y, a.below hb, b, c, d, e⟩, ⟨cs, hr.below hb hr.lt, hs⟩, h.wk.below hb, h.lds, h.ne, h.gs, h.but.trans (But.of_below hb (fun q => y1.fp q \/ q = gw)) fun q hq => .inl hq⟩
theorem HJS.at_ (h : HJS w1 W y1 gw gs n s S F) : ∃ y, SnAt W W y gs s s n S := by
 obtain ⟨y, a, b, c, d, e⟩ := h.ex
 have h1 := h.sn
 rw [<- b] at h1
 obtain ⟨cs, hr, hs⟩ := h1
 exact ⟨y, ⟨y, a, RT.of_below y gs (Below.refl _ _)⟩, ⟨cs, hr, hs⟩, rfl, rfl, h.lds, d, hr.lt⟩
def HKeeps (W Wl w' : World) : Prop := ∀ k, W.heap.size <= k -> k < Wl.heap.size -> w'.heap[k]? = Wl.heap[k]?
theorem HJS.step {Wl : World} (h : HJS w1 W y1 gw gs n s S F) (hb : Below W.heap.size W Wl) (hn : n <= 1000000) (G : S.Good) (h1 : ∀ k, y1.fp k -> k < w1.heap.size) :
  Calls Tryz.prog 185 #[.pointer (some ⟨gs, 0, none⟩)] Wl fun e w' => e = .returned (.tuple #[.bool (S.go (ldV s) (ldK s)).d, .int .i64 (S.go (ldV s) (ldK s)).k]) /\
   (HJS w1 w' y1 gw gs (n + 1) (ldS s S.ask) (S.go (ldV s) (ldK s)) F /\ HKeeps W Wl w') := by
 have hl := h.below hb
 obtain ⟨y, a, b, c, d, e⟩ := h.ex
 have hlt := a.lt
 have hgs : gs < W.heap.size := by obtain ⟨cs, hr, _⟩ := h.sn; exact hr.lt
 have hsn := hl.sn
 rw [<- b] at hsn
 refine (sstep_any (a.below hb) h.lds.ok hsn d G).mono ?_
 rintro e' w' ⟨rfl, y2, hm2, hsn2, t⟩
 rw [b] at hsn2
 have hgw := hl.wk.lt
 refine ⟨rfl, ⟨⟨y2, hm2, t.g.trans b, fun k hk => ?_, fun hf => ?_, fun hf => ?_⟩, hsn2, hl.wk.but t.but (fun hf => hf.elim e (fun e2 => h.ne e2.symm)), ?_, h.ne, h.gs, hl.but.trans t.but fun q hq => ?_⟩, fun k hk hk' => t.but.block k hk' (fun hf => ?_)⟩
 ·rcases t.fp k hk with h2 | h2
  ·exact c k h2
  ·exact .inr (Nat.le_trans hl.but.size h2)
 ·rcases t.fp gs hf with h2 | h2
  ·exact d h2
  ·have := hb.size; omega
 ·rcases t.fp gw hf with h2 | h2
  ·exact e h2
  ·omega
 ·have hs : (ldS s S.ask).nl = s.nl := by unfold ldS; split <;> rfl
  rw [hs]
  exact h.lds.load hn _
 ·rcases hq with h2 | h2
  ·exact (c q h2).imp .inl id
  ·exact .inr (by rw [h2]; exact h.gs)
 ·rcases hf with h2 | h2
  ·have := hlt k h2
   omega
  ·omega
end
section
variable {w1 W Wl W' : World} {y1 : Lay} {gw gs n : Nat} {s : St} {S : SS} {F : HF}
end
theorem ref17word_any {w : World} {gb N c a : Nat} {f : Nat -> Nat} (hs : ∀ q, q < N -> w.cell? ⟨gb, q, none⟩ = some (bv (f q))) (hB : BytF f) (hN : N <= 66560) (ha : a + 8 <= N) :
  Calls Tryz.prog 61 #[.slice (some ⟨gb, 0, none⟩) N c, .int .u64 (a : Int)] w fun e w' => e = .returned (.int .u64 (wrdF f a : Int)) /\ w = w' := by
 have HY := Lib.hid hs
 have HB := Lib.hid hB
 have d1 : decide ((N : Int) < (a : Int)) = false := by simp; omega
 have d2 : decide ((N : Int) < (a : Int) + 8) = false := by simp; omega
 have d3 : decide (N < a) = false := by simp; omega
 have w1 : IntKind.u64.wrap ((a : Int) + 8) = (a : Int) + 8 := by rw [IntKind.wrap_u64]; omega
 clear hs hB
 go_enter Tryz.func61, Tryz.ntmps61
 go_wp2
 go_loop [5, 6] (fun q i => ∃ j : Nat, j <= 8 /\ q = .int .u64 (wrdK f a j : Nat) /\ i = .int .i64 (7 - (j : Int))) (fun _ i => (intOf i + 1).toNat)
 case atStart => exact ⟨0, by omega, rfl, rfl⟩
 case round =>
  obtain ⟨j, hj, rfl, rfl⟩ := hrel
  by_cases hlt : j < 8
  ·have hx := wrdK_lt HB.out a j
   have hp := pow_le8' (k := j + 1) (by omega)
   have hp2 : 256 ^ (j + 1) = 256 * 256 ^ j := by rw [Nat.pow_succ, Nat.mul_comm]
   have hq := wrdK_succ f a hlt
   obtain ⟨Q, hQ⟩ : ∃ Q, Q = wrdK f a j := ⟨_, rfl⟩
   rw [<- hQ] at hx hq ⊢
   have hx2 : Q * 256 + 255 < 18446744073709551616 := by omega
   have hc := HY.out (a + (7 - j)) (by omega)
   obtain ⟨b, hbe⟩ : ∃ b, b = f (a + (7 - j)) := ⟨_, rfl⟩
   have hb256 : b < 256 := by rw [hbe]; exact HB.out _
   rw [<- hbe] at hc hq
   have HQ := Lib.hid hq
   clear hp hp2 hx hQ hq hbe
   unfold bv at hc
   go_wp2
   go_round
   case rel => exact ⟨j + 1, by omega, by rw [HQ.out]; go_num, by go_num⟩
   case measure => simp [intOf]; omega
  ·obtain rfl : j = 8 := by omega
   go_wp2
   go_ret
   exact ⟨rfl, rfl⟩
def preW (x : List Int) (k : Nat) : List Value := (List.range 24).map fun i => if i < k then .int .u64 (wAt x i) else .int .u64 0
theorem preW_len (x : List Int) (k : Nat) : (preW x k).length = 24 := by simp [preW]
theorem preW_get (x : List Int) (k : Nat) {i : Nat} (hi : i < 24) : (preW x k)[i]? = some (if i < k then .int .u64 (wAt x i) else .int .u64 0) := by
 unfold preW
 rw [List.getElem?_map, List.getElem?_range hi]
 rfl
theorem preW_set (x : List Int) {k : Nat} (hk : k < 24) : (preW x k).toArray.setIfInBounds k (.int .u64 (wAt x k)) = (preW x (k + 1)).toArray := by
 apply Array.ext_getElem?
 intro i
 rw [Array.getElem?_setIfInBounds, List.getElem?_toArray, List.getElem?_toArray]
 by_cases hi : i < 24
 ·rw [preW_get x k hi, preW_get x (k + 1) hi]
  by_cases e : k = i
  ·subst e
   rw [if_pos rfl, if_pos (by simp [preW_len]; exact hk), if_pos (by omega)]
  ·rw [if_neg e]
   by_cases h : i < k
   ·rw [if_pos h, if_pos (by omega)]
   ·rw [if_neg h, if_neg (by omega)]
 ·rw [if_neg (by omega), List.getElem?_eq_none (by rw [preW_len]; omega), List.getElem?_eq_none (by rw [preW_len]; omega)]
theorem preW_all (x : List Int) (hl : x.length = 24) : preW x 24 = x.map uw := by
 apply List.ext_getElem?
 intro i
 by_cases hi : i < 24
 ·rw [preW_get x 24 hi, if_pos hi, wAt_get hl hi]
 ·rw [List.getElem?_eq_none (by rw [preW_len]; omega), List.getElem?_eq_none (by rw [List.length_map, hl]; omega)]
theorem preW_zero (x : List Int) : preW x 0 = zeroW := by
 unfold preW zeroW
 rfl
theorem show_loadW17 {P : Program} {ops : Array Oper} {rest : List Oper} {Q : Exit -> Act -> World -> Prop} {d : Option Nat} {t2 : TypeId} {x : Operand} {ps : String} {af : Array Edge} {g : Option (Nat × Bool)} {a : Act} {w : World} (h : wpList P ops Q (⟨d, .load 145 x, t2, ps, af, g⟩ :: rest) a w) : wpList P ops Q (⟨d, .load 145 x, t2, ps, af, g⟩ :: rest) a w := h
theorem ref17Read_any {w : World} {gb N c a : Nat} {f : Nat -> Nat} {x : List Int} (hs : ∀ q, q < N -> w.cell? ⟨gb, q, none⟩ = some (bv (f q))) (hB : BytF f) (hN : N <= 66560) (ha : a + 192 <= N) (hl : x.length = 24) (hx : ∀ i, i < 24 -> (wrdF f (a + 8 * i) : Int) = wAt x i) :
  Calls Tryz.prog 26 #[.slice (some ⟨gb, 0, none⟩) N c, .int .u64 (a : Int)] w fun e w' => e = .returned (ofR x).1.V /\ Below w.heap.size w w' := by
 have h00 : 0 <= wAt x 0 /\ wAt x 0 < 18446744073709551616 := by
  have h1 := hx 0 (by omega)
  have h2 := wrdF_lt hB (a + 8 * 0)
  rw [<- h1]
  omega
 obtain ⟨W1, hW1⟩ : ∃ W1, W1 = (w.alloc (.cells #[.int .i64 0, .int .u64 0, .int .u64 0, .int .u64 0, .int .u64 0, .int .u64 0, .int .u64 0, .int .u64 0, .int .u64 0, .int .u64 0, .int .u64 0, .int .u64 0, .int .u64 0, .int .u64 0, .int .u64 0, .int .u64 0, .int .u64 0, .int .u64 0, .int .u64 0, .int .u64 0, .int .u64 0] 71)).alloc (.cells zeroW.toArray 145) := ⟨_, rfl⟩
 have r0 : NdAt W1 w.heap.size zeroNd := by rw [hW1]; exact (Row.new w 71 zeroNd.cl.toArray).alloc _
 have r1 : Row W1 (w.heap.size + 1) 145 (preW x 0).toArray := by
  have := Row.new (w.alloc (.cells #[.int .i64 0, .int .u64 0, .int .u64 0, .int .u64 0, .int .u64 0, .int .u64 0, .int .u64 0, .int .u64 0, .int .u64 0, .int .u64 0, .int .u64 0, .int .u64 0, .int .u64 0, .int .u64 0, .int .u64 0, .int .u64 0, .int .u64 0, .int .u64 0, .int .u64 0, .int .u64 0, .int .u64 0] 71)) 145 zeroW.toArray
  rw [World.size_alloc] at this
  rw [hW1, preW_zero]
  exact this
 have hb1 : Below w.heap.size w W1 := by rw [hW1]; exact low_and' (alloc_low' _ _) (alloc_low' _ _)
 have hs1 : W1.heap.size = w.heap.size + 2 := by rw [hW1]; simp
 have hgb : gb < w.heap.size := w.block_lt_of_cell? _ (hs 0 (by omega))
 have HWD := Lib.hid (show ∀ (W : World) (k : Nat), Below w.heap.size w W -> k < 24 -> Calls Tryz.prog 61 #[.slice (some ⟨gb, 0, none⟩) N c, .int .u64 ((a : Int) + 8 * (k : Int))] W fun e w' => e = .returned (.int .u64 (wAt x k)) /\ W = w' from fun W k hb hk => by
  have := ref17word_any (w := W) (gb := gb) (N := N) (c := c) (a := a + 8 * k) (f := f) (fun q hq => (hb.cell (p := ⟨gb, q, none⟩) hgb).trans (hs q hq)) hB hN (by omega)
  rw [hx k hk, show ((a + 8 * k : Nat) : Int) = (a : Int) + 8 * (k : Int) by omega] at this
  exact this)
 have HOF := Lib.hid (fun W => r8Of_any hl h00 W)
 have HALL := Lib.hid (preW_all x hl)
 have HW1 := Lib.hid hW1
 have HR0 := Lib.hid r0
 have HR1 := Lib.hid r1
 have HB1 := Lib.hid hb1
 have HS1 := Lib.hid hs1
 have haw : (a : Int) + 8 * 24 <= 66560 := by omega
 obtain ⟨gw, hgw⟩ : ∃ gw, gw = w.heap.size + 1 := ⟨_, rfl⟩
 have HGW := Lib.hid hgw
 clear hs hB hN ha hx h00 hW1 r0 r1 hb1 hs1 hgb hgw
 go_enter Tryz.func26, Tryz.ntmps26
 go_wp2_with fail
 (try unfold zeroW at HW1)
 (try unfold uw at HW1)
 rw [<- HW1.out]
 rw [<- HGW.out] at HR1 ⊢
 go_loopw [6] (fun i wr => ∃ k : Nat, k <= 24 /\ i = .int .i64 (k : Int) /\ Row wr gw 145 (preW x k).toArray /\ NdAt wr w.heap.size zeroNd /\ Below w.heap.size w wr) (fun i _ => 24 - (intOf i).toNat)
 case atStart => exact ⟨0, by omega, rfl, HR1.out, HR0.out, HB1.out⟩
 case round =>
  rename World => wr
  obtain ⟨k, hk, rfl, h1, h0, hb⟩ := hrel
  have H1 := Lib.hid h1
  have H0 := Lib.hid h0
  have HB := Lib.hid hb
  by_cases hlt : k < 24
  ·have hk24 : (k : Int) < 24 := by omega
   have hw0 : IntKind.u64.wrap (8 * (k : Int)) = 8 * (k : Int) := by rw [IntKind.wrap_u64]; omega
   have hw1 : IntKind.u64.wrap ((a : Int) + 8 * (k : Int)) = (a : Int) + 8 * (k : Int) := by rw [IntKind.wrap_u64]; omega
   have HC := Lib.hid (HWD.out wr k hb hlt)
   have hc : wr.cell? ⟨gw, k, none⟩ = some (.int .u64 0) := by
    rw [h1.cell, List.getElem?_toArray, preW_get x k hlt, if_neg (by omega)]
   have hf := h1.free k
   have HST := Lib.hid (preW_set x hlt)
   obtain ⟨v, hv⟩ : ∃ v, v = wAt x k := ⟨_, rfl⟩
   rw [<- hv] at HC HST
   clear h1 h0 hb hv
   go_wp2_with fail
   refine HC.out.mono ?_
   rintro e w2 ⟨rfl, hw2⟩
   subst hw2
   clear HC
   go_wp2_with fail
   refine ⟨⟨k + 1, by omega, by go_num, ?_, ?_, ?_⟩, by simp [intOf]; omega⟩
   ·rw [<- HST.out]
    exact H1.out.set k _
   ·exact H0.out.other (p := ⟨gw, k, none⟩) (by have := HGW.out; dsimp only; omega) _
   ·exact HB.out.setCell (p := ⟨gw, k, none⟩) (by have := HGW.out; dsimp only; omega) _
  ·obtain rfl : k = 24 := by omega
   clear h1 h0 hb
   obtain ⟨VS, hVS⟩ : ∃ VS, VS = preW x 24 := ⟨_, rfl⟩
   rw [<- hVS] at H1
   have HVL := Lib.hid (show VS.length = 24 by rw [hVS, preW_len])
   have HOF2 := Lib.hid (show ∀ W, Calls Tryz.prog 62 #[.agg VS.toArray] W fun e w' => e = .returned (.tuple #[(ofR x).1.V, .int .i64 (ofR x).2]) /\ Below W.heap.size W w' from fun W => by rw [hVS, HALL.out]; exact HOF.out W)
   obtain ⟨M, hM⟩ : ∃ M, M = (ofR x).1 := ⟨_, rfl⟩
   rw [<- hM] at HOF2
   have HM := Lib.hid hM
   obtain ⟨z, hz⟩ : ∃ z, z = (ofR x).2 := ⟨_, rfl⟩
   rw [<- hz] at HOF2
   obtain ⟨zn, hzn⟩ : ∃ zn, zn = zeroNd := ⟨_, rfl⟩
   clear hVS hM hz HOF HALL HWD hk haw hl
   go_wp2_with (first
    | ((with_reducible refine show_loadW17 ?_); refine wpList_load_mid rfl _ _ rfl gw 0 rfl VS _ (rowR H1.out) Tryz.underlying145 rfl (by rw [HVL.out]; exact w24I) ?_)
    | (go_at_call 62; refine (HOF2.out _).mono ?_; rintro e w3 ⟨rfl, hb3⟩; have HB3 := Lib.hid hb3; clear hb3)
    | ((with_reducible refine show_storeN ?_); refine wpList_store_row rfl _ _ _ rfl w3.heap.size M.cl rfl rfl (Row.new w3 71 zeroNd.cl.toArray) rfl ndI (cl_one _) ?_; obtain ⟨W4, hW4, hn4, hb4⟩ := store_ndH w3 M; rw [<- hW4]; have HN4 := Lib.hid hn4; have HB4 := Lib.hid (Below.and HB3.out hb4); have H04 := Lib.hid (Row.below H0.out HB4.out (Row.lt H0.out)); clear hW4 hn4 hb4)
    | ((with_reducible refine show_loadN ?_); refine wpList_load_mid rfl _ _ rfl w3.heap.size 0 rfl M.cl _ (ndR HN4.out) Tryz.underlying71 rfl ndI ?_)
    | ((with_reducible refine show_storeN ?_); refine wpList_store_row rfl _ _ _ rfl w.heap.size M.cl rfl rfl H04.out rfl ndI (cl_one _) ?_))
   refine bodyPost_ret (results_node1 rfl _ _ w.heap.size M rfl (row_setCells H04.out rfl)) rfl ⟨?_, ?_⟩
   ·rw [HM.out]
   ·exact setCells_low _ (Nat.le_refl _) (Below.and HB.out HB4.out)
end Go.Proofs.YtkbklooocdfcfaaGreatDoor
