/- Texts of this claim, packed: HoS, HoA, HoB, HoC, HoD, HoM. -/
import Derived.Test.YtiefgmibgdidpaaGreatDoorPh29
import Derived.Test.YtiefgmibgdidpaaGreatDoorPh32
import Derived.Test.YtiefgmibgdidpaaGreatDoorPh08
import Derived.Test.YtiefgmibgdidpaaGreatDoorPh34
import Derived.Test.YtiefgmibgdidpaaGreatDoorPh03
import Derived.Test.YtiefgmibgdidpaaGreatDoorPh20
import Derived.Test.YtiefgmibgdidpaaGreatDoorPh27
/- A hold's cells, as they lie; no conditions. -/
namespace Go.Proofs.YtiefgmibgdidpaaGreatDoor
open Go.RowKit
set_option linter.unusedVariables false
/-- A hold's state, as it lies. -/
structure HF where
  rn : Value
  si : Option Addr
  cl : Int
  key : Int
  at_ : Int
  nx : Value
  sn : Value
  la : Value
  n : Nd
  lk : Bool
  d : Bool
  k : Int
def HF.cells (s : HF) : List Value := [s.rn, .pointer s.si, .int .i64 s.cl, .int .u64 s.key, .int .u64 s.at_, s.nx, s.sn, s.la] ++ s.n.cl ++ [.bool s.lk, .bool s.d, .int .i64 s.k]
def HoAt (w : World) (g : Nat) (s : HF) : Prop := Row w g 38 s.cells.toArray
def HF.zero (x : Option Addr) (cl key : Int) : HF := ⟨.pointer none, x, cl, key, 0, .nilFunc, .pointer none, .pointer none, zeroNd, false, false, 0⟩
/-- A hold of which nothing is done. -/
def HF.new (x : Option Addr) (cl key a : Int) (g : Nat) : HF := { HF.zero x cl key with at_ := a, nx := nextV 32 g }
section
variable {w w' : World} {g : Nat} {s : HF}
theorem HoAt.lt (h : HoAt w g s) : g < w.heap.size := Row.lt h
theorem HoAt.below (h : HoAt w g s) (hb : Below w.heap.size w w') : HoAt w' g s := Row.below h hb (Row.lt h)
theorem HoAt.but {fp : Nat → Prop} (h : HoAt w g s) (hb : But w w' fp) (hn : ¬ fp g) : HoAt w' g s := hb.row h hn
theorem HoAt.ats (h : HoAt w g s) (v : Int) : HoAt (w.setCell ⟨g, 4, none⟩ (.int .u64 v)) g { s with at_ := v } := Row.set h 4 _
theorem HoAt.next (h : HoAt w g s) (v : Value) : HoAt (w.setCell ⟨g, 5, none⟩ v) g { s with nx := v } := Row.set h 5 v
theorem HoAt.snap (h : HoAt w g s) (v : Value) : HoAt (w.setCell ⟨g, 6, none⟩ v) g { s with sn := v } := Row.set h 6 v
theorem HoAt.locked (h : HoAt w g s) (v : Bool) : HoAt (w.setCell ⟨g, 29, none⟩ (.bool v)) g { s with lk := v } := Row.set h 29 _
theorem HoAt.done (h : HoAt w g s) (v : Bool) : HoAt (w.setCell ⟨g, 30, none⟩ (.bool v)) g { s with d := v } := Row.set h 30 _
theorem HoAt.code (h : HoAt w g s) (v : Int) : HoAt (w.setCell ⟨g, 31, none⟩ (.int .i64 v)) g { s with k := v } := Row.set h 31 _
end
theorem hbut1 {w w' : World} {g : Nat} (h : But w w' (fun q => q = g)) (i : Nat) (v : Value) : But w (w'.setCell ⟨g, i, none⟩ v) (fun q => q = g) := h.set (p := ⟨g, i, none⟩) rfl v
end Go.Proofs.YtiefgmibgdidpaaGreatDoor
/- A hold's small functions: New, what is wrong, what is refused, At, High, Apply; no conditions. -/
namespace Go.Proofs.YtiefgmibgdidpaaGreatDoor
open Go.RowKit
set_option linter.unusedVariables false
attribute [local go_sem] Oper.semAt_some
set_option maxRecDepth 100000 in
set_option maxHeartbeats 3200000 in
theorem hoCome_any {w : World} {g : Nat} {s : HF} (h : HoAt w g s) (a : Int) :
    Calls Tryz.prog 16 #[.pointer (some ⟨g, 0, none⟩), .int .u64 a] w fun e w' => e = .returned (.tuple #[]) ∧ HoAt w' g { s with at_ := a, nx := nextV 32 g } ∧ But w w' (fun q => q = g) := by
  have c4 : w.cell? ⟨g, 4, none⟩ = some (.int .u64 s.at_) := Row.cell h 4
  have c5 : w.cell? ⟨g, 5, none⟩ = some s.nx := Row.cell h 5
  have f4 := Row.free h 4
  have f5 := Row.free h 5
  have HE := Lib.hid (show HoAt ((w.setCell ⟨g, 4, none⟩ (.int .u64 a)).setCell ⟨g, 5, none⟩ (.func (.func 32) #[.pointer (some ⟨g, 0, none⟩)] #[])) g { s with at_ := a, nx := nextV 32 g } ∧ But w ((w.setCell ⟨g, 4, none⟩ (.int .u64 a)).setCell ⟨g, 5, none⟩ (.func (.func 32) #[.pointer (some ⟨g, 0, none⟩)] #[])) (fun q => q = g) from
    ⟨(h.ats a).next _, hbut1 (hbut1 (But.refl w (fun q => q = g)) 4 _) 5 _⟩)
  clear h
  go_enter Tryz.func16, Tryz.ntmps16
  go_wp2
  go_end0
  exact ⟨rfl, HE.out⟩
set_option maxRecDepth 100000 in
set_option maxHeartbeats 3200000 in
theorem hoNew_any (x : Option Addr) (cl a key : Int) (w : World) :
    Calls Tryz.prog 6 #[.pointer x, .int .i64 cl, .int .u64 a, .int .u64 key] w fun e w' => ∃ g, e = .returned (.pointer (some ⟨g, 0, none⟩)) ∧ HoAt w' g (HF.new x cl key a g) ∧ w.heap.size ≤ g ∧ Below w.heap.size w w' := by
  have hb1 : Below w.heap.size w (w.alloc (.cells (HF.zero x cl key).cells.toArray 38)) := alloc_below _ _
  have hr1 : HoAt (w.alloc (.cells (HF.zero x cl key).cells.toArray 38)) w.heap.size (HF.zero x cl key) := Row.new _ _ _
  have HC := Lib.hid (hoCome_any hr1 a)
  have HB := Lib.hid hb1
  clear hb1 hr1
  go_enter Tryz.func6, Tryz.ntmps6
  go_wp2_with fail
  refine HC.out.mono ?_
  rintro e w2 ⟨rfl, h2, hb2⟩
  have HE := Lib.hid (show ∃ g, g = w.heap.size ∧ HoAt w2 g (HF.new x cl key a g) ∧ w.heap.size ≤ g ∧ Below w.heap.size w w2 from ⟨_, rfl, h2, Nat.le_refl _, HB.out.trans (hb2.below HB.out.size fun q e => by omega)⟩)
  clear h2 hb2 HC HB
  go_wp2
  go_ret
  obtain ⟨g, rfl, h⟩ := HE.out
  exact ⟨_, rfl, h⟩
set_option maxRecDepth 100000 in
set_option maxHeartbeats 3200000 in
theorem hoWrong_none {w : World} {g : Nat} {s : HF} {m : Option Addr} (h : HoAt w g s) (hM : Calls Tryz.prog 27 #[.pointer s.si] w fun e w' => e = .returned (.pointer m) ∧ w = w') (hZ : Calls Tryz.prog 28 #[.pointer m] w fun e w' => e = .returned (.int .i64 0) ∧ w = w') :
    Calls Tryz.prog 13 #[.pointer (some ⟨g, 0, none⟩)] w fun e w' => e = .returned (.int .i64 1) ∧ w = w' := by
  have c1 : w.cell? ⟨g, 1, none⟩ = some (.pointer s.si) := Row.cell h 1
  have HM := Lib.hid hM
  have HZ := Lib.hid hZ
  clear h hM hZ
  go_enter Tryz.func13, Tryz.ntmps13
  go_wp2_with fail
  refine HM.out.mono ?_
  rintro e w' ⟨rfl, rfl⟩
  go_wp2_with fail
  refine HZ.out.mono ?_
  rintro e w' ⟨rfl, rfl⟩
  go_wp2_with fail
  go_ret
  exact ⟨rfl, rfl⟩
/-- What a hold asks of its site. -/
structure SiteK (w : World) (si m : Option Addr) (z n : Int) : Prop where
  mem : ∀ W, Below w.heap.size w W → Calls Tryz.prog 27 #[.pointer si] W fun e w' => e = .returned (.pointer m) ∧ W = w'
  size : ∀ W, Below w.heap.size w W → Calls Tryz.prog 28 #[.pointer m] W fun e w' => e = .returned (.int .i64 z) ∧ W = w'
  clients : ∀ W, Below w.heap.size w W → Calls Tryz.prog 29 #[.pointer si] W fun e w' => e = .returned (.int .i64 n) ∧ W = w'
  nz : z ≠ 0
set_option maxRecDepth 100000 in
set_option maxHeartbeats 3200000 in
theorem hoWrong_any {w : World} {g : Nat} {s : HF} {m : Option Addr} {z n : Int} (h : HoAt w g s) (K : SiteK w s.si m z n) (h0 : 0 ≤ s.cl) (ha : s.at_ ≠ 0) :
    Calls Tryz.prog 13 #[.pointer (some ⟨g, 0, none⟩)] w fun e w' => e = .returned (.int .i64 (if n ≤ s.cl then 12 else 0)) ∧ Below w.heap.size w w' := by
  have mixed : Tryz.prog.follows .mixedOrders = true := by kernel_rfl
  have c1 : w.cell? ⟨g, 1, none⟩ = some (.pointer s.si) := Row.cell h 1
  have c2 : w.cell? ⟨g, 2, none⟩ = some (.int .i64 s.cl) := Row.cell h 2
  have c4 : w.cell? ⟨g, 4, none⟩ = some (.int .u64 s.at_) := Row.cell h 4
  have HM := Lib.hid (K.mem w (Below.refl _ _))
  have HZ := Lib.hid (K.size w (Below.refl _ _))
  have HC := Lib.hid fun p : LowBy w => Calls.low_of_same (w := w) (p := p) (K.clients p.W p.low)
  have hz2 : (z == 0) = false := by simpa using K.nz
  have h1 : ¬ s.cl < 0 := by omega
  have h2 : decide (s.cl < 0) = false := decide_eq_false h1
  have h5 : (s.at_ == 0) = false := by simpa using ha
  obtain ⟨cl, hcl⟩ : ∃ cl, cl = s.cl := ⟨_, rfl⟩
  obtain ⟨si, hsi⟩ : ∃ si, si = s.si := ⟨_, rfl⟩
  obtain ⟨a, haa⟩ : ∃ a, a = s.at_ := ⟨_, rfl⟩
  rw [← hcl] at c2 h0 h1 h2 ⊢
  rw [← hsi] at c1 HM HC
  rw [← haa] at c4 ha h5
  have ca := fun p : LowBy w => p.cell c1
  have cb := fun p : LowBy w => p.cell c2
  have cd := fun p : LowBy w => p.cell c4
  clear h K hcl hsi haa
  by_cases hn : n ≤ cl
  · have h3 : decide (n ≤ cl) = true := decide_eq_true hn
    rw [if_pos hn]
    go_enter Tryz.func13, Tryz.ntmps13
    go_wp2_with fail
    refine HM.out.mono ?_
    rintro e w' ⟨rfl, rfl⟩
    go_wp2_with fail
    refine HZ.out.mono ?_
    rintro e w' ⟨rfl, rfl⟩
    go_wp2_with fail
    refine wp_region_quiet_low (by assumption) (by kernel_rfl) ?_
    repeat (go_big_quiet_step ((go_at_call 29; with_reducible exact HC.out _)))
    refine wpQuiet_nil ?_
    intro _ hw'
    obtain ⟨q, hw''⟩ := hw'
    subst hw''
    have HF := Lib.hid q.low
    clear ca cb cd HC HM HZ c1 c2 c4
    go_wp2
    go_ret
    exact ⟨rfl, HF.out⟩
  · have h3 : decide (n ≤ cl) = false := decide_eq_false hn
    rw [if_neg hn]
    go_enter Tryz.func13, Tryz.ntmps13
    go_wp2_with fail
    refine HM.out.mono ?_
    rintro e w' ⟨rfl, rfl⟩
    go_wp2_with fail
    refine HZ.out.mono ?_
    rintro e w' ⟨rfl, rfl⟩
    go_wp2_with fail
    refine wp_region_quiet_low (by assumption) (by kernel_rfl) ?_
    repeat (go_big_quiet_step ((go_at_call 29; with_reducible exact HC.out _)))
    refine wpQuiet_nil ?_
    intro _ hw'
    obtain ⟨q, hw''⟩ := hw'
    subst hw''
    have c4' := cd q
    have HF := Lib.hid q.low
    clear ca cb cd HC HM HZ c1 c2 c4
    go_wp2
    go_ret
    exact ⟨rfl, HF.out⟩
theorem hoWrong_in {w : World} {g : Nat} {s : HF} {m : Option Addr} {z n : Int} (h : HoAt w g s) (K : SiteK w s.si m z n) (h0 : 0 ≤ s.cl) (ha : s.at_ ≠ 0) (hn : s.cl < n) :
    Calls Tryz.prog 13 #[.pointer (some ⟨g, 0, none⟩)] w fun e w' => e = .returned (.int .i64 0) ∧ Below w.heap.size w w' := by
  have := hoWrong_any h K h0 ha
  rwa [if_neg (by omega)] at this
theorem hoWrong_out {w : World} {g : Nat} {s : HF} {m : Option Addr} {z n : Int} (h : HoAt w g s) (K : SiteK w s.si m z n) (h0 : 0 ≤ s.cl) (ha : s.at_ ≠ 0) (hn : n ≤ s.cl) :
    Calls Tryz.prog 13 #[.pointer (some ⟨g, 0, none⟩)] w fun e w' => e = .returned (.int .i64 12) ∧ Below w.heap.size w w' := by
  have := hoWrong_any h K h0 ha
  rwa [if_pos hn] at this
theorem hoRefusal_nil (w : World) : Calls Tryz.prog 15 #[.pointer none] w fun e w' => e = .returned (.int .i64 1) ∧ w = w' := by
  go_enter Tryz.func15, Tryz.ntmps15
  go_wp2
  go_ret
  exact ⟨rfl, rfl⟩
theorem hoRefusal_err {w : World} {g : Nat} {s : HF} (h : HoAt w g s) (hd : s.d = true) (hk : s.k ≠ 0) : Calls Tryz.prog 15 #[.pointer (some ⟨g, 0, none⟩)] w fun e w' => e = .returned (.int .i64 s.k) ∧ w = w' := by
  have c30 : w.cell? ⟨g, 30, none⟩ = some (.bool s.d) := Row.cell h 30
  have c31 : w.cell? ⟨g, 31, none⟩ = some (.int .i64 s.k) := Row.cell h 31
  rw [hd] at c30
  obtain ⟨k, hkk⟩ : ∃ k, k = s.k := ⟨_, rfl⟩
  rw [← hkk] at c31 hk ⊢
  have hk2 : (k != 0) = true := by simpa using hk
  clear h hd hkk
  go_enter Tryz.func15, Tryz.ntmps15
  go_wp2
  go_ret
  exact ⟨rfl, rfl⟩
theorem hoRefusal_done {w : World} {g : Nat} {s : HF} (h : HoAt w g s) (hd : s.d = true) (hk : s.k = 0) : Calls Tryz.prog 15 #[.pointer (some ⟨g, 0, none⟩)] w fun e w' => e = .returned (.int .i64 (if s.lk then 0 else 7)) ∧ w = w' := by
  have c29 : w.cell? ⟨g, 29, none⟩ = some (.bool s.lk) := Row.cell h 29
  have c30 : w.cell? ⟨g, 30, none⟩ = some (.bool s.d) := Row.cell h 30
  have c31 : w.cell? ⟨g, 31, none⟩ = some (.int .i64 s.k) := Row.cell h 31
  rw [hd] at c30
  rw [hk] at c31
  obtain ⟨b, hb⟩ : ∃ b, b = s.lk := ⟨_, rfl⟩
  rw [← hb] at c29 ⊢
  clear h hd hk hb
  cases b with
  | true =>
    go_enter Tryz.func15, Tryz.ntmps15
    go_wp2
    go_ret
    exact ⟨rfl, rfl⟩
  | false =>
    go_enter Tryz.func15, Tryz.ntmps15
    go_wp2
    go_ret
    exact ⟨rfl, rfl⟩
theorem hoRefusal_not {w : World} {g : Nat} {s : HF} (h : HoAt w g s) (hd : s.d = false) (hW : Calls Tryz.prog 13 #[.pointer (some ⟨g, 0, none⟩)] w fun e w' => e = .returned (.int .i64 0) ∧ Below w.heap.size w w') : Calls Tryz.prog 15 #[.pointer (some ⟨g, 0, none⟩)] w fun e w' => e = .returned (.int .i64 7) ∧ Below w.heap.size w w' := by
  have c30 : w.cell? ⟨g, 30, none⟩ = some (.bool s.d) := Row.cell h 30
  rw [hd] at c30
  have HW := Lib.hid hW
  clear h hd hW
  go_enter Tryz.func15, Tryz.ntmps15
  go_wp2_with fail
  refine HW.out.mono ?_
  rintro e w' ⟨rfl, hb⟩
  have HB := Lib.hid hb
  clear hb HW
  go_wp2_with fail
  go_ret
  exact ⟨rfl, HB.out⟩
end Go.Proofs.YtiefgmibgdidpaaGreatDoor
/- A hold's functions: let, At, High, Apply, Release; no conditions. -/
namespace Go.Proofs.YtiefgmibgdidpaaGreatDoor
open Go.RowKit
set_option linter.unusedVariables false
attribute [local go_sem] Oper.semAt_some
theorem step_storeH1 {ops : Array Oper} {o : Oper} {a : Act} {w : World} {K : Act → World → Prop} {Q : Exit → Act → World → Prop} {E : Prop} (hw : Region.wanted o (yielded ops a.tmps) = true) (ty : TypeId) (x y : Operand) (ho : o.op = .store ty x y)
    (b i : Nat) (v old : Value) (hx : a.eval x = .pointer (some ⟨b, i, none⟩)) (hy : a.eval y = v) (hv : v.cells = #[v]) (hc : w.cell? ⟨b, i, none⟩ = some old) (hf : w.frozen? ⟨b, i, none⟩ = false) (hi : (Tryz.prog.info? ty).map (·.size) = some 1) (h1 : v.oneCell' = true)
    (h : K (a.put o.dst undef) (w.setCell ⟨b, i, none⟩ v)) : if Region.wanted o (yielded ops a.tmps) = true then Oper.wp Tryz.prog o a w K Q else E := by
  rw [if_pos hw]
  have hs := run_storeCells_cells (P := Tryz.prog) b i [v] 0 w (fun j hj => by
    obtain rfl : j = 0 := by simpa using hj
    rw [show i + 0 + 0 = i from rfl, hc]; rfl) (fun j hj => by
    obtain rfl : j = 0 := by simpa using hj
    exact hf) (fun u hu => by
    obtain rfl : u = v := by simpa using hu
    exact h1)
  have hr : (storeVar ty ⟨b, i, none⟩ v).run Tryz.prog w = .ok () (w.setCell ⟨b, i, none⟩ v) := by
    have hs' : (storeCells ⟨b, i, none⟩ [v] 0).run Tryz.prog w = .ok () (w.setCell ⟨b, i, none⟩ v) := hs
    cases hq : Tryz.prog.info? ty with
    | none => simp [hq] at hi
    | some inf =>
      have hz : inf.size = 1 := by simpa [hq] using hi
      simp [storeVar, sizeOf, typeInfo, hq, hv, hz, hs']
  unfold Oper.wp execOp
  simp only [ho, hx, hy, Instr.storeAt, Instr.sureAddr, Sem.run_bind, Sem.run_pure, Result.andThen_ok, hr]
  exact h
theorem step_storeNdH {ops : Array Oper} {o : Oper} {a : Act} {w : World} {K : Act → World → Prop} {Q : Exit → Act → World → Prop} {E : Prop} (hw : Region.wanted o (yielded ops a.tmps) = true) (x y : Operand) (ho : o.op = .store 35 x y)
    (g : Nat) (vs : List Value) (old : Array Value) (hx : a.eval x = .pointer (some ⟨g, 0, none⟩)) (hy : a.eval y = .agg vs.toArray) (hr : Row w g 35 old) (hold : old.size = 21) (hl : vs.length = 21) (h1 : ∀ v ∈ vs, v.oneCell' = true)
    (h : ∀ w', Row w' g 35 vs.toArray → (∀ B, B ≤ g → B ≤ w.heap.size → Below B w w') → (∀ k, k ≠ g → w'.heap[k]? = w.heap[k]?) → K (a.put o.dst undef) w') : if Region.wanted o (yielded ops a.tmps) = true then Oper.wp Tryz.prog o a w K Q else E := by
  rw [if_pos hw]
  refine wp_store_row 35 x y ho g vs.toArray hx hy 35 old hr (by rw [List.size_toArray, hl]; exact ndI) (by rw [hold, List.size_toArray, hl]) (all_oneCell_toArray h1) ?_
  exact h _ (hr.setRow _) (fun B hB hB2 => below_setRow (Below.refl _ _) hB _) (fun k hk => setRow_other w g k _ hk)
theorem results_tctH {fn : Func} {p u v : Tmp} (h : fn.results = #[.tmp u, .cell p 35, .tmp v]) (tmps : Array Value) (w : World) (g : Nat) (n : Nd)
    (hp : tmps.getD p undef = .pointer (some ⟨g, 0, none⟩)) (hg : NdAt w g n) :
    (results fn tmps).run Tryz.prog w = .ok (.tuple #[tmps.getD u undef, n.V, tmps.getD v undef]) w := by
  have hv := run_loadVar_mid w g 0 35 n.cl _ (ndR hg) Tryz.underlying35 rfl ndI
  have hp' : tmps[p]?.getD undef = .pointer (some ⟨g, 0, none⟩) := by simpa using hp
  simp only [results, h]
  simp [Sem.run_bind, Result.andThen, hp', asAddr, hv]
theorem store_ndH (w1 : World) (n : Nd) : ∃ W2, W2 = (w1.alloc (.cells #[.int .i64 0, .int .u64 0, .int .u64 0, .int .u64 0, .int .u64 0, .int .u64 0, .int .u64 0, .int .u64 0, .int .u64 0, .int .u64 0, .int .u64 0, .int .u64 0, .int .u64 0, .int .u64 0, .int .u64 0, .int .u64 0, .int .u64 0, .int .u64 0, .int .u64 0, .int .u64 0, .int .u64 0] 35)).setCells w1.heap.size 0 n.cl ∧ NdAt W2 w1.heap.size n ∧ Below w1.heap.size w1 W2 :=
  ⟨_, rfl, row_setCells (Row.new w1 35 zeroNd.cl.toArray) rfl, setCells_low _ (Nat.le_refl _) (alloc_low _ _)⟩
def HF.pre (s : HF) : List Value := [s.rn, .pointer s.si, .int .i64 s.cl, .int .u64 s.key, .int .u64 s.at_, s.nx, s.sn, s.la]
def HF.post (s : HF) : List Value := [.bool s.lk, .bool s.d, .int .i64 s.k]
theorem HF.cells_nd (s : HF) : s.cells = s.pre ++ (s.n.cl ++ s.post) := rfl
theorem setL_midH (pre old post vs : List Value) (h : old.length = vs.length) : setL (pre ++ (old ++ post)).toArray pre.length vs = (pre ++ (vs ++ post)).toArray := by
  have hg := (setL_get vs pre.length (pre ++ (old ++ post)).toArray (by simp; omega)).2
  apply Array.ext_getElem?
  intro i
  rw [hg i, List.getElem?_toArray, List.getElem?_toArray]
  by_cases h1 : i < pre.length
  · rw [if_neg (by omega), List.getElem?_append_left h1, List.getElem?_append_left h1]
  · by_cases h2 : i < pre.length + vs.length
    · rw [if_pos ⟨by omega, h2⟩, List.getElem?_append_right (l₁ := pre) (by omega), List.getElem?_append_left (by omega)]
    · rw [if_neg (by omega), List.getElem?_append_right (l₁ := pre) (l₂ := old ++ post) (by omega), List.getElem?_append_right (l₁ := pre) (l₂ := vs ++ post) (by omega), List.getElem?_append_right (l₁ := old) (by omega), List.getElem?_append_right (l₁ := vs) (by omega), h]
theorem HoAt.node {w : World} {g : Nat} {s : HF} (h : HoAt w g s) (n : Nd) : HoAt (w.setCells g 8 n.cl) g { s with n := n } := by
  have h1 := row_setCellsAux n.cl 8 w s.cells.toArray h
  have e := setL_midH s.pre s.n.cl s.post n.cl rfl
  rw [HF.cells_nd] at h1
  exact (show Row _ _ _ _ from e ▸ h1)
theorem row_thereH {w : World} {b : Nat} {t : TypeId} {cs : Array Value} (h : Row w b t cs) {o n : Nat} (hn : o + n ≤ cs.size) : w.there b o n := fun j hj => by
  exact ⟨by rw [h.cell, Array.getElem?_eq_getElem (by omega)]; rfl, h.free _⟩
theorem HoAt.rng {w : World} {g : Nat} {s : HF} (h : HoAt w g s) : w.rangeAt g 8 s.n.cl := fun j v hv => by
  rw [Row.cell h, List.getElem?_toArray, HF.cells_nd, List.getElem?_append_right (by show 8 ≤ 8 + j; omega), show 8 + j - s.pre.length = j by show 8 + j - 8 = j; omega, List.getElem?_append_left (List.getElem?_eq_some_iff.1 hv).1]
  exact hv
set_option maxRecDepth 100000 in
set_option maxHeartbeats 3200000 in
theorem hoLet_no {w : World} {g : Nat} {s : HF} {t : Option Addr} {v : Int} (h : HoAt w g s) (hl : s.lk = false) (hL : Calls Tryz.prog 25 #[.pointer s.si] w fun e w' => e = .returned (.pointer t) ∧ w = w') (hW : Calls Tryz.prog 30 #[.pointer t, .int .i64 s.cl] w fun e w' => e = .returned (.tuple #[.int .u64 v, .bool false]) ∧ Below w.heap.size w w') :
    Calls Tryz.prog 14 #[.pointer (some ⟨g, 0, none⟩)] w fun e w' => e = .returned (.bool false) ∧ Below w.heap.size w w' := by
  have c1 : w.cell? ⟨g, 1, none⟩ = some (.pointer s.si) := Row.cell h 1
  have c2 : w.cell? ⟨g, 2, none⟩ = some (.int .i64 s.cl) := Row.cell h 2
  have HH := Lib.hid h
  have HLK := Lib.hid hl
  have HL := Lib.hid hL
  have HW := Lib.hid hW
  clear h hl hL hW
  go_enter Tryz.func14, Tryz.ntmps14
  go_wp2_with fail
  refine HL.out.mono ?_
  rintro e w' ⟨rfl, rfl⟩
  go_wp2_with fail
  refine HW.out.mono ?_
  rintro e w1 ⟨rfl, hb⟩
  have c29 : w1.cell? ⟨g, 29, none⟩ = some (.bool s.lk) := Row.cell (HH.out.below hb) 29
  rw [HLK.out] at c29
  have HB := Lib.hid hb
  clear hb c1 c2 HL HW
  go_wp2_with fail
  go_ret
  exact ⟨rfl, HB.out⟩
set_option maxRecDepth 100000 in
set_option maxHeartbeats 3200000 in
theorem hoLet_yes {w : World} {g : Nat} {s : HF} {t : Option Addr} {v : Int} {b r : Bool} {Q : World → Prop} (h : HoAt w g s) (hl : s.lk = true) (hL : Calls Tryz.prog 25 #[.pointer s.si] w fun e w' => e = .returned (.pointer t) ∧ w = w') (hW : Calls Tryz.prog 30 #[.pointer t, .int .i64 s.cl] w fun e w' => e = .returned (.tuple #[.int .u64 v, .bool b]) ∧ Below w.heap.size w w')
    (hR : ∀ W, HoAt W g { s with lk := false } → But w W (fun q => q = g) → Calls Tryz.prog 31 #[.pointer t, .int .i64 s.cl, .int .u64 s.at_] W fun e w' => e = .returned (.bool r) ∧ Q w') (hQ : ∀ w', Q w' → HoAt w' g { s with lk := false }) :
    Calls Tryz.prog 14 #[.pointer (some ⟨g, 0, none⟩)] w fun e w' => e = .returned (.bool r) ∧ Q w' := by
  have mixed : Tryz.prog.follows .mixedOrders = true := by kernel_rfl
  have c1 : w.cell? ⟨g, 1, none⟩ = some (.pointer s.si) := Row.cell h 1
  have c2 : w.cell? ⟨g, 2, none⟩ = some (.int .i64 s.cl) := Row.cell h 2
  have HH := Lib.hid h
  have HLK := Lib.hid hl
  have HL := Lib.hid hL
  have HW := Lib.hid hW
  have HRR := Lib.hid hR
  have hQS := Lib.hid (show ∀ w', Q w' → w'.cell? ⟨g, 2, none⟩ = some (.int .i64 s.cl) ∧ w'.cell? ⟨g, 4, none⟩ = some (.int .u64 s.at_) from fun w' hq => ⟨Row.cell (hQ w' hq) 2, Row.cell (hQ w' hq) 4⟩)
  have EG := Lib.hid (enters_of Tryz.func31 (by kernel_rfl) rfl)
  clear h hl hL hW hR hQ
  go_enter Tryz.func14, Tryz.ntmps14
  go_wp2_with fail
  refine HL.out.mono ?_
  rintro e w' ⟨rfl, rfl⟩
  go_wp2_with fail
  refine HW.out.mono ?_
  rintro e w1 ⟨rfl, hb⟩
  have h1 := HH.out.below hb
  have c29 : w1.cell? ⟨g, 29, none⟩ = some (.bool s.lk) := Row.cell h1 29
  rw [HLK.out] at c29
  have f29 := Row.free h1 29
  obtain ⟨W2, hW2⟩ : ∃ W2, W2 = w1.setCell ⟨g, 29, none⟩ (.bool false) := ⟨_, rfl⟩
  have h2 : HoAt W2 g { s with lk := false } := by rw [hW2]; exact h1.locked false
  have hb2 : But w W2 (fun q => q = g) := by rw [hW2]; exact hbut1 (But.of_below hb (fun q => q = g)) 29 _
  have HRD := Lib.hid (show ∀ W, Below W2.heap.size W2 W → Calls Tryz.prog 31 #[.pointer t, .int .i64 s.cl, .int .u64 s.at_] W fun e w' => e = .returned (.bool r) ∧ Q w' from fun W hW => HRR.out W (h2.below hW) (hb2.trans (But.of_below hW (fun q => q = g)) fun q hq => .inl hq))
  have HS2 := Lib.hid (show ∀ W, Below W2.heap.size W2 W → W.cell? ⟨g, 2, none⟩ = some (.int .i64 s.cl) ∧ W.cell? ⟨g, 4, none⟩ = some (.int .u64 s.at_) from fun W hW => ⟨Row.cell (h2.below hW) 2, Row.cell (h2.below hW) 4⟩)
  obtain ⟨cl, hcl⟩ : ∃ x, x = s.cl := ⟨_, rfl⟩
  obtain ⟨a, ha⟩ : ∃ x, x = s.at_ := ⟨_, rfl⟩
  rw [← hcl, ← ha] at HS2 HRD hQS
  clear hb h1 h2 hb2 c1 c2 HL HW HRR HH HLK hcl ha
  go_upto_region 6 with (fail)
  (try rw [← hW2])
  clear c29 f29 hW2
  refine wp_region_held_drew (S := fun W : World => W.cell? ⟨g, 2, none⟩ = some (.int .i64 cl) ∧ W.cell? ⟨g, 4, none⟩ = some (.int .u64 a)) (by kernel_rfl) (HS2.out _ (drew_below _)) (fun hHeld => ?_)
  refine wpAnyH_take (i := 0) (oi := ⟨some 40, _, _, _, _, _⟩) (v := .pointer t) rfl (by kernel_rfl) (by kernel_rfl) (by kernel_rfl) (fun _ _ _ h => h) (Or.inl ⟨by kernel_rfl, by intro WW hSw; obtain ⟨s2, s4⟩ := hSw; go_simp⟩) (by assumption) ?_
  (try simp only [Act.put, List.setIfInBounds_toArray, List.set_cons_zero, List.set_cons_succ])
  refine wpAnyH_take (i := 1) (oi := ⟨some 41, _, _, _, _, _⟩) (v := .pointer (some ⟨g, 0, none⟩)) rfl (by kernel_rfl) (by kernel_rfl) (by kernel_rfl) (fun _ _ _ h => h) (Or.inl ⟨by kernel_rfl, by intro WW hSw; obtain ⟨s2, s4⟩ := hSw; go_simp⟩) (by assumption) ?_
  (try simp only [Act.put, List.setIfInBounds_toArray, List.set_cons_zero, List.set_cons_succ])
  refine wpAnyH_take (i := 2) (oi := ⟨some 42, _, _, _, _, _⟩) (v := .pointer (some ⟨g, 0, none⟩)) rfl (by kernel_rfl) (by kernel_rfl) (by kernel_rfl) (fun _ _ _ h => h) (Or.inl ⟨by kernel_rfl, by intro WW hSw; obtain ⟨s2, s4⟩ := hSw; go_simp⟩) (by assumption) ?_
  (try simp only [Act.put, List.setIfInBounds_toArray, List.set_cons_zero, List.set_cons_succ])
  refine wpAnyH_take (i := 3) (oi := ⟨some 43, _, _, _, _, _⟩) (v := .pointer (some ⟨g, 2, none⟩)) rfl (by kernel_rfl) (by kernel_rfl) (by kernel_rfl) (fun _ _ _ h => h) (Or.inl ⟨by kernel_rfl, by intro WW hSw; obtain ⟨s2, s4⟩ := hSw; go_simp⟩) (by assumption) ?_
  (try simp only [Act.put, List.setIfInBounds_toArray, List.set_cons_zero, List.set_cons_succ])
  refine wpAnyH_take (i := 4) (oi := ⟨some 44, _, _, _, _, _⟩) (v := .int .i64 cl) rfl (by kernel_rfl) (by kernel_rfl) (by kernel_rfl) (fun _ _ _ h => h) (Or.inl ⟨by kernel_rfl, by intro WW hSw; obtain ⟨s2, s4⟩ := hSw; go_simp⟩) (by assumption) ?_
  (try simp only [Act.put, List.setIfInBounds_toArray, List.set_cons_zero, List.set_cons_succ])
  refine wpAnyH_take (i := 5) (oi := ⟨some 45, _, _, _, _, _⟩) (v := .pointer (some ⟨g, 0, none⟩)) rfl (by kernel_rfl) (by kernel_rfl) (by kernel_rfl) (fun _ _ _ h => h) (Or.inl ⟨by kernel_rfl, by intro WW hSw; obtain ⟨s2, s4⟩ := hSw; go_simp⟩) (by assumption) ?_
  (try simp only [Act.put, List.setIfInBounds_toArray, List.set_cons_zero, List.set_cons_succ])
  refine wpAnyH_take (i := 6) (oi := ⟨some 46, _, _, _, _, _⟩) (v := .pointer (some ⟨g, 0, none⟩)) rfl (by kernel_rfl) (by kernel_rfl) (by kernel_rfl) (fun _ _ _ h => h) (Or.inl ⟨by kernel_rfl, by intro WW hSw; obtain ⟨s2, s4⟩ := hSw; go_simp⟩) (by assumption) ?_
  (try simp only [Act.put, List.setIfInBounds_toArray, List.set_cons_zero, List.set_cons_succ])
  refine wpAnyH_take (i := 7) (oi := ⟨some 47, _, _, _, _, _⟩) (v := .pointer (some ⟨g, 4, none⟩)) rfl (by kernel_rfl) (by kernel_rfl) (by kernel_rfl) (fun _ _ _ h => h) (Or.inl ⟨by kernel_rfl, by intro WW hSw; obtain ⟨s2, s4⟩ := hSw; go_simp⟩) (by assumption) ?_
  (try simp only [Act.put, List.setIfInBounds_toArray, List.set_cons_zero, List.set_cons_succ])
  refine wpAnyH_take (i := 8) (oi := ⟨some 48, _, _, _, _, _⟩) (v := .int .u64 a) rfl (by kernel_rfl) (by kernel_rfl) (by kernel_rfl) (fun _ _ _ h => h) (Or.inl ⟨by kernel_rfl, by intro WW hSw; obtain ⟨s2, s4⟩ := hSw; go_simp⟩) (by assumption) ?_
  (try simp only [Act.put, List.setIfInBounds_toArray, List.set_cons_zero, List.set_cons_succ])
  refine wpAnyH_one (i := 9) (oi := ⟨some 49, _, _, _, _, _⟩) rfl (by kernel_rfl) (fun K hK => ?_)
  refine step_calls (by rfl) 31 EG.out [.tmp 40, .tmp 44, .tmp 48] _ rfl [.pointer t, .int .i64 cl, .int .u64 a] rfl (HRD.out _ (drew_below _)) ?_
  rintro e w5 ⟨rfl, hq⟩
  have HQ := Lib.hid hq
  refine ⟨_, rfl, hK _ _ (by exact (hQS.out w5 hq)) (fun hHeld => ?_)⟩
  clear hK K
  (try simp only [Act.put, List.setIfInBounds_toArray, List.set_cons_zero, List.set_cons_succ])
  refine wpAnyH_take (i := 10) (oi := ⟨some 2, _, _, _, _, _⟩) (v := .bool r) rfl (by kernel_rfl) (by kernel_rfl) (by kernel_rfl) (fun _ _ _ h => h) (Or.inl ⟨by kernel_rfl, by intro WW hSw; obtain ⟨s2, s4⟩ := hSw; go_simp⟩) (by assumption) ?_
  (try simp only [Act.put, List.setIfInBounds_toArray, List.set_cons_zero, List.set_cons_succ])
  refine wpAnyH_done (by kernel_rfl) ?_ _
  clear hHeld
  go_wp2_with fail
  (try refine (‹∀ (a : Act) (w : World), Code.wp Tryz.prog _ _ a w → _›) _ _ ?_)
  (try go_wp2_with fail)
  go_ret
  exact ⟨rfl, HQ.out⟩
set_option maxRecDepth 100000 in
set_option maxHeartbeats 3200000 in
theorem hoAt_no {w : World} {p : Option Addr} {k : Int} (hk : k ≠ 0) (HR : ∀ W, Below w.heap.size w W → Calls Tryz.prog 15 #[.pointer p] W fun e w' => e = .returned (.int .i64 k) ∧ Below W.heap.size W w') :
    Calls Tryz.prog 5 #[.pointer p] w fun e w' => e = .returned (.tuple #[.int .u64 0, zeroNd.V, .int .i64 k]) ∧ Below w.heap.size w w' := by
  obtain ⟨W0, hW0⟩ : ∃ W0, W0 = w.alloc (.cells zeroNd.cl.toArray 35) := ⟨_, rfl⟩
  have hb0 : Below w.heap.size w W0 := by rw [hW0]; exact alloc_low _ _
  have HT := Lib.hid (HR W0 hb0)
  have HR0 := Lib.hid (show NdAt W0 w.heap.size zeroNd from by rw [hW0]; exact Row.new _ _ _)
  have HB0 := Lib.hid hb0
  have HW0 := Lib.hid hW0
  have hk2 : (k != 0) = true := by simpa using hk
  clear hb0 hW0 HR
  go_enter Tryz.func5, Tryz.ntmps5
  go_upto_region 1 with (fail)
  have HWW := HW0.out
  unfold zeroNd Nd.cl uw at HWW
  rw [← HWW]
  clear HWW
  go_wp2_with fail
  refine HT.out.mono ?_
  rintro e w1 ⟨rfl, hb1⟩
  have HB1 := Lib.hid (Below.and HB0.out hb1)
  have HR1 := Lib.hid (HR0.out.below hb1 HR0.out.lt)
  have hth := row_thereH (n := 21) (o := 0) HR1.out (by show 0 + 21 ≤ 21; decide)
  have HTH := Lib.hid hth
  clear hb1 HT hth
  go_wp2_with (first
    | ((with_reducible refine show_storeN ?_); refine wpList_store_mid rfl _ _ _ rfl w.heap.size 0 zeroNd.cl.toArray rfl rfl HTH.out ndI (all_oneCell_toArray (cl_one _)) ?_; obtain ⟨W2, hW2⟩ : ∃ W2, W2 = w1.setCells w.heap.size 0 zeroNd.cl := ⟨_, rfl⟩; have HR2 := Lib.hid (show NdAt W2 w.heap.size zeroNd from by rw [hW2]; exact row_setCells HR1.out rfl); have HB2 := Lib.hid (show Below w.heap.size w W2 from by rw [hW2]; exact setCells_low _ (Nat.le_refl _) HB1.out); (try rw [← hW2]); clear hW2))
  refine bodyPost_ret (results_tctH rfl _ _ w.heap.size zeroNd rfl HR2.out) rfl ⟨rfl, HB2.out⟩
set_option maxRecDepth 100000 in
set_option maxHeartbeats 3200000 in
theorem hoAt_yes {w : World} {g : Nat} {s : HF} (h : HoAt w g s) (HR : ∀ W, Below w.heap.size w W → Calls Tryz.prog 15 #[.pointer (some ⟨g, 0, none⟩)] W fun e w' => e = .returned (.int .i64 0) ∧ Below W.heap.size W w') :
    Calls Tryz.prog 5 #[.pointer (some ⟨g, 0, none⟩)] w fun e w' => e = .returned (.tuple #[.int .u64 s.at_, s.n.V, .int .i64 0]) ∧ Below w.heap.size w w' := by
  have mixed : Tryz.prog.follows .mixedOrders = true := by kernel_rfl
  obtain ⟨W0, hW0⟩ : ∃ W0, W0 = w.alloc (.cells zeroNd.cl.toArray 35) := ⟨_, rfl⟩
  have hb0 : Below w.heap.size w W0 := by rw [hW0]; exact alloc_low _ _
  have HT := Lib.hid (HR W0 hb0)
  have HR0 := Lib.hid (show NdAt W0 w.heap.size zeroNd from by rw [hW0]; exact Row.new _ _ _)
  have HB0 := Lib.hid hb0
  have HW0 := Lib.hid hW0
  have HH := Lib.hid h
  have HGL := Lib.hid h.lt
  obtain ⟨a, ha⟩ : ∃ x, x = s.at_ := ⟨_, rfl⟩
  obtain ⟨N, hN⟩ : ∃ x, x = s.n := ⟨_, rfl⟩
  have HAN := Lib.hid (And.intro ha hN)
  rw [← ha, ← hN]
  clear hb0 hW0 HR h ha hN
  go_enter Tryz.func5, Tryz.ntmps5
  go_upto_region 1 with (fail)
  have HWW := HW0.out
  unfold zeroNd Nd.cl uw at HWW
  rw [← HWW]
  clear HWW
  go_wp2_with fail
  refine HT.out.mono ?_
  rintro e w1 ⟨rfl, hb1⟩
  have HB1 := Lib.hid (Below.and HB0.out hb1)
  have HR1 := Lib.hid (HR0.out.below hb1 HR0.out.lt)
  have h1 := HH.out.below HB1.out
  have HST := Lib.hid (show ∀ W : World, Below w1.heap.size w1 W → W.cell? ⟨g, 4, none⟩ = some (.int .u64 a) ∧ W.rangeAt g 8 N.cl from fun W hW => by
    rw [HAN.out.1, HAN.out.2]
    exact ⟨Row.cell (h1.below hW) 4, (h1.below hW).rng⟩)
  have HSK := Lib.hid (show ∀ W : World, (∀ k, k ≠ w.heap.size → W.heap[k]? = (w1.drew).heap[k]?) → W.cell? ⟨g, 4, none⟩ = some (.int .u64 a) ∧ W.rangeAt g 8 N.cl from fun W hW => by
    rw [HAN.out.1, HAN.out.2]
    have hg : HoAt W g s := (hW g (by have := HGL.out; omega)).trans (h1.below (drew_below w1))
    exact ⟨Row.cell hg 4, hg.rng⟩)
  have HRG := Lib.hid (show ∀ W : World, (W.cell? ⟨g, 4, none⟩ = some (.int .u64 a) ∧ W.rangeAt g 8 N.cl) → W.rangeAt g 8 N.cl from fun W h => h.2)
  clear hb1 HT h1
  go_wp2_with fail
  refine wp_region_noPanic ?_
  refine wp_region_held_drew (S := fun W : World => W.cell? ⟨g, 4, none⟩ = some (.int .u64 a) ∧ W.rangeAt g 8 N.cl) (by kernel_rfl) (HST.out _ (drew_below _)) (fun hHeld => ?_)
  refine wpAnyH_take (i := 0) (oi := ⟨some 12, _, _, _, _, _⟩) (v := .pointer (some ⟨g, 0, none⟩)) rfl (by kernel_rfl) (by kernel_rfl) (by kernel_rfl) (fun _ _ _ h => h) (Or.inl ⟨by kernel_rfl, by intro WW hSw; obtain ⟨s4, s8⟩ := hSw; go_simp⟩) (by assumption) ?_
  (try simp only [Act.put, List.setIfInBounds_toArray, List.set_cons_zero, List.set_cons_succ])
  refine wpAnyH_take (i := 1) (oi := ⟨some 13, _, _, _, _, _⟩) (v := .pointer (some ⟨g, 0, none⟩)) rfl (by kernel_rfl) (by kernel_rfl) (by kernel_rfl) (fun _ _ _ h => h) (Or.inl ⟨by kernel_rfl, by intro WW hSw; obtain ⟨s4, s8⟩ := hSw; go_simp⟩) (by assumption) ?_
  (try simp only [Act.put, List.setIfInBounds_toArray, List.set_cons_zero, List.set_cons_succ])
  refine wpAnyH_take (i := 2) (oi := ⟨some 14, _, _, _, _, _⟩) (v := .pointer (some ⟨g, 4, none⟩)) rfl (by kernel_rfl) (by kernel_rfl) (by kernel_rfl) (fun _ _ _ h => h) (Or.inl ⟨by kernel_rfl, by intro WW hSw; obtain ⟨s4, s8⟩ := hSw; go_simp⟩) (by assumption) ?_
  (try simp only [Act.put, List.setIfInBounds_toArray, List.set_cons_zero, List.set_cons_succ])
  refine wpAnyH_take (i := 3) (oi := ⟨some 15, _, _, _, _, _⟩) (v := .int .u64 a) rfl (by kernel_rfl) (by kernel_rfl) (by kernel_rfl) (fun _ _ _ h => h) (Or.inl ⟨by kernel_rfl, by intro WW hSw; obtain ⟨s4, s8⟩ := hSw; go_simp⟩) (by assumption) ?_
  (try simp only [Act.put, List.setIfInBounds_toArray, List.set_cons_zero, List.set_cons_succ])
  refine wpAnyH_take (i := 4) (oi := ⟨some 16, _, _, _, _, _⟩) (v := .pointer (some ⟨g, 0, none⟩)) rfl (by kernel_rfl) (by kernel_rfl) (by kernel_rfl) (fun _ _ _ h => h) (Or.inl ⟨by kernel_rfl, by intro WW hSw; obtain ⟨s4, s8⟩ := hSw; go_simp⟩) (by assumption) ?_
  (try simp only [Act.put, List.setIfInBounds_toArray, List.set_cons_zero, List.set_cons_succ])
  refine wpAnyH_take (i := 5) (oi := ⟨some 17, _, _, _, _, _⟩) (v := .pointer (some ⟨g, 0, none⟩)) rfl (by kernel_rfl) (by kernel_rfl) (by kernel_rfl) (fun _ _ _ h => h) (Or.inl ⟨by kernel_rfl, by intro WW hSw; obtain ⟨s4, s8⟩ := hSw; go_simp⟩) (by assumption) ?_
  (try simp only [Act.put, List.setIfInBounds_toArray, List.set_cons_zero, List.set_cons_succ])
  refine wpAnyH_take (i := 6) (oi := ⟨some 18, _, _, _, _, _⟩) (v := .pointer (some ⟨g, 8, none⟩)) rfl (by kernel_rfl) (by kernel_rfl) (by kernel_rfl) (fun _ _ _ h => h) (Or.inl ⟨by kernel_rfl, by intro WW hSw; obtain ⟨s4, s8⟩ := hSw; go_simp⟩) (by assumption) ?_
  (try simp only [Act.put, List.setIfInBounds_toArray, List.set_cons_zero, List.set_cons_succ])
  refine wpAnyH_take (i := 7) (oi := ⟨some 19, _, _, _, _, _⟩) (v := .agg N.cl.toArray) rfl (by kernel_rfl) (by kernel_rfl) (by kernel_rfl) (fun _ _ _ h => h) (yieldsIf_load_mid (by rfl) _ _ rfl g 8 rfl N.cl _ HRG.out Tryz.underlying35 rfl ndI) (by assumption) ?_
  (try simp only [Act.put, List.setIfInBounds_toArray, List.set_cons_zero, List.set_cons_succ])
  refine wpAnyH_take (i := 8) (oi := ⟨some 2, _, _, _, _, _⟩) (v := .int .u64 a) rfl (by kernel_rfl) (by kernel_rfl) (by kernel_rfl) (fun _ _ _ h => h) (Or.inl ⟨by kernel_rfl, by intro WW hSw; obtain ⟨s4, s8⟩ := hSw; go_simp⟩) (by assumption) ?_
  (try simp only [Act.put, List.setIfInBounds_toArray, List.set_cons_zero, List.set_cons_succ])
  refine wpAnyH_one (i := 9) (oi := ⟨none, _, _, _, _, _⟩) rfl (by kernel_rfl) (fun K hK => ?_)
  refine step_storeNdH (by rfl) (.tmp 3) (.tmp 19) (by rfl) w.heap.size N.cl _ (by rfl) (by rfl) (HR1.out.below (drew_below w1) HR1.out.lt) rfl rfl (cl_one N) ?_
  intro w5 hr5 hb5 hk5
  have HR6 := Lib.hid hr5
  have HB5 := Lib.hid ((Below.and HB1.out (drew_below w1)).trans (hb5 _ (Nat.le_refl _) (Below.and HB1.out (drew_below w1)).size))
  refine hK _ _ (HSK.out w5 fun k hk => hk5 k hk) (fun hHeld => ?_)
  clear hK K hr5 hb5 hk5
  (try simp only [Act.put, List.setIfInBounds_toArray, List.set_cons_zero, List.set_cons_succ])
  refine wpAnyH_take (i := 10) (oi := ⟨some 4, _, _, _, _, _⟩) (v := .int .i64 0) rfl (by kernel_rfl) (by kernel_rfl) (by kernel_rfl) (fun _ _ _ h => h) (Or.inl ⟨by kernel_rfl, by intro WW hSw; obtain ⟨s4, s8⟩ := hSw; go_simp⟩) (by assumption) ?_
  (try simp only [Act.put, List.setIfInBounds_toArray, List.set_cons_zero, List.set_cons_succ])
  refine wpAnyH_done (by kernel_rfl) ?_ _
  clear hHeld
  go_wp2_with fail
  (try refine (‹∀ (a : Act) (w : World), Code.wp Tryz.prog _ _ a w → _›) _ _ ?_)
  (try go_wp2_with fail)
  refine bodyPost_ret (results_tctH rfl _ _ w.heap.size N rfl HR6.out) rfl ⟨rfl, HB5.out⟩
theorem hoHigh_no {w : World} {p : Option Addr} {k : Int} (hk : k ≠ 0) (HR : Calls Tryz.prog 15 #[.pointer p] w fun e w' => e = .returned (.int .i64 k) ∧ w = w') :
    Calls Tryz.prog 9 #[.pointer p] w fun e w' => e = .returned (.tuple #[.int .u64 0, .bool false]) ∧ w = w' := by
  have H := Lib.hid HR
  have hk2 : (k != 0) = true := by simpa using hk
  clear HR
  go_enter Tryz.func9, Tryz.ntmps9
  go_wp2_with fail
  refine H.out.mono ?_
  rintro e w' ⟨rfl, rfl⟩
  go_wp2_with fail
  go_ret2
  exact ⟨rfl, rfl⟩
theorem hoApply_nil (w : World) (V : Value) : Calls Tryz.prog 10 #[.pointer none, V] w fun e w' => e = .returned (.int .i64 1) ∧ w = w' := by
  go_enter Tryz.func10, Tryz.ntmps10
  go_wp2_with fail
  refine (hoRefusal_nil _).mono ?_
  rintro e w' ⟨rfl, rfl⟩
  go_wp2_with fail
  go_ret
  exact ⟨rfl, rfl⟩
theorem hoRelease_nil (w : World) : Calls Tryz.prog 11 #[.pointer none] w fun e w' => e = .returned (.bool false) ∧ w = w' := by
  go_enter Tryz.func11, Tryz.ntmps11
  go_wp2
  go_ret
  exact ⟨rfl, rfl⟩
theorem hoRelease_done {w : World} {g : Nat} {s : HF} {r : Bool} {Q : World → Prop} (h : HoAt w g s) (hd : s.d = true) (HL : Calls Tryz.prog 14 #[.pointer (some ⟨g, 0, none⟩)] w fun e w' => e = .returned (.bool r) ∧ Q w') :
    Calls Tryz.prog 11 #[.pointer (some ⟨g, 0, none⟩)] w fun e w' => e = .returned (.bool r) ∧ Q w' := by
  have c30 : w.cell? ⟨g, 30, none⟩ = some (.bool s.d) := Row.cell h 30
  rw [hd] at c30
  have H := Lib.hid HL
  clear h hd HL
  go_enter Tryz.func11, Tryz.ntmps11
  go_wp2_with fail
  refine H.out.mono ?_
  rintro e w' ⟨rfl, hq⟩
  have HQ := Lib.hid hq
  clear hq H
  go_wp2_with fail
  go_ret
  exact ⟨rfl, HQ.out⟩
end Go.Proofs.YtiefgmibgdidpaaGreatDoor
/- A hold's step, of whatever its function leaves; the lock tried, a snapshot begun, read; no conditions. -/
namespace Go.Proofs.YtiefgmibgdidpaaGreatDoor
open Go.RowKit
set_option linter.unusedVariables false
attribute [local go_sem] Oper.semAt_some
theorem hoStep_nil (w : World) : Calls Tryz.prog 4 #[.pointer none] w fun e w' => e = .returned (.tuple #[.bool true, .int .i64 1]) ∧ w = w' := by
  go_enter Tryz.func4, Tryz.ntmps4
  go_wp2
  go_ret2
  exact ⟨rfl, rfl⟩
set_option maxRecDepth 100000 in
set_option maxHeartbeats 3200000 in
theorem hoStep_wrong {w : World} {g : Nat} {s : HF} {k : Int} {b : Bool} (h : HoAt w g s) (hd : s.d = false) (hk : k ≠ 0) (HW : Calls Tryz.prog 13 #[.pointer (some ⟨g, 0, none⟩)] w fun e w' => e = .returned (.int .i64 k) ∧ Below w.heap.size w w')
    (HL : ∀ W, HoAt W g { s with d := true, k := k } → But w W (fun q => q = g) → Calls Tryz.prog 14 #[.pointer (some ⟨g, 0, none⟩)] W fun e w' => e = .returned (.bool b) ∧ Below W.heap.size W w') :
    Calls Tryz.prog 4 #[.pointer (some ⟨g, 0, none⟩)] w fun e w' => e = .returned (.tuple #[.bool true, .int .i64 k]) ∧ HoAt w' g { s with d := true, k := k } ∧ But w w' (fun q => q = g) := by
  have mixed : Tryz.prog.follows .mixedOrders = true := by kernel_rfl
  have c30 : w.cell? ⟨g, 30, none⟩ = some (.bool s.d) := Row.cell h 30
  rw [hd] at c30
  have HH := Lib.hid h
  have HWW := Lib.hid HW
  have HLL := Lib.hid HL
  have hk1 : (k != 0) = true := by simpa using hk
  have hk2 : (k == 0) = false := by simpa using hk
  clear h hd HW HL
  go_enter Tryz.func4, Tryz.ntmps4
  go_wp2_with fail
  refine HWW.out.mono ?_
  rintro e w1 ⟨rfl, hb1⟩
  have h1 := HH.out.below hb1
  have e30 : w1.cell? ⟨g, 30, none⟩ = some (.bool s.d) := Row.cell h1 30
  have e31 : w1.cell? ⟨g, 31, none⟩ = some (.int .i64 s.k) := Row.cell h1 31
  have f30 := Row.free h1 30
  have f31 := Row.free h1 31
  obtain ⟨W2, hW2⟩ : ∃ W2, W2 = (w1.setCell ⟨g, 30, none⟩ (.bool true)).setCell ⟨g, 31, none⟩ (.int .i64 k) := ⟨_, rfl⟩
  have h2 : HoAt W2 g { s with d := true, k := k } := by rw [hW2]; exact (h1.done true).code k
  have hb2 : But w W2 (fun q => q = g) := by rw [hW2]; exact hbut1 (hbut1 (But.of_below hb1 (fun q => q = g)) 30 _) 31 _
  have HC := Lib.hid (HLL.out W2 h2 hb2)
  have H2 := Lib.hid (And.intro h2 hb2)
  clear c30 h1 hb1 h2 hb2 HWW HLL HH
  go_wp2_with fail
  (try rw [← hW2])
  clear e30 e31 f30 f31
  refine HC.out.mono ?_
  rintro e w3 ⟨rfl, hb3⟩
  have h3 := H2.out.1.below hb3
  have HB3 := Lib.hid (And.intro h3 (H2.out.2.trans (But.of_below hb3 (fun q => q = g)) fun q hq => .inl hq))
  have ca := fun q : LowBy w3 => q.cell (show w3.cell? ⟨g, 30, none⟩ = some (.bool true) from Row.cell h3 30)
  have cb := fun q : LowBy w3 => q.cell (show w3.cell? ⟨g, 31, none⟩ = some (.int .i64 k) from Row.cell h3 31)
  clear hb3 h3 HC H2 hW2
  go_wp2_with fail
  refine wp_region_quiet_low (by assumption) (by kernel_rfl) ?_
  repeat (go_big_quiet_step (fail))
  refine wpQuiet_nil ?_
  intro _ hw'
  obtain ⟨q, hw''⟩ := hw'
  subst hw''
  have HF := Lib.hid q.low
  clear ca cb
  go_wp2
  go_ret2
  exact ⟨rfl, HB3.out.1.below HF.out, HB3.out.2.trans (But.of_below HF.out (fun q => q = g)) fun q hq => .inl hq⟩
set_option maxRecDepth 100000 in
set_option maxHeartbeats 3200000 in
theorem hoStep_next {w : World} {g f : Nat} {s : HF} {D : Bool} {P : World → Prop} (h : HoAt w g s) (hd : s.d = false) (hn : s.nx = nextV f g) (HW : Calls Tryz.prog 13 #[.pointer (some ⟨g, 0, none⟩)] w fun e w' => e = .returned (.int .i64 0) ∧ Below w.heap.size w w')
    (hcall : ∀ (w : World) (v : Value), (callFunc f #[v]).run Tryz.prog w = .ok (.enter f #[v]) w) (HF : ∀ W, Below w.heap.size w W → Calls Tryz.prog f #[.pointer (some ⟨g, 0, none⟩)] W fun e w' => e = .returned (.int .i64 0) ∧ P w') (hP : ∀ w', P w' → ∃ s', HoAt w' g s' ∧ s'.d = D ∧ s'.k = 0) (hPb : ∀ W W', P W → Below W.heap.size W W' → P W') :
    Calls Tryz.prog 4 #[.pointer (some ⟨g, 0, none⟩)] w fun e w' => e = .returned (.tuple #[.bool D, .int .i64 0]) ∧ P w' := by
  have mixed : Tryz.prog.follows .mixedOrders = true := by kernel_rfl
  have c30 : w.cell? ⟨g, 30, none⟩ = some (.bool s.d) := Row.cell h 30
  rw [hd] at c30
  have HH := Lib.hid h
  have HN := Lib.hid hn
  have HWW := Lib.hid HW
  have HFF := Lib.hid HF
  have HPP := Lib.hid hP
  have HPB := Lib.hid hPb
  clear h hd hn HW HF hP hPb
  go_enter Tryz.func4, Tryz.ntmps4
  go_wp2_with fail
  refine HWW.out.mono ?_
  rintro e w1 ⟨rfl, hb1⟩
  have c5 : w1.cell? ⟨g, 5, none⟩ = some s.nx := Row.cell (HH.out.below hb1) 5
  rw [HN.out] at c5
  unfold nextV at c5
  have HC := Lib.hid (HFF.out w1 hb1)
  clear hb1 c30 HWW HFF HH HN
  go_wp2_with fail
  refine HC.out.mono ?_
  rintro e w2 ⟨rfl, hp⟩
  obtain ⟨s', h2, hd2, hk2⟩ := HPP.out w2 hp
  have e30 : w2.cell? ⟨g, 30, none⟩ = some (.bool s'.d) := Row.cell h2 30
  have e31 : w2.cell? ⟨g, 31, none⟩ = some (.int .i64 s'.k) := Row.cell h2 31
  rw [hd2] at e30
  rw [hk2] at e31
  have ca := fun q : LowBy w2 => q.cell e30
  have cb := fun q : LowBy w2 => q.cell e31
  have HE := Lib.hid (show ∀ q : LowBy w2, P q.W from fun q => HPB.out _ _ hp q.low)
  clear hp h2 hd2 hk2 e30 e31 c5 HC HPP HPB
  go_wp2_with fail
  refine wp_region_quiet_low (by assumption) (by kernel_rfl) ?_
  repeat (go_big_quiet_step (fail))
  refine wpQuiet_nil ?_
  intro _ hw'
  obtain ⟨q, hw''⟩ := hw'
  subst hw''
  have HG := Lib.hid (HE.out q)
  clear ca cb HE
  go_wp2
  go_ret2
  exact ⟨rfl, HG.out⟩
set_option maxRecDepth 100000 in
set_option maxHeartbeats 3200000 in
theorem hoLook_any {w : World} {g : Nat} {s : HF} {m : Option Addr} (h : HoAt w g s) (hM : ∀ W, Below w.heap.size w W → Calls Tryz.prog 27 #[.pointer s.si] W fun e w' => e = .returned (.pointer m) ∧ W = w') :
    Calls Tryz.prog 55 #[.pointer (some ⟨g, 0, none⟩)] w fun e w' => e = .returned (.tuple #[]) ∧ ∃ gs, HoAt w' g { s with sn := .pointer (some ⟨gs, 0, none⟩), nx := nextV 76 g } ∧ Row w' gs 123 (zeroS m (nextV 89 gs) s.at_).toArray ∧ w.heap.size ≤ gs ∧ gs ≠ g ∧ But w w' (fun q => q = g) := by
  have mixed : Tryz.prog.follows .mixedOrders = true := by kernel_rfl
  have EM := Lib.hid (enters_of Tryz.func27 (by kernel_rfl) rfl)
  have EN := Lib.hid (enters_of Tryz.func75 (by kernel_rfl) rfl)
  obtain ⟨si, hsi⟩ : ∃ x, x = s.si := ⟨_, rfl⟩
  obtain ⟨a, ha⟩ : ∃ x, x = s.at_ := ⟨_, rfl⟩
  have HSA := Lib.hid (And.intro hsi ha)
  have HST := Lib.hid (show ∀ W : World, Below w.heap.size w W → W.cell? ⟨g, 1, none⟩ = some (.pointer si) ∧ W.cell? ⟨g, 4, none⟩ = some (.int .u64 a) from fun W hW => by
    rw [hsi, ha]
    exact ⟨Row.cell (h.below hW) 1, Row.cell (h.below hW) 4⟩)
  rw [← hsi] at hM
  rw [← ha]
  have HMM := Lib.hid hM
  have HH := Lib.hid h
  clear h hM hsi ha
  go_enter Tryz.func55, Tryz.ntmps55
  go_wp2_with fail
  refine wp_region_held_drew (S := fun W : World => W.cell? ⟨g, 1, none⟩ = some (.pointer si) ∧ W.cell? ⟨g, 4, none⟩ = some (.int .u64 a)) (by kernel_rfl) (HST.out _ (drew_below _)) (fun hHeld => ?_)
  refine wpAnyH_take (i := 0) (oi := ⟨some 2, _, _, _, _, _⟩) (v := .pointer (some ⟨g, 0, none⟩)) rfl (by kernel_rfl) (by kernel_rfl) (by kernel_rfl) (fun _ _ _ h => h) (Or.inl ⟨by kernel_rfl, by intro WW hSw; obtain ⟨s1, s4⟩ := hSw; go_simp⟩) (by assumption) ?_
  (try simp only [Act.put, List.setIfInBounds_toArray, List.set_cons_zero, List.set_cons_succ])
  refine wpAnyH_take (i := 1) (oi := ⟨some 3, _, _, _, _, _⟩) (v := .pointer (some ⟨g, 0, none⟩)) rfl (by kernel_rfl) (by kernel_rfl) (by kernel_rfl) (fun _ _ _ h => h) (Or.inl ⟨by kernel_rfl, by intro WW hSw; obtain ⟨s1, s4⟩ := hSw; go_simp⟩) (by assumption) ?_
  (try simp only [Act.put, List.setIfInBounds_toArray, List.set_cons_zero, List.set_cons_succ])
  refine wpAnyH_take (i := 2) (oi := ⟨some 4, _, _, _, _, _⟩) (v := .pointer (some ⟨g, 0, none⟩)) rfl (by kernel_rfl) (by kernel_rfl) (by kernel_rfl) (fun _ _ _ h => h) (Or.inl ⟨by kernel_rfl, by intro WW hSw; obtain ⟨s1, s4⟩ := hSw; go_simp⟩) (by assumption) ?_
  (try simp only [Act.put, List.setIfInBounds_toArray, List.set_cons_zero, List.set_cons_succ])
  refine wpAnyH_take (i := 3) (oi := ⟨some 5, _, _, _, _, _⟩) (v := .pointer (some ⟨g, 1, none⟩)) rfl (by kernel_rfl) (by kernel_rfl) (by kernel_rfl) (fun _ _ _ h => h) (Or.inl ⟨by kernel_rfl, by intro WW hSw; obtain ⟨s1, s4⟩ := hSw; go_simp⟩) (by assumption) ?_
  (try simp only [Act.put, List.setIfInBounds_toArray, List.set_cons_zero, List.set_cons_succ])
  refine wpAnyH_take (i := 4) (oi := ⟨some 6, _, _, _, _, _⟩) (v := .pointer si) rfl (by kernel_rfl) (by kernel_rfl) (by kernel_rfl) (fun _ _ _ h => h) (Or.inl ⟨by kernel_rfl, by intro WW hSw; obtain ⟨s1, s4⟩ := hSw; go_simp⟩) (by assumption) ?_
  (try simp only [Act.put, List.setIfInBounds_toArray, List.set_cons_zero, List.set_cons_succ])
  refine wpAnyH_take (i := 6) (oi := ⟨some 8, _, _, _, _, _⟩) (v := .pointer (some ⟨g, 0, none⟩)) rfl (by kernel_rfl) (by kernel_rfl) (by kernel_rfl) (fun _ _ _ h => h) (Or.inl ⟨by kernel_rfl, by intro WW hSw; obtain ⟨s1, s4⟩ := hSw; go_simp⟩) (by assumption) ?_
  (try simp only [Act.put, List.setIfInBounds_toArray, List.set_cons_zero, List.set_cons_succ])
  refine wpAnyH_take (i := 7) (oi := ⟨some 9, _, _, _, _, _⟩) (v := .pointer (some ⟨g, 0, none⟩)) rfl (by kernel_rfl) (by kernel_rfl) (by kernel_rfl) (fun _ _ _ h => h) (Or.inl ⟨by kernel_rfl, by intro WW hSw; obtain ⟨s1, s4⟩ := hSw; go_simp⟩) (by assumption) ?_
  (try simp only [Act.put, List.setIfInBounds_toArray, List.set_cons_zero, List.set_cons_succ])
  refine wpAnyH_take (i := 8) (oi := ⟨some 10, _, _, _, _, _⟩) (v := .pointer (some ⟨g, 4, none⟩)) rfl (by kernel_rfl) (by kernel_rfl) (by kernel_rfl) (fun _ _ _ h => h) (Or.inl ⟨by kernel_rfl, by intro WW hSw; obtain ⟨s1, s4⟩ := hSw; go_simp⟩) (by assumption) ?_
  (try simp only [Act.put, List.setIfInBounds_toArray, List.set_cons_zero, List.set_cons_succ])
  refine wpAnyH_take (i := 9) (oi := ⟨some 11, _, _, _, _, _⟩) (v := .int .u64 a) rfl (by kernel_rfl) (by kernel_rfl) (by kernel_rfl) (fun _ _ _ h => h) (Or.inl ⟨by kernel_rfl, by intro WW hSw; obtain ⟨s1, s4⟩ := hSw; go_simp⟩) (by assumption) ?_
  (try simp only [Act.put, List.setIfInBounds_toArray, List.set_cons_zero, List.set_cons_succ])
  refine wpAnyH_one (i := 5) (oi := ⟨some 7, _, _, _, _, _⟩) rfl (by kernel_rfl) (fun K hK => ?_)
  refine step_calls (by rfl) 27 EM.out [.tmp 6] _ rfl [.pointer si] rfl (HMM.out _ (drew_below _)) ?_
  rintro e wx ⟨rfl, rfl⟩
  refine ⟨_, rfl, hK _ _ (HST.out _ (drew_below _)) (fun hHeld => ?_)⟩
  clear hK K
  (try simp only [Act.put, List.setIfInBounds_toArray, List.set_cons_zero, List.set_cons_succ])
  refine wpAnyH_one (i := 10) (oi := ⟨some 12, _, _, _, _, _⟩) rfl (by kernel_rfl) (fun K hK => ?_)
  refine step_calls (by rfl) 75 EN.out [.tmp 7, .tmp 11] _ rfl [.pointer m, .int .u64 a] rfl (snNew_any m a _) ?_
  rintro e w3 ⟨rfl, hw3⟩
  obtain ⟨gs, hgs⟩ : ∃ gs, gs = (w.drew).heap.size := ⟨_, rfl⟩
  rw [← hgs] at hw3 ⊢
  have hb3 : Below w.heap.size w w3 := by rw [← hw3]; exact Below.and (drew_below w) (alloc_below _ _)
  have HB3 := Lib.hid hb3
  have HR3 := Lib.hid (show Row w3 gs 123 (zeroS m (nextV 89 gs) a).toArray from by rw [← hw3, hgs]; exact Row.new _ _ _)
  have HGE := Lib.hid (show w.heap.size ≤ gs ∧ gs ≠ g from by have := HH.out.lt; have := (drew_below w).size; omega)
  have k6 : w3.cell? ⟨g, 6, none⟩ = some s.sn := Row.cell (HH.out.below hb3) 6
  have fr6 := Row.free (HH.out.below hb3) 6
  clear hw3 hgs
  refine ⟨_, rfl, hK _ _ (HST.out _ HB3.out) (fun hHeld => ?_)⟩
  clear hK K
  (try simp only [Act.put, List.setIfInBounds_toArray, List.set_cons_zero, List.set_cons_succ])
  have HS6 := Lib.hid (show (w3.setCell ⟨g, 6, none⟩ (.pointer (some ⟨gs, 0, none⟩))).cell? ⟨g, 1, none⟩ = some (.pointer si) ∧ (w3.setCell ⟨g, 6, none⟩ (.pointer (some ⟨gs, 0, none⟩))).cell? ⟨g, 4, none⟩ = some (.int .u64 a) from by
    have h6 := (HH.out.below HB3.out).snap (.pointer (some ⟨gs, 0, none⟩))
    rw [HSA.out.1, HSA.out.2]
    exact ⟨Row.cell h6 1, Row.cell h6 4⟩)
  refine wpAnyH_take (i := 11) (oi := ⟨some 13, _, _, _, _, _⟩) (v := .pointer (some ⟨g, 0, none⟩)) rfl (by kernel_rfl) (by kernel_rfl) (by kernel_rfl) (fun _ _ _ h => h) (Or.inl ⟨by kernel_rfl, by intro WW hSw; obtain ⟨s1, s4⟩ := hSw; go_simp⟩) (by assumption) ?_
  (try simp only [Act.put, List.setIfInBounds_toArray, List.set_cons_zero, List.set_cons_succ])
  refine wpAnyH_take (i := 12) (oi := ⟨some 14, _, _, _, _, _⟩) (v := .pointer (some ⟨g, 6, none⟩)) rfl (by kernel_rfl) (by kernel_rfl) (by kernel_rfl) (fun _ _ _ h => h) (Or.inl ⟨by kernel_rfl, by intro WW hSw; obtain ⟨s1, s4⟩ := hSw; go_simp⟩) (by assumption) ?_
  (try simp only [Act.put, List.setIfInBounds_toArray, List.set_cons_zero, List.set_cons_succ])
  refine wpAnyH_one (i := 13) (oi := ⟨none, _, _, _, _, _⟩) rfl (by kernel_rfl) (fun K hK => ?_)
  refine step_storeH1 (by rfl) _ (.tmp 14) (.tmp 12) rfl g 6 (.pointer (some ⟨gs, 0, none⟩)) _ rfl rfl rfl k6 fr6 (by kernel_rfl) rfl ?_
  refine hK _ _ (HS6.out) (fun hHeld => ?_)
  clear hK K
  (try simp only [Act.put, List.setIfInBounds_toArray, List.set_cons_zero, List.set_cons_succ])
  refine wpAnyH_done (by kernel_rfl) ?_ _
  have h6 := (HH.out.below HB3.out).snap (.pointer (some ⟨gs, 0, none⟩))
  have k5 : (w3.setCell ⟨g, 6, none⟩ (.pointer (some ⟨gs, 0, none⟩))).cell? ⟨g, 5, none⟩ = some s.nx := Row.cell h6 5
  have fr5 := Row.free h6 5
  have HE := Lib.hid (show HoAt ((w3.setCell ⟨g, 6, none⟩ (.pointer (some ⟨gs, 0, none⟩))).setCell ⟨g, 5, none⟩ (.func (.func 76) #[.pointer (some ⟨g, 0, none⟩)] #[])) g { s with sn := .pointer (some ⟨gs, 0, none⟩), nx := nextV 76 g } ∧ Row ((w3.setCell ⟨g, 6, none⟩ (.pointer (some ⟨gs, 0, none⟩))).setCell ⟨g, 5, none⟩ (.func (.func 76) #[.pointer (some ⟨g, 0, none⟩)] #[])) gs 123 (zeroS m (nextV 89 gs) a).toArray ∧ But w ((w3.setCell ⟨g, 6, none⟩ (.pointer (some ⟨gs, 0, none⟩))).setCell ⟨g, 5, none⟩ (.func (.func 76) #[.pointer (some ⟨g, 0, none⟩)] #[])) (fun q => q = g) from
    ⟨h6.next _, Row.other (Row.other HR3.out (p := ⟨g, 6, none⟩) HGE.out.2 _) (p := ⟨g, 5, none⟩) HGE.out.2 _, hbut1 (hbut1 (But.of_below HB3.out (fun q => q = g)) 6 _) 5 _⟩)
  clear hHeld h6 k6 fr6 HS6
  go_wp2_with fail
  (try refine (‹∀ (a : Act) (w : World), Code.wp Tryz.prog _ _ a w → _›) _ _ ?_)
  (try go_wp2_with fail)
  go_end0
  obtain ⟨_, ha⟩ := HSA.out
  subst ha
  exact ⟨rfl, gs, HE.out.1, HE.out.2.1, HGE.out.1, HGE.out.2, HE.out.2.2⟩
set_option maxRecDepth 100000 in
set_option maxHeartbeats 3200000 in
theorem hoTry_yes {w : World} {g : Nat} {s : HF} {t m : Option Addr} {R Q : World → Prop} (h : HoAt w g s) (hL : ∀ W, Below w.heap.size w W → Calls Tryz.prog 25 #[.pointer s.si] W fun e w' => e = .returned (.pointer t) ∧ W = w')
    (hT : ∀ W, Below w.heap.size w W → Calls Tryz.prog 54 #[.pointer t, .int .i64 s.cl, .int .u64 s.at_] W fun e w' => e = .returned (.bool true) ∧ HoAt w' g s ∧ R w')
    (hK : ∀ w2, R w2 → HoAt w2 g s → Calls Tryz.prog 55 #[.pointer (some ⟨g, 0, none⟩)] (w2.setCell ⟨g, 29, none⟩ (.bool true)) fun e w' => e = .returned (.tuple #[]) ∧ Q w') :
    Calls Tryz.prog 32 #[.pointer (some ⟨g, 0, none⟩)] w fun e w' => e = .returned (.int .i64 0) ∧ Q w' := by
  have mixed : Tryz.prog.follows .mixedOrders = true := by kernel_rfl
  have EL := Lib.hid (enters_of Tryz.func25 (by kernel_rfl) rfl)
  have ET := Lib.hid (enters_of Tryz.func54 (by kernel_rfl) rfl)
  obtain ⟨si, hsi⟩ : ∃ x, x = s.si := ⟨_, rfl⟩
  obtain ⟨cl, hcl⟩ : ∃ x, x = s.cl := ⟨_, rfl⟩
  obtain ⟨a, ha⟩ : ∃ x, x = s.at_ := ⟨_, rfl⟩
  have HST := Lib.hid (show ∀ (W : World) (s' : HF), HoAt W g s' → s'.si = s.si ∧ s'.cl = s.cl ∧ s'.at_ = s.at_ → W.cell? ⟨g, 1, none⟩ = some (.pointer si) ∧ W.cell? ⟨g, 2, none⟩ = some (.int .i64 cl) ∧ W.cell? ⟨g, 4, none⟩ = some (.int .u64 a) from fun W s' hW hs => by
    rw [hsi, hcl, ha, ← hs.1, ← hs.2.1, ← hs.2.2]
    exact ⟨Row.cell hW 1, Row.cell hW 2, Row.cell hW 4⟩)
  rw [← hsi] at hL
  rw [← hcl, ← ha] at hT
  have HLL := Lib.hid hL
  have HTT := Lib.hid hT
  have HKK := Lib.hid hK
  have HH := Lib.hid h
  clear h hL hT hK hsi hcl ha
  go_enter Tryz.func32, Tryz.ntmps32
  go_wp2_with fail
  refine wp_region_held_drew (S := fun W : World => W.cell? ⟨g, 1, none⟩ = some (.pointer si) ∧ W.cell? ⟨g, 2, none⟩ = some (.int .i64 cl) ∧ W.cell? ⟨g, 4, none⟩ = some (.int .u64 a)) (by kernel_rfl) (HST.out _ _ (HH.out.below (drew_below _)) ⟨rfl, rfl, rfl⟩) (fun hHeld => ?_)
  refine wpAnyH_take (i := 0) (oi := ⟨some 3, _, _, _, _, _⟩) (v := .pointer (some ⟨g, 0, none⟩)) rfl (by kernel_rfl) (by kernel_rfl) (by kernel_rfl) (fun _ _ _ h => h) (Or.inl ⟨by kernel_rfl, by intro WW hSw; obtain ⟨s1, s2, s4⟩ := hSw; go_simp⟩) (by assumption) ?_
  (try simp only [Act.put, List.setIfInBounds_toArray, List.set_cons_zero, List.set_cons_succ])
  refine wpAnyH_take (i := 1) (oi := ⟨some 4, _, _, _, _, _⟩) (v := .pointer (some ⟨g, 0, none⟩)) rfl (by kernel_rfl) (by kernel_rfl) (by kernel_rfl) (fun _ _ _ h => h) (Or.inl ⟨by kernel_rfl, by intro WW hSw; obtain ⟨s1, s2, s4⟩ := hSw; go_simp⟩) (by assumption) ?_
  (try simp only [Act.put, List.setIfInBounds_toArray, List.set_cons_zero, List.set_cons_succ])
  refine wpAnyH_take (i := 2) (oi := ⟨some 5, _, _, _, _, _⟩) (v := .pointer (some ⟨g, 0, none⟩)) rfl (by kernel_rfl) (by kernel_rfl) (by kernel_rfl) (fun _ _ _ h => h) (Or.inl ⟨by kernel_rfl, by intro WW hSw; obtain ⟨s1, s2, s4⟩ := hSw; go_simp⟩) (by assumption) ?_
  (try simp only [Act.put, List.setIfInBounds_toArray, List.set_cons_zero, List.set_cons_succ])
  refine wpAnyH_take (i := 3) (oi := ⟨some 6, _, _, _, _, _⟩) (v := .pointer (some ⟨g, 1, none⟩)) rfl (by kernel_rfl) (by kernel_rfl) (by kernel_rfl) (fun _ _ _ h => h) (Or.inl ⟨by kernel_rfl, by intro WW hSw; obtain ⟨s1, s2, s4⟩ := hSw; go_simp⟩) (by assumption) ?_
  (try simp only [Act.put, List.setIfInBounds_toArray, List.set_cons_zero, List.set_cons_succ])
  refine wpAnyH_take (i := 4) (oi := ⟨some 7, _, _, _, _, _⟩) (v := .pointer si) rfl (by kernel_rfl) (by kernel_rfl) (by kernel_rfl) (fun _ _ _ h => h) (Or.inl ⟨by kernel_rfl, by intro WW hSw; obtain ⟨s1, s2, s4⟩ := hSw; go_simp⟩) (by assumption) ?_
  (try simp only [Act.put, List.setIfInBounds_toArray, List.set_cons_zero, List.set_cons_succ])
  refine wpAnyH_take (i := 6) (oi := ⟨some 9, _, _, _, _, _⟩) (v := .pointer (some ⟨g, 0, none⟩)) rfl (by kernel_rfl) (by kernel_rfl) (by kernel_rfl) (fun _ _ _ h => h) (Or.inl ⟨by kernel_rfl, by intro WW hSw; obtain ⟨s1, s2, s4⟩ := hSw; go_simp⟩) (by assumption) ?_
  (try simp only [Act.put, List.setIfInBounds_toArray, List.set_cons_zero, List.set_cons_succ])
  refine wpAnyH_take (i := 7) (oi := ⟨some 10, _, _, _, _, _⟩) (v := .pointer (some ⟨g, 0, none⟩)) rfl (by kernel_rfl) (by kernel_rfl) (by kernel_rfl) (fun _ _ _ h => h) (Or.inl ⟨by kernel_rfl, by intro WW hSw; obtain ⟨s1, s2, s4⟩ := hSw; go_simp⟩) (by assumption) ?_
  (try simp only [Act.put, List.setIfInBounds_toArray, List.set_cons_zero, List.set_cons_succ])
  refine wpAnyH_take (i := 8) (oi := ⟨some 11, _, _, _, _, _⟩) (v := .pointer (some ⟨g, 2, none⟩)) rfl (by kernel_rfl) (by kernel_rfl) (by kernel_rfl) (fun _ _ _ h => h) (Or.inl ⟨by kernel_rfl, by intro WW hSw; obtain ⟨s1, s2, s4⟩ := hSw; go_simp⟩) (by assumption) ?_
  (try simp only [Act.put, List.setIfInBounds_toArray, List.set_cons_zero, List.set_cons_succ])
  refine wpAnyH_take (i := 9) (oi := ⟨some 12, _, _, _, _, _⟩) (v := .int .i64 cl) rfl (by kernel_rfl) (by kernel_rfl) (by kernel_rfl) (fun _ _ _ h => h) (Or.inl ⟨by kernel_rfl, by intro WW hSw; obtain ⟨s1, s2, s4⟩ := hSw; go_simp⟩) (by assumption) ?_
  (try simp only [Act.put, List.setIfInBounds_toArray, List.set_cons_zero, List.set_cons_succ])
  refine wpAnyH_take (i := 10) (oi := ⟨some 13, _, _, _, _, _⟩) (v := .pointer (some ⟨g, 0, none⟩)) rfl (by kernel_rfl) (by kernel_rfl) (by kernel_rfl) (fun _ _ _ h => h) (Or.inl ⟨by kernel_rfl, by intro WW hSw; obtain ⟨s1, s2, s4⟩ := hSw; go_simp⟩) (by assumption) ?_
  (try simp only [Act.put, List.setIfInBounds_toArray, List.set_cons_zero, List.set_cons_succ])
  refine wpAnyH_take (i := 11) (oi := ⟨some 14, _, _, _, _, _⟩) (v := .pointer (some ⟨g, 0, none⟩)) rfl (by kernel_rfl) (by kernel_rfl) (by kernel_rfl) (fun _ _ _ h => h) (Or.inl ⟨by kernel_rfl, by intro WW hSw; obtain ⟨s1, s2, s4⟩ := hSw; go_simp⟩) (by assumption) ?_
  (try simp only [Act.put, List.setIfInBounds_toArray, List.set_cons_zero, List.set_cons_succ])
  refine wpAnyH_take (i := 12) (oi := ⟨some 15, _, _, _, _, _⟩) (v := .pointer (some ⟨g, 4, none⟩)) rfl (by kernel_rfl) (by kernel_rfl) (by kernel_rfl) (fun _ _ _ h => h) (Or.inl ⟨by kernel_rfl, by intro WW hSw; obtain ⟨s1, s2, s4⟩ := hSw; go_simp⟩) (by assumption) ?_
  (try simp only [Act.put, List.setIfInBounds_toArray, List.set_cons_zero, List.set_cons_succ])
  refine wpAnyH_take (i := 13) (oi := ⟨some 16, _, _, _, _, _⟩) (v := .int .u64 a) rfl (by kernel_rfl) (by kernel_rfl) (by kernel_rfl) (fun _ _ _ h => h) (Or.inl ⟨by kernel_rfl, by intro WW hSw; obtain ⟨s1, s2, s4⟩ := hSw; go_simp⟩) (by assumption) ?_
  (try simp only [Act.put, List.setIfInBounds_toArray, List.set_cons_zero, List.set_cons_succ])
  refine wpAnyH_one (i := 5) (oi := ⟨some 8, _, _, _, _, _⟩) rfl (by kernel_rfl) (fun K hK => ?_)
  refine step_calls (by rfl) 25 EL.out [.tmp 7] _ rfl [.pointer si] rfl (HLL.out _ (drew_below _)) ?_
  rintro e wx ⟨rfl, rfl⟩
  refine ⟨_, rfl, hK _ _ (HST.out _ _ (HH.out.below (drew_below _)) ⟨rfl, rfl, rfl⟩) (fun hHeld => ?_)⟩
  clear hK K
  (try simp only [Act.put, List.setIfInBounds_toArray, List.set_cons_zero, List.set_cons_succ])
  refine wpAnyH_one (i := 14) (oi := ⟨some 17, _, _, _, _, _⟩) rfl (by kernel_rfl) (fun K hK => ?_)
  refine step_calls (by rfl) 54 ET.out [.tmp 8, .tmp 12, .tmp 16] _ rfl [.pointer t, .int .i64 cl, .int .u64 a] rfl (HTT.out _ (drew_below _)) ?_
  rintro e w3 ⟨rfl, h3, hr3⟩
  have H3 := Lib.hid h3
  have HR3 := Lib.hid hr3
  have k29 : w3.cell? ⟨g, 29, none⟩ = some (.bool s.lk) := Row.cell h3 29
  have fr29 := Row.free h3 29
  refine ⟨_, rfl, hK _ _ (HST.out _ _ h3 ⟨rfl, rfl, rfl⟩) (fun hHeld => ?_)⟩
  clear hK K
  (try simp only [Act.put, List.setIfInBounds_toArray, List.set_cons_zero, List.set_cons_succ])
  clear h3 hr3
  refine wpAnyH_take (i := 15) (oi := ⟨some 18, _, _, _, _, _⟩) (v := .pointer (some ⟨g, 0, none⟩)) rfl (by kernel_rfl) (by kernel_rfl) (by kernel_rfl) (fun _ _ _ h => h) (Or.inl ⟨by kernel_rfl, by intro WW hSw; obtain ⟨s1, s2, s4⟩ := hSw; go_simp⟩) (by assumption) ?_
  (try simp only [Act.put, List.setIfInBounds_toArray, List.set_cons_zero, List.set_cons_succ])
  refine wpAnyH_take (i := 16) (oi := ⟨some 19, _, _, _, _, _⟩) (v := .pointer (some ⟨g, 29, none⟩)) rfl (by kernel_rfl) (by kernel_rfl) (by kernel_rfl) (fun _ _ _ h => h) (Or.inl ⟨by kernel_rfl, by intro WW hSw; obtain ⟨s1, s2, s4⟩ := hSw; go_simp⟩) (by assumption) ?_
  (try simp only [Act.put, List.setIfInBounds_toArray, List.set_cons_zero, List.set_cons_succ])
  refine wpAnyH_one (i := 17) (oi := ⟨none, _, _, _, _, _⟩) rfl (by kernel_rfl) (fun K hK => ?_)
  refine step_storeH1 (by rfl) _ (.tmp 19) (.tmp 17) rfl g 29 (.bool true) _ rfl rfl rfl k29 fr29 (by kernel_rfl) rfl ?_
  refine hK _ _ (HST.out _ { s with lk := true } (H3.out.locked true) ⟨rfl, rfl, rfl⟩) (fun hHeld => ?_)
  clear hK K
  (try simp only [Act.put, List.setIfInBounds_toArray, List.set_cons_zero, List.set_cons_succ])
  refine wpAnyH_done (by kernel_rfl) ?_ _
  have HC := Lib.hid (HKK.out w3 HR3.out H3.out)
  have h29 := H3.out.locked true
  have e29 : (w3.setCell ⟨g, 29, none⟩ (.bool true)).cell? ⟨g, 29, none⟩ = some (.bool true) := Row.cell h29 29
  obtain ⟨W4, hW4⟩ : ∃ W4, W4 = w3.setCell ⟨g, 29, none⟩ (.bool true) := ⟨_, rfl⟩
  rw [← hW4] at HC e29 ⊢
  clear hHeld h29 k29 fr29 hW4 HKK HTT HLL
  go_wp2_with fail
  (try refine (‹∀ (a : Act) (w : World), Code.wp Tryz.prog _ _ a w → _›) _ _ ?_)
  (try go_wp2_with fail)
  refine HC.out.mono ?_
  rintro e w5 ⟨rfl, hq⟩
  have HQ := Lib.hid hq
  clear hq e29 HC
  go_wp2_with fail
  go_ret
  exact ⟨rfl, HQ.out⟩
theorem hoRead_more {w : World} {g gs : Nat} {s : HF} {P : World → Prop} (h : HoAt w g s) (hs : s.sn = .pointer (some ⟨gs, 0, none⟩)) (HS : Calls Tryz.prog 90 #[.pointer (some ⟨gs, 0, none⟩)] w fun e w' => e = .returned (.tuple #[.bool false, .int .i64 0]) ∧ P w') :
    Calls Tryz.prog 76 #[.pointer (some ⟨g, 0, none⟩)] w fun e w' => e = .returned (.int .i64 0) ∧ P w' := by
  have c6 : w.cell? ⟨g, 6, none⟩ = some s.sn := Row.cell h 6
  rw [hs] at c6
  have H := Lib.hid HS
  clear h hs HS
  go_enter Tryz.func76, Tryz.ntmps76
  go_wp2_with fail
  refine H.out.mono ?_
  rintro e w1 ⟨rfl, hp⟩
  have HP := Lib.hid hp
  clear hp c6 H
  go_wp2_with fail
  go_ret
  exact ⟨rfl, HP.out⟩
theorem hoRead_then {w : World} {g gs : Nat} {s : HF} {P Q : World → Prop} (h : HoAt w g s) (hs : s.sn = .pointer (some ⟨gs, 0, none⟩)) (HS : Calls Tryz.prog 90 #[.pointer (some ⟨gs, 0, none⟩)] w fun e w' => e = .returned (.tuple #[.bool true, .int .i64 0]) ∧ P w')
    (HE : ∀ w', P w' → Calls Tryz.prog 91 #[.pointer (some ⟨g, 0, none⟩)] w' fun e w2 => e = .returned (.int .i64 0) ∧ Q w2) :
    Calls Tryz.prog 76 #[.pointer (some ⟨g, 0, none⟩)] w fun e w' => e = .returned (.int .i64 0) ∧ Q w' := by
  have c6 : w.cell? ⟨g, 6, none⟩ = some s.sn := Row.cell h 6
  rw [hs] at c6
  have H := Lib.hid HS
  have HEE := Lib.hid HE
  clear h hs HS HE
  go_enter Tryz.func76, Tryz.ntmps76
  go_wp2_with fail
  refine H.out.mono ?_
  rintro e w1 ⟨rfl, hp⟩
  have HP := Lib.hid (HEE.out w1 hp)
  clear hp c6 H HEE
  go_wp2_with fail
  refine HP.out.mono ?_
  rintro e w2 ⟨rfl, hq⟩
  have HQ := Lib.hid hq
  clear hq HP
  go_wp2_with fail
  go_ret
  exact ⟨rfl, HQ.out⟩
end Go.Proofs.YtiefgmibgdidpaaGreatDoor
/- A hold sees a node that is whole; conditions: no right neighbour to hop to, all entries valid and in range. -/
namespace Go.Proofs.YtiefgmibgdidpaaGreatDoor
open Go.RowKit
set_option linter.unusedVariables false
attribute [local go_sem] Oper.semAt_some
set_option maxRecDepth 100000 in
set_option maxHeartbeats 3200000 in
theorem hoSeen_done {w : World} {g gs : Nat} {s : HF} {N : Nd} (h : HoAt w g s) (hs : s.sn = .pointer (some ⟨gs, 0, none⟩)) (hN : ∀ W, Below w.heap.size w W → Calls Tryz.prog 45 #[.pointer (some ⟨gs, 0, none⟩)] W fun e w' => e = .returned (.tuple #[N.V, .int .i64 0]) ∧ Below W.heap.size W w')
    (hH : ∀ W, Below w.heap.size w W → Calls Tryz.prog 22 #[.pointer (some ⟨gs, 0, none⟩)] W fun e w' => e = .returned (.tuple #[.int .u64 0, .bool false]) ∧ Below W.heap.size W w') (hi : N.inv < 0) (ha : ¬ (N.act 0 false).length < N.len) :
    Calls Tryz.prog 91 #[.pointer (some ⟨g, 0, none⟩)] w fun e w' => e = .returned (.int .i64 0) ∧ HoAt w' g { s with n := N, d := true } ∧ But w w' (fun q => q = g) := by
  have mixed : Tryz.prog.follows .mixedOrders = true := by kernel_rfl
  have EA := Lib.hid (enters_of Tryz.func114 (by kernel_rfl) rfl)
  have EL := Lib.hid (enters_of Tryz.func115 (by kernel_rfl) rfl)
  have c6 : w.cell? ⟨g, 6, none⟩ = some s.sn := Row.cell h 6
  rw [hs] at c6
  have H := Lib.hid h
  have HN := Lib.hid (hN w (Below.refl _ _))
  have HH := Lib.hid hH
  have HAC := Lib.hid ha
  have HI := Lib.hid hi
  have hg := h.lt
  clear h hs hN hH hi ha
  go_enter Tryz.func91, Tryz.ntmps91
  go_wp2_with fail
  refine HN.out.mono ?_
  rintro e w1 ⟨rfl, hb1⟩
  have HB1 := Lib.hid hb1
  clear hb1 HN
  go_upto_region 2 with (first
    | ((with_reducible refine show_storeN ?_); refine wpList_store_row rfl _ _ _ rfl w1.heap.size N.cl rfl rfl (Row.new w1 35 zeroNd.cl.toArray) rfl ndI (cl_one _) ?_))
  obtain ⟨W2, hW2, hn2, hb2⟩ := store_ndH w1 N
  rw [← hW2]
  have HB2 := Lib.hid (Below.and HB1.out hb2)
  have HN2 := Lib.hid hn2
  have c62 : W2.cell? ⟨g, 6, none⟩ = some (.pointer (some ⟨gs, 0, none⟩)) := (HB2.out.cell (p := ⟨g, 6, none⟩) hg).trans c6
  have HHW := Lib.hid (HH.out W2 HB2.out)
  have HGN := Lib.hid (show w1.heap.size ≠ g from by have := HB1.out.size; omega)
  obtain ⟨gn, hgn⟩ : ∃ gn, gn = w1.heap.size := ⟨_, rfl⟩
  rw [← hgn] at HN2 HGN ⊢
  clear hW2 hn2 hb2 HH c6 hgn
  go_wp2_with fail
  refine HHW.out.mono ?_
  rintro e w3 ⟨rfl, hb3⟩
  have HB3 := Lib.hid (Below.and HB2.out hb3)
  have HN3 := Lib.hid (HN2.out.below hb3 HN2.out.lt)
  clear hb3 c62 HHW HN2 HB2 HB1
  obtain ⟨iv, hiv⟩ : ∃ iv, iv = N.inv := ⟨_, rfl⟩
  have HIV := Lib.hid (show Calls Tryz.prog 111 #[N.V] w3 fun e w' => e = .returned (.int .i64 iv) ∧ Below w3.heap.size w3 w' from by rw [hiv]; exact nInv_any N w3)
  have div : ¬ (0 : Int) ≤ iv := by have := HI.out; omega
  have d1 : decide ((0 : Int) ≤ iv) = false := decide_eq_false div
  clear hiv
  go_wp2_with (first
    | ((with_reducible refine show_loadN ?_); refine wpList_load_mid rfl _ _ rfl gn 0 rfl N.cl _ (ndR HN3.out) Tryz.underlying35 rfl ndI ?_))
  refine HIV.out.mono ?_
  rintro e w4 ⟨rfl, hb4⟩
  have HB4 := Lib.hid (Below.and HB3.out hb4)
  have hn4 := HN3.out.below hb4 HN3.out.lt
  have HN4 := Lib.hid hn4
  have HST := Lib.hid (show ∀ W : World, Below w4.heap.size w4 W → W.rangeAt gn 0 N.cl from fun W hW => ndR (hn4.below hW hn4.lt))
  have HRG := Lib.hid (show ∀ W : World, W.rangeAt gn 0 N.cl → W.rangeAt gn 0 N.cl from fun W h => h)
  clear hb4 hn4 HIV HN3 HB3
  go_wp2_with fail
  refine wp_region_noPanic ?_
  refine wp_region_held_drew (S := fun W : World => W.rangeAt gn 0 N.cl) (by kernel_rfl) (HST.out _ (drew_below _)) (fun hHeld => ?_)
  refine wpAnyH_take (i := 0) (oi := ⟨some 80, _, _, _, _, _⟩) (v := .agg N.cl.toArray) rfl (by kernel_rfl) (by kernel_rfl) (by kernel_rfl) (fun _ _ _ h => h) (yieldsIf_load_mid (by rfl) _ _ rfl gn 0 rfl N.cl _ HRG.out Tryz.underlying35 rfl ndI) (by assumption) ?_
  (try simp only [Act.put, List.setIfInBounds_toArray, List.set_cons_zero, List.set_cons_succ])
  refine wpAnyH_take (i := 1) (oi := ⟨some 81, _, _, _, _, _⟩) (v := .int .u64 0) rfl (by kernel_rfl) (by kernel_rfl) (by kernel_rfl) (fun _ _ _ h => h) (Or.inl ⟨by kernel_rfl, by intro WW hSw; (try dsimp only at hSw); go_simp⟩) (by assumption) ?_
  (try simp only [Act.put, List.setIfInBounds_toArray, List.set_cons_zero, List.set_cons_succ])
  refine wpAnyH_take (i := 2) (oi := ⟨some 82, _, _, _, _, _⟩) (v := .bool false) rfl (by kernel_rfl) (by kernel_rfl) (by kernel_rfl) (fun _ _ _ h => h) (Or.inl ⟨by kernel_rfl, by intro WW hSw; (try dsimp only at hSw); go_simp⟩) (by assumption) ?_
  (try simp only [Act.put, List.setIfInBounds_toArray, List.set_cons_zero, List.set_cons_succ])
  refine wpAnyH_take (i := 5) (oi := ⟨some 85, _, _, _, _, _⟩) (v := .agg N.cl.toArray) rfl (by kernel_rfl) (by kernel_rfl) (by kernel_rfl) (fun _ _ _ h => h) (yieldsIf_load_mid (by rfl) _ _ rfl gn 0 rfl N.cl _ HRG.out Tryz.underlying35 rfl ndI) (by assumption) ?_
  (try simp only [Act.put, List.setIfInBounds_toArray, List.set_cons_zero, List.set_cons_succ])
  refine wpAnyH_one (i := 3) (oi := ⟨some 83, _, _, _, _, _⟩) rfl (by kernel_rfl) (fun K hK => ?_)
  refine step_calls (by rfl) 114 EA.out [.tmp 80, .tmp 81, .tmp 82] _ rfl [.agg N.cl.toArray, .int .u64 0, .bool false] rfl (nActive_any N 0 false _) ?_
  rintro e w6 ⟨⟨v, rfl, ho⟩, hb6⟩
  have HB6 := Lib.hid (Below.and (drew_below _) hb6)
  obtain ⟨ad, cap, hv⟩ : ∃ ad cap, v = .slice ad (N.act 0 false).length cap := by
    rcases ho.2 with ⟨h1, h2⟩ | ⟨g', cap, cur, h1, _⟩
    · exact ⟨none, 0, by rw [h2]; exact h1⟩
    · exact ⟨_, _, h1⟩
  obtain ⟨M, hM⟩ : ∃ M, M = (N.act 0 false).length := ⟨_, rfl⟩
  rw [← hM] at hv
  subst hv
  have dlt : ¬ ((M : Nat) : Int) < ((N.len : Nat) : Int) := by have := HAC.out; omega
  obtain ⟨LN, hLN⟩ : ∃ LN, LN = N.len := ⟨_, rfl⟩
  rw [← hLN] at dlt
  have d2 : decide ((M : Int) < (LN : Int)) = false := decide_eq_false dlt
  have dln : ¬ M < LN := by omega
  have HLN := Lib.hid hLN
  have HML := Lib.hid hM
  clear ho hb6 hM hLN
  refine ⟨_, rfl, hK _ _ (HST.out _ HB6.out) (fun hHeld => ?_)⟩
  clear hK K
  (try simp only [Act.put, List.setIfInBounds_toArray, List.set_cons_zero, List.set_cons_succ])
  refine wpAnyH_take (i := 4) (oi := ⟨some 84, _, _, _, _, _⟩) (v := .int .i64 (M : Int)) rfl (by kernel_rfl) (by kernel_rfl) (by kernel_rfl) (fun _ _ _ h => h) (Or.inl ⟨by kernel_rfl, by intro WW hSw; (try dsimp only at hSw); go_simp⟩) (by assumption) ?_
  (try simp only [Act.put, List.setIfInBounds_toArray, List.set_cons_zero, List.set_cons_succ])
  refine wpAnyH_one (i := 6) (oi := ⟨some 86, _, _, _, _, _⟩) rfl (by kernel_rfl) (fun K hK => ?_)
  refine step_calls (by rfl) 115 EL.out [.tmp 85] _ rfl [.agg N.cl.toArray] rfl (nlen_any N _) ?_
  rintro e w7 ⟨he7, hb7⟩
  rw [← HLN.out] at he7
  subst he7
  have HB7 := Lib.hid (Below.and HB6.out hb7)
  clear hb7
  refine ⟨_, rfl, hK _ _ (HST.out _ HB7.out) (fun hHeld => ?_)⟩
  clear hK K
  (try simp only [Act.put, List.setIfInBounds_toArray, List.set_cons_zero, List.set_cons_succ])
  refine wpAnyH_take (i := 7) (oi := ⟨some 87, _, _, _, _, _⟩) (v := .bool false) rfl (by kernel_rfl) (by kernel_rfl) (by kernel_rfl) (fun _ _ _ h => h) (Or.inl ⟨by kernel_rfl, by intro WW hSw; (try dsimp only at hSw); go_simp⟩) (by assumption) ?_
  (try simp only [Act.put, List.setIfInBounds_toArray, List.set_cons_zero, List.set_cons_succ])
  refine wpAnyH_take (i := 8) (oi := ⟨some 79, _, _, _, _, _⟩) (v := .bool false) rfl (by kernel_rfl) (by kernel_rfl) (by kernel_rfl) (fun _ _ _ h => h) (Or.inl ⟨by kernel_rfl, by intro WW hSw; (try dsimp only at hSw); go_simp⟩) (by assumption) ?_
  (try simp only [Act.put, List.setIfInBounds_toArray, List.set_cons_zero, List.set_cons_succ])
  refine wpAnyH_done (by kernel_rfl) ?_ _
  have hB7 := Below.and HB4.out HB7.out
  have HB8 := Lib.hid hB7
  have HN8 := Lib.hid (HN4.out.below HB7.out HN4.out.lt)
  have H8 := Lib.hid (H.out.below hB7)
  have HTH := Lib.hid (row_thereH (n := 21) (o := 8) H8.out (by show 8 + 21 ≤ 32; decide))
  clear hHeld dlt dln d2 hB7 HST HRG
  go_wp2_with fail
  (try refine (‹∀ (a : Act) (w : World), Code.wp Tryz.prog _ _ a w → _›) _ _ ?_)
  go_wp2_with (first
    | ((with_reducible refine show_loadN ?_); refine wpList_load_mid rfl _ _ rfl gn 0 rfl N.cl _ (ndR HN8.out) Tryz.underlying35 rfl ndI ?_)
    | ((with_reducible refine show_storeN ?_); refine wpList_store_mid rfl _ _ _ rfl g 8 N.cl.toArray rfl rfl HTH.out ndI (all_oneCell_toArray (cl_one _)) ?_; obtain ⟨W9, hW9⟩ : ∃ W9, W9 = w7.setCells g 8 N.cl := ⟨_, rfl⟩; have H9 := Lib.hid (show HoAt W9 g { s with n := N } from by rw [hW9]; exact H8.out.node N); have HB9 := Lib.hid (show But w7 W9 (fun q => q = g) from by rw [hW9]; exact but_setCells (But.refl w7 _) N.cl 8); have e30 : W9.cell? ⟨g, 30, none⟩ = some (.bool s.d) := Row.cell H9.out 30; have f30 := Row.free H9.out 30; (try rw [← hW9]); clear hW9))
  go_ret
  exact ⟨rfl, H9.out.done true, hbut1 ((But.of_below HB8.out (fun q => q = g)).trans HB9.out fun q hq => .inl hq) 30 _⟩
end Go.Proofs.YtiefgmibgdidpaaGreatDoor
/- A hold's snapshot in a memory in which nobody stores: what stands behind its steps; no conditions. -/
namespace Go.Proofs.YtiefgmibgdidpaaGreatDoor
open Go.RowKit
set_option linter.unusedVariables false
/-- What stands behind a hold's steps. -/
structure HJS (w1 W : World) (y1 : Lay) (gw gs n : Nat) (s : St) (S : SS) (F : HF) : Prop where
  ex : ∃ y, MemAt W y s ∧ y.g = y1.g ∧ (∀ k, y.fp k → y1.fp k ∨ w1.heap.size ≤ k) ∧ ¬ y.fp gs ∧ ¬ y.fp gw
  sn : SnapAt W gs (some ⟨y1.g, 0, none⟩) S
  wk : HoAt W gw F
  lds : Lds s.nl n s
  ne : gs ≠ gw
  gs : w1.heap.size ≤ gs
  but : But w1 W (fun q => y1.fp q ∨ q = gw)
structure HJB (w1 W : World) (y1 : Lay) (gw n : Nat) (s : St) (F : HF) : Prop where
  ex : ∃ y, MemAt W y s ∧ y.g = y1.g ∧ (∀ k, y.fp k → y1.fp k ∨ w1.heap.size ≤ k) ∧ ¬ y.fp gw
  wk : HoAt W gw F
  lds : Lds s.nl n s
  but : But w1 W (fun q => y1.fp q ∨ q = gw)
section
variable {w1 W W' : World} {y1 : Lay} {gw gs n : Nat} {s : St} {S : SS} {F F' : HF}
theorem HJB.below (h : HJB w1 W y1 gw n s F) (hb : Below W.heap.size W W') : HJB w1 W' y1 gw n s F := by
  obtain ⟨y, a, b, c, d⟩ := h.ex
  exact ⟨⟨y, a.below hb, b, c, d⟩, h.wk.below hb, h.lds, h.but.trans (But.of_below hb (fun q => y1.fp q ∨ q = gw)) fun q hq => .inl hq⟩
theorem HJB.turn (h : HJB w1 W y1 gw n s F) (hb : But W W' (fun q => q = gw)) (hw : HoAt W' gw F') : HJB w1 W' y1 gw n s F' := by
  obtain ⟨y, a, b, c, d⟩ := h.ex
  exact ⟨⟨y, a.but hb (fun k hk e => d (e ▸ hk)), b, c, d⟩, hw, h.lds, h.but.trans hb fun q hq => .inl (.inr hq)⟩
theorem HJS.below (h : HJS w1 W y1 gw gs n s S F) (hb : Below W.heap.size W W') : HJS w1 W' y1 gw gs n s S F := by
  obtain ⟨y, a, b, c, d, e⟩ := h.ex
  obtain ⟨cs, hr, hs⟩ := h.sn
  exact ⟨⟨y, a.below hb, b, c, d, e⟩, ⟨cs, hr.below hb hr.lt, hs⟩, h.wk.below hb, h.lds, h.ne, h.gs, h.but.trans (But.of_below hb (fun q => y1.fp q ∨ q = gw)) fun q hq => .inl hq⟩
theorem HJS.turn (h : HJS w1 W y1 gw gs n s S F) (hb : But W W' (fun q => q = gw)) (hw : HoAt W' gw F') : HJS w1 W' y1 gw gs n s S F' := by
  obtain ⟨y, a, b, c, d, e⟩ := h.ex
  obtain ⟨cs, hr, hs⟩ := h.sn
  exact ⟨⟨y, a.but hb (fun k hk e' => e (e' ▸ hk)), b, c, d, e⟩, ⟨cs, hb.row hr h.ne, hs⟩, hw, h.lds, h.ne, h.gs, h.but.trans hb fun q hq => .inl (.inr hq)⟩
theorem HJS.at_ (h : HJS w1 W y1 gw gs n s S F) : ∃ y, SnAt W W y gs s s n S := by
  obtain ⟨y, a, b, c, d, e⟩ := h.ex
  have h1 := h.sn
  rw [← b] at h1
  obtain ⟨cs, hr, hs⟩ := h1
  exact ⟨y, ⟨y, a, RT.of_below y gs (Below.refl _ _)⟩, ⟨cs, hr, hs⟩, rfl, rfl, h.lds, d, hr.lt⟩
/-- What it keeps beside. -/
def HKeeps (W Wl w' : World) : Prop := ∀ k, W.heap.size ≤ k → k < Wl.heap.size → w'.heap[k]? = Wl.heap[k]?
theorem HJS.step {Wl : World} (h : HJS w1 W y1 gw gs n s S F) (hb : Below W.heap.size W Wl) (hn : n ≤ 1000000) (G : S.Good) (h1 : ∀ k, y1.fp k → k < w1.heap.size) :
    Calls Tryz.prog 90 #[.pointer (some ⟨gs, 0, none⟩)] Wl fun e w' => e = .returned (.tuple #[.bool (S.go (ldV s) (ldK s)).d, .int .i64 (S.go (ldV s) (ldK s)).k]) ∧
      (HJS w1 w' y1 gw gs (n + 1) (ldS s S.ask) (S.go (ldV s) (ldK s)) F ∧ HKeeps W Wl w') := by
  have hl := h.below hb
  obtain ⟨y, a, b, c, d, e⟩ := h.ex
  have hlt := a.lt
  have hgs : gs < W.heap.size := by obtain ⟨cs, hr, _⟩ := h.sn; exact hr.lt
  have hsn := hl.sn
  rw [← b] at hsn
  refine (sstep_any (a.below hb) h.lds.ok hsn d G).mono ?_
  rintro e' w' ⟨rfl, y2, hm2, hsn2, t⟩
  rw [b] at hsn2
  have hgw := hl.wk.lt
  refine ⟨rfl, ⟨⟨y2, hm2, t.g.trans b, fun k hk => ?_, fun hf => ?_, fun hf => ?_⟩, hsn2, hl.wk.but t.but (fun hf => hf.elim e (fun e2 => h.ne e2.symm)), ?_, h.ne, h.gs, hl.but.trans t.but fun q hq => ?_⟩, fun k hk hk' => t.but.block k hk' (fun hf => ?_)⟩
  · rcases t.fp k hk with h2 | h2
    · exact c k h2
    · exact .inr (Nat.le_trans hl.but.size h2)
  · rcases t.fp gs hf with h2 | h2
    · exact d h2
    · have := hb.size; omega
  · rcases t.fp gw hf with h2 | h2
    · exact e h2
    · omega
  · have hs : (ldS s S.ask).nl = s.nl := by unfold ldS; split <;> rfl
    rw [hs]
    exact h.lds.load hn _
  · rcases hq with h2 | h2
    · exact (c q h2).imp .inl id
    · exact .inr (by rw [h2]; exact h.gs)
  · rcases hf with h2 | h2
    · have := hlt k h2
      omega
    · omega
end
section
variable {w1 W Wl W' : World} {y1 : Lay} {gw gs n : Nat} {s : St} {S : SS} {F : HF}
end
end Go.Proofs.YtiefgmibgdidpaaGreatDoor
