/- Texts of this claim, packed: WkS, WkC, WkT. -/
import Derived.Test.YtfdngoificpjfaaGreatDoorPm29
import Derived.Test.YtfdngoificpjfaaGreatDoorPm32
import Derived.Test.YtfdngoificpjfaaGreatDoorPm34
import Derived.Test.YtfdngoificpjfaaGreatDoorPm24
import Derived.Test.YtfdngoificpjfaaGreatDoorPm02
/- A walk's cells, and what its small functions answer; no conditions. -/
namespace Go.Proofs.YtfdngoificpjfaaGreatDoor
open Go.RowKit
set_option linter.unusedVariables false
attribute [local go_sem] Oper.semAt_some
/-- A walk's state, as it lies. -/
structure WF where
  mem : Option Addr
  cl : Int
  key : Int
  lev : Int
  nx : Value
  un : Value
  th : Value
  sn : Value
  at_ : Int
  n : Nd
  hi : Int
  has : Bool
  lo : Int
  to : Int
  was : Bool
  ends : Int
  d : Bool
  k : Int
def WF.cells (s : WF) : List Value := [.pointer s.mem, .int .i64 s.cl, .int .u64 s.key, .int .i64 s.lev, s.nx, s.un, s.th, s.sn, .int .u64 s.at_] ++ s.n.cl ++ [.int .u64 s.hi, .bool s.has, .int .u64 s.lo, .int .u64 s.to, .bool s.was, .int .i64 s.ends, .bool s.d, .int .i64 s.k]
def WkAt (w : World) (g : Nat) (s : WF) : Prop := Row w g 78 s.cells.toArray
/-- A walk of which nothing is done. -/
def WF.new (m : Option Addr) (cl key lev : Int) (g : Nat) : WF := ⟨m, cl, key, lev, nextV 26 g, .nilIface, .nilFunc, .pointer none, 0, zeroNd, 0, false, 0, 0, false, 0, false, 0⟩
set_option maxRecDepth 100000 in
set_option maxHeartbeats 1600000 in
theorem wkNew_any {w : World} {x m : Option Addr} {cl key lev : Int} (hM : Calls Tryz.prog 14 #[.pointer x] w fun e w' => e = .returned (.pointer m) ∧ w = w') :
    Calls Tryz.prog 10 #[.pointer x, .int .i64 cl, .int .u64 key, .int .i64 lev] w fun e w' => e = .returned (.pointer (some ⟨w.heap.size, 0, none⟩)) ∧ WkAt w' w.heap.size (WF.new m cl key lev w.heap.size) ∧ Below w.heap.size w w' := by
  have HM := Lib.hid hM
  clear hM
  go_enter Tryz.func10, Tryz.ntmps10
  go_wp2_with fail
  refine HM.out.mono ?_
  rintro e w1 ⟨rfl, rfl⟩
  clear HM
  go_wp2_with fail
  go_ret
  exact ⟨rfl, Row.new _ _ _, alloc_below _ _⟩
theorem WkAt.lt {w : World} {g : Nat} {s : WF} (h : WkAt w g s) : g < w.heap.size := Row.lt h
theorem WkAt.below {w w' : World} {g : Nat} {s : WF} (h : WkAt w g s) (hb : Below w.heap.size w w') : WkAt w' g s := Row.below h hb (Row.lt h)
theorem WkAt.but {w w' : World} {g : Nat} {s : WF} {fp : Nat → Prop} (h : WkAt w g s) (hb : But w w' fp) (hn : ¬ fp g) : WkAt w' g s := hb.row h hn
theorem WkAt.next {w : World} {g : Nat} {s : WF} (h : WkAt w g s) (v : Value) : WkAt (w.setCell ⟨g, 4, none⟩ v) g { s with nx := v } := Row.set h 4 v
theorem WkAt.under {w : World} {g : Nat} {s : WF} (h : WkAt w g s) (v : Value) : WkAt (w.setCell ⟨g, 5, none⟩ v) g { s with un := v } := Row.set h 5 v
theorem WkAt.then_ {w : World} {g : Nat} {s : WF} (h : WkAt w g s) (v : Value) : WkAt (w.setCell ⟨g, 6, none⟩ v) g { s with th := v } := Row.set h 6 v
theorem WkAt.snap {w : World} {g : Nat} {s : WF} (h : WkAt w g s) (v : Value) : WkAt (w.setCell ⟨g, 7, none⟩ v) g { s with sn := v } := Row.set h 7 v
theorem WkAt.high {w : World} {g : Nat} {s : WF} (h : WkAt w g s) (v : Int) : WkAt (w.setCell ⟨g, 30, none⟩ (.int .u64 v)) g { s with hi := v } := Row.set h 30 _
theorem WkAt.has {w : World} {g : Nat} {s : WF} (h : WkAt w g s) (v : Bool) : WkAt (w.setCell ⟨g, 31, none⟩ (.bool v)) g { s with has := v } := Row.set h 31 _
theorem WkAt.ends {w : World} {g : Nat} {s : WF} (h : WkAt w g s) (v : Int) : WkAt (w.setCell ⟨g, 35, none⟩ (.int .i64 v)) g { s with ends := v } := Row.set h 35 _
theorem WkAt.done {w : World} {g : Nat} {s : WF} (h : WkAt w g s) (v : Bool) : WkAt (w.setCell ⟨g, 36, none⟩ (.bool v)) g { s with d := v } := Row.set h 36 _
theorem WkAt.code {w : World} {g : Nat} {s : WF} (h : WkAt w g s) (v : Int) : WkAt (w.setCell ⟨g, 37, none⟩ (.int .i64 v)) g { s with k := v } := Row.set h 37 _
theorem wkStep_nil (w : World) : Calls Tryz.prog 19 #[.pointer none] w fun e w' => e = .returned (.tuple #[.bool true, .int .i64 1]) ∧ w = w' := by
  go_enter Tryz.func19, Tryz.ntmps19
  go_wp2
  go_ret2
  exact ⟨rfl, rfl⟩
theorem wkStep_zero {w : World} {g : Nat} {s : WF} (h : WkAt w g s) (hn : s.nx = .nilFunc) : Calls Tryz.prog 19 #[.pointer (some ⟨g, 0, none⟩)] w fun e w' => e = .returned (.tuple #[.bool true, .int .i64 1]) ∧ w = w' := by
  have c4 : w.cell? ⟨g, 4, none⟩ = some s.nx := Row.cell h 4
  rw [hn] at c4
  have q1 := fun w => eqNilR w
  have q2 := fun w => guardNilR w (.tmp 10)
  clear h hn
  go_enter Tryz.func19, Tryz.ntmps19
  go_wp2
  go_ret2
  exact ⟨rfl, rfl⟩
/-- What a step leaves. -/
def WkSP (g : Nat) (d' D : Bool) (k : Int) (R : World → WF → Prop) (e : Ending) (w' : World) : Prop := e = .returned (.tuple #[.bool D, .int .i64 k]) ∧ ∃ w1 s', R w1 s' ∧ s'.d = d' ∧ WkAt w' g { s' with d := D, k := k } ∧ But w1 w' (fun q => q = g)
/-- What a walk's function leaves. -/
def WkFP (g : Nat) (d' : Bool) (k : Int) (R : World → WF → Prop) (e : Ending) (w' : World) : Prop := e = .returned (.int .i64 k) ∧ ∃ s', WkAt w' g s' ∧ s'.d = d' ∧ R w' s'
set_option maxRecDepth 100000 in
set_option maxHeartbeats 3200000 in
theorem wkStep_of {w : World} {g f : Nat} {s : WF} {d' D : Bool} {kk : Int} {R : World → WF → Prop}
    (hcall : ∀ (w : World) (v : Value), (callFunc f #[v]).run Tryz.prog w = .ok (.enter f #[v]) w)
    (h : WkAt w g s) (hn : s.nx = nextV f g) (hd : s.d = false) (hD : (d' || kk != 0) = D)
    (H : Calls Tryz.prog f #[.pointer (some ⟨g, 0, none⟩)] w (WkFP g d' kk R)) :
    Calls Tryz.prog 19 #[.pointer (some ⟨g, 0, none⟩)] w (WkSP g d' D kk R) := by
  have mixed : Tryz.prog.follows .mixedOrders = true := by kernel_rfl
  have c4 : w.cell? ⟨g, 4, none⟩ = some s.nx := Row.cell h 4
  have c36 : w.cell? ⟨g, 36, none⟩ = some (.bool s.d) := Row.cell h 36
  rw [hn] at c4
  rw [hd] at c36
  unfold nextV at c4
  have q1 := fun w => eqFnR w f #[.pointer (some ⟨g, 0, none⟩)] #[]
  have q2 := fun w => guardFnR w f #[.pointer (some ⟨g, 0, none⟩)] #[] (.tmp 10)
  have H := Lib.hid H
  clear h hn hd
  go_enter Tryz.func19, Tryz.ntmps19
  go_wp2_with fail
  refine H.out.mono ?_
  rintro e w1 ⟨rfl, s', h1, hd1, hR⟩
  have e36 : w1.cell? ⟨g, 36, none⟩ = some (.bool s'.d) := Row.cell h1 36
  have e37 : w1.cell? ⟨g, 37, none⟩ = some (.int .i64 s'.k) := Row.cell h1 37
  rw [hd1] at e36
  have g36 := Row.free h1 36
  have g37 := Row.free h1 37
  have HH := Lib.hid h1
  have HR := Lib.hid hR
  have HD1 := Lib.hid hd1
  clear h1 hR c4 c36 q1 q2 H hcall hd1
  have HFIN := Lib.hid (show ∀ W, Below ((w1.setCell ⟨g, 37, none⟩ (.int .i64 kk)).setCell ⟨g, 36, none⟩ (.bool D)).heap.size ((w1.setCell ⟨g, 37, none⟩ (.int .i64 kk)).setCell ⟨g, 36, none⟩ (.bool D)) W → ∃ w1 s', R w1 s' ∧ s'.d = d' ∧ WkAt W g { s' with d := D, k := kk } ∧ But w1 W (fun q => q = g) from
    fun W hb => ⟨w1, s', HR.out, HD1.out, ((HH.out.code kk).done D).below hb, (((But.refl w1 (fun q => q = g)).set (p := ⟨g, 37, none⟩) rfl _).set (p := ⟨g, 36, none⟩) rfl _).trans (But.of_below hb (fun q => q = g)) fun q hq => .inl hq⟩)
  have HC := Lib.hid (show ∀ q : LowBy ((w1.setCell ⟨g, 37, none⟩ (.int .i64 kk)).setCell ⟨g, 36, none⟩ (.bool D)), q.W.cell? ⟨g, 36, none⟩ = some (.bool D) ∧ q.W.cell? ⟨g, 37, none⟩ = some (.int .i64 kk) from fun q => by
    have h2 := ((HH.out.code kk).done D).below q.low
    exact ⟨Row.cell h2 36, Row.cell h2 37⟩)
  obtain ⟨W2, hW2⟩ : ∃ W2, W2 = (w1.setCell ⟨g, 37, none⟩ (.int .i64 kk)).setCell ⟨g, 36, none⟩ (.bool D) := ⟨_, rfl⟩
  rw [← hW2] at HFIN HC
  have TAIL : ∀ (d'' : Bool) (k'' : Int), d'' = d'' := fun _ _ => rfl
  cases d' with
  | true =>
    obtain rfl : true = D := by simpa using hD
    clear hD HH HR HD1 TAIL
    go_wp2_with fail
    rw [← hW2]
    clear hW2 e36 e37 g36 g37
    have ca := fun q : LowBy W2 => (HC.out q).1
    have cb := fun q : LowBy W2 => (HC.out q).2
    refine wp_region_quiet_low (by assumption) (by kernel_rfl) ?_
    repeat (go_big_quiet_step (fail))
    refine wpQuiet_nil ?_
    intro _ hw'
    obtain ⟨q, hw''⟩ := hw'
    subst hw''
    have HE := Lib.hid (HFIN.out q.W q.low)
    clear ca cb HC HFIN
    go_wp2
    go_ret2
    exact ⟨rfl, HE.out⟩
  | false =>
    by_cases hk : kk = 0
    · subst hk
      obtain rfl : false = D := by simpa using hD
      clear hD HH HR HD1 TAIL
      go_wp2_with fail
      rw [← hW2]
      clear hW2 e36 e37 g36 g37
      have ca := fun q : LowBy W2 => (HC.out q).1
      have cb := fun q : LowBy W2 => (HC.out q).2
      refine wp_region_quiet_low (by assumption) (by kernel_rfl) ?_
      repeat (go_big_quiet_step (fail))
      refine wpQuiet_nil ?_
      intro _ hw'
      obtain ⟨q, hw''⟩ := hw'
      subst hw''
      have HE := Lib.hid (HFIN.out q.W q.low)
      clear ca cb HC HFIN
      go_wp2
      go_ret2
      exact ⟨rfl, HE.out⟩
    · have hk1 : (kk != 0) = true := by simpa using hk
      obtain rfl : true = D := by rw [← hD, hk1]; rfl
      have hk2 : (kk == 0) = false := by simpa using hk
      clear hD HH HR HD1 TAIL hk
      go_wp2_with fail
      rw [← hW2]
      clear hW2 e36 e37 g36 g37
      have ca := fun q : LowBy W2 => (HC.out q).1
      have cb := fun q : LowBy W2 => (HC.out q).2
      refine wp_region_quiet_low (by assumption) (by kernel_rfl) ?_
      repeat (go_big_quiet_step (fail))
      refine wpQuiet_nil ?_
      intro _ hw'
      obtain ⟨q, hw''⟩ := hw'
      subst hw''
      have HE := Lib.hid (HFIN.out q.W q.low)
      clear ca cb HC HFIN
      go_wp2
      go_ret2
      exact ⟨rfl, HE.out⟩
/-- Why there is no such walk. -/
def wrongK (Z lev : Int) : Int := if Z = 0 then 1 else if lev < 0 ∨ 15 < lev then 2 else 0
theorem wkWrong_any {w : World} {g : Nat} {s : WF} {Z : Int} (h : WkAt w g s) (hz : SizeIs w s.mem Z) :
    Calls Tryz.prog 44 #[.pointer (some ⟨g, 0, none⟩)] w fun e w' => e = .returned (.int .i64 (wrongK Z s.lev)) ∧ w = w' := by
  have c0 : w.cell? ⟨g, 0, none⟩ = some (.pointer s.mem) := Row.cell h 0
  have c3 : w.cell? ⟨g, 3, none⟩ = some (.int .i64 s.lev) := Row.cell h 3
  have HZ := Lib.hid (hz w (Below.refl _ _))
  obtain ⟨lev, hlev⟩ : ∃ lev, lev = s.lev := ⟨_, rfl⟩
  rw [← hlev] at c3 ⊢
  obtain ⟨K, hK⟩ : ∃ K, K = wrongK Z lev := ⟨_, rfl⟩
  rw [← hK]
  unfold wrongK at hK
  clear h hz hlev
  by_cases h0 : Z = 0
  · rw [if_pos h0] at hK
    subst h0
    subst hK
    go_enter Tryz.func44, Tryz.ntmps44
    go_wp2_with (refine HZ.out.mono ?_; rintro e w1 ⟨rfl, rfl⟩)
    go_ret
    exact ⟨rfl, rfl⟩
  · rw [if_neg h0] at hK
    have d0 : (Z == 0) = false := by simpa using h0
    by_cases h1 : lev < 0
    · rw [if_pos (.inl h1)] at hK
      subst hK
      have d1 : decide (lev < 0) = true := by simpa using h1
      clear h0
      go_enter Tryz.func44, Tryz.ntmps44
      go_wp2_with (refine HZ.out.mono ?_; rintro e w1 ⟨rfl, rfl⟩)
      go_ret
      exact ⟨rfl, rfl⟩
    · have d1 : decide (lev < 0) = false := by simpa using h1
      by_cases h2 : 15 < lev
      · rw [if_pos (.inr h2)] at hK
        subst hK
        have d2 : decide (15 < lev) = true := by simpa using h2
        clear h0
        go_enter Tryz.func44, Tryz.ntmps44
        go_wp2_with (refine HZ.out.mono ?_; rintro e w1 ⟨rfl, rfl⟩)
        go_ret
        exact ⟨rfl, rfl⟩
      · rw [if_neg (fun k => k.elim h1 h2)] at hK
        subst hK
        have d2 : decide (15 < lev) = false := by simpa using h2
        clear h0
        go_enter Tryz.func44, Tryz.ntmps44
        go_wp2_with (refine HZ.out.mono ?_; rintro e w1 ⟨rfl, rfl⟩)
        go_ret
        exact ⟨rfl, rfl⟩
end Go.Proofs.YtfdngoificpjfaaGreatDoor
/- A walk comes to a node, sees it, goes on; no conditions. -/
namespace Go.Proofs.YtfdngoificpjfaaGreatDoor
open Go.RowKit
set_option linter.unusedVariables false
attribute [local go_sem] Oper.semAt_some
theorem show_storePl {P : Program} {ops : Array Oper} {rest : List Oper} {Q : Exit → Act → World → Prop} {d : Option Nat} {t2 : TypeId} {x y : Operand} {ps : String} {af : Array Edge} {a : Act} {w : World} (h : wpList P ops Q (⟨d, .store 74 x y, t2, ps, af, none⟩ :: rest) a w) : wpList P ops Q (⟨d, .store 74 x y, t2, ps, af, none⟩ :: rest) a w := h
theorem plI : (Tryz.prog.info? 74).map (·.size) = some 24 := by kernel_rfl
/-- A place, as it lies. -/
def plV (at_ : Int) (n : Nd) (hi : Int) (has : Bool) : List Value := .int .u64 at_ :: (n.cl ++ [.int .u64 hi, .bool has])
theorem plV_one (at_ : Int) (n : Nd) (hi : Int) (has : Bool) : ∀ v ∈ plV at_ n hi has, v.oneCell' = true := by
  intro v hv
  rcases List.mem_cons.1 hv with rfl | h
  · rfl
  · rcases List.mem_append.1 h with h | h
    · exact cl_one n v h
    · simp at h
      rcases h with rfl | rfl <;> rfl
theorem setL_mid (pre old post vs : List Value) (h : old.length = vs.length) : setL (pre ++ (old ++ post)).toArray pre.length vs = (pre ++ (vs ++ post)).toArray := by
  have hg := (setL_get vs pre.length (pre ++ (old ++ post)).toArray (by simp; omega)).2
  apply Array.ext_getElem?
  intro i
  rw [hg i, List.getElem?_toArray, List.getElem?_toArray]
  by_cases h1 : i < pre.length
  · rw [if_neg (by omega), List.getElem?_append_left h1, List.getElem?_append_left h1]
  · by_cases h2 : i < pre.length + vs.length
    · rw [if_pos ⟨by omega, h2⟩, List.getElem?_append_right (l₁ := pre) (by omega), List.getElem?_append_left (by omega)]
    · rw [if_neg (by omega), List.getElem?_append_right (l₁ := pre) (l₂ := old ++ post) (by omega), List.getElem?_append_right (l₁ := pre) (l₂ := vs ++ post) (by omega), List.getElem?_append_right (l₁ := old) (by omega), List.getElem?_append_right (l₁ := vs) (by omega), h]
def WF.pre (s : WF) : List Value := [.pointer s.mem, .int .i64 s.cl, .int .u64 s.key, .int .i64 s.lev, s.nx, s.un, s.th, s.sn]
def WF.post (s : WF) : List Value := [.int .u64 s.lo, .int .u64 s.to, .bool s.was, .int .i64 s.ends, .bool s.d, .int .i64 s.k]
theorem WF.cells_pl (s : WF) : s.cells = s.pre ++ (plV s.at_ s.n s.hi s.has ++ s.post) := rfl
theorem WF.cells_nd (s : WF) : s.cells = (s.pre ++ [Value.int .u64 s.at_]) ++ (s.n.cl ++ (.int .u64 s.hi :: .bool s.has :: s.post)) := rfl
theorem WkAt.place {w : World} {g : Nat} {s : WF} (h : WkAt w g s) (at_ : Int) (n : Nd) (hi : Int) (has : Bool) : WkAt (w.setCells g 8 (plV at_ n hi has)) g { s with at_ := at_, n := n, hi := hi, has := has } := by
  have h1 := row_setCellsAux (plV at_ n hi has) 8 w s.cells.toArray h
  have e := setL_mid s.pre (plV s.at_ s.n s.hi s.has) s.post (plV at_ n hi has) rfl
  rw [WF.cells_pl] at h1
  exact (show Row _ _ _ _ from e ▸ h1)
theorem WkAt.node {w : World} {g : Nat} {s : WF} (h : WkAt w g s) (n : Nd) : WkAt (w.setCells g 9 n.cl) g { s with n := n } := by
  have h1 := row_setCellsAux n.cl 9 w s.cells.toArray h
  have e := setL_mid (s.pre ++ [Value.int .u64 s.at_]) s.n.cl (.int .u64 s.hi :: .bool s.has :: s.post) n.cl rfl
  rw [WF.cells_nd] at h1
  exact (show Row _ _ _ _ from e ▸ h1)
theorem row_thereM {w : World} {b : Nat} {t : TypeId} {cs : Array Value} (h : Row w b t cs) {o n : Nat} (hn : o + n ≤ cs.size) : w.there b o n := fun j hj => by
  exact ⟨by rw [h.cell, Array.getElem?_eq_getElem (by omega)]; rfl, h.free _⟩
theorem but_setCellsW {w : World} {b : Nat} (vs : List Value) : ∀ (o : Nat) (W : World), But w W (fun q => q = b) → But w (W.setCells b o vs) (fun q => q = b) := by
  induction vs with
  | nil => exact fun o W h => h
  | cons v r ih => exact fun o W h => ih (o + 1) _ (h.set (p := ⟨b, o, none⟩) rfl v)
/-- Where a walk has come to a node. -/
def WF.come (s : WF) (g gs : Nat) (a : Int) : WF := { s with at_ := a, n := zeroNd, hi := 0, has := false, sn := .pointer (some ⟨gs, 0, none⟩), un := .iface 72 (.pointer (some ⟨gs, 0, none⟩)), nx := nextV 66 g, th := nextV 67 g }
def ComeP (w : World) (g : Nat) (s : WF) (a : Int) (e : Ending) (w' : World) : Prop :=
  e = .returned (.tuple #[]) ∧ ∃ gs, WkAt w' g (s.come g gs a) ∧ Row w' gs 163 (zeroS s.mem (nextV 78 gs) a).toArray ∧ But w w' (fun q => q = g) ∧ w.heap.size ≤ gs
set_option maxRecDepth 100000 in
set_option maxHeartbeats 3200000 in
theorem wkCome_any {w : World} {g : Nat} {s : WF} {a : Int} (h : WkAt w g s) : Calls Tryz.prog 47 #[.pointer (some ⟨g, 0, none⟩), .int .u64 a] w (ComeP w g s a) := by
  have H1 := Lib.hid (WkAt.place h a zeroNd 0 false)
  have HB1 := Lib.hid (but_setCellsW (plV a zeroNd 0 false) 8 w (But.refl w (fun q => q = g)))
  have hth := row_thereM (n := 24) (o := 8) h (by show 8 + 24 ≤ 38; decide)
  have HTH := Lib.hid hth
  obtain ⟨p, hp⟩ : ∃ p, p = s.mem := ⟨_, rfl⟩
  have HP := Lib.hid hp
  obtain ⟨vs, hvs⟩ : ∃ vs, vs = plV a zeroNd 0 false := ⟨_, rfl⟩
  have HV1 := Lib.hid (show ∀ v ∈ vs, v.oneCell' = true by rw [hvs]; exact plV_one _ _ _ _)
  have HVV := Lib.hid hvs
  have HVL := Lib.hid (show vs.length = 24 by rw [hvs]; rfl)
  have HVA := Lib.hid (show Value.agg (plV a zeroNd 0 false).toArray = .agg vs.toArray by rw [hvs])
  clear h hth hp hvs
  go_enter Tryz.func47, Tryz.ntmps47
  go_upto_region 1 with (first
    | ((with_reducible refine show_storePl ?_); refine wpList_store_mid rfl _ _ _ rfl g 8 (plV a zeroNd 0 false).toArray rfl rfl HTH.out plI (all_oneCell_toArray (plV_one _ _ _ _)) ?_))
  obtain ⟨W1, hW1⟩ : ∃ W1, W1 = w.setCells g 8 (plV a zeroNd 0 false) := ⟨_, rfl⟩
  rw [← hW1] at H1 HB1 ⊢
  have c0 : W1.cell? ⟨g, 0, none⟩ = some (.pointer p) := by rw [HP.out]; exact Row.cell H1.out 0
  have HS := Lib.hid (snNew_any p a W1)
  clear hW1 HTH
  go_wp2_with fail
  refine HS.out.mono ?_
  rintro e w2 ⟨rfl, hw2⟩
  have hb2 : Below W1.heap.size W1 w2 := by rw [← hw2]; exact alloc_below _ _
  have HR2 := Lib.hid (show Row w2 W1.heap.size 163 (zeroS p (nextV 78 W1.heap.size) a).toArray by rw [← hw2]; exact Row.new _ _ _)
  have H2 := Lib.hid (H1.out.below hb2)
  have HB2 := Lib.hid (HB1.out.trans (But.of_below hb2 _) fun q hq => .inl hq)
  have HGE := Lib.hid (show w.heap.size ≤ W1.heap.size from HB1.out.size)
  have HGN := Lib.hid (show W1.heap.size ≠ g from by have := H1.out.lt; omega)
  obtain ⟨gs, hgs⟩ : ∃ gs, gs = W1.heap.size := ⟨_, rfl⟩
  rw [← hgs] at HR2 HGE HGN ⊢
  have k7 : w2.cell? ⟨g, 7, none⟩ = some s.sn := Row.cell H2.out 7
  have k4 : w2.cell? ⟨g, 4, none⟩ = some s.nx := Row.cell H2.out 4
  have k5 : w2.cell? ⟨g, 5, none⟩ = some s.un := Row.cell H2.out 5
  have k6 : w2.cell? ⟨g, 6, none⟩ = some s.th := Row.cell H2.out 6
  have f7 := Row.free H2.out 7
  have f4 := Row.free H2.out 4
  have f5 := Row.free H2.out 5
  have f6 := Row.free H2.out 6
  have H3 := Lib.hid ((((H2.out.snap (.pointer (some ⟨gs, 0, none⟩))).under (.iface 72 (.pointer (some ⟨gs, 0, none⟩)))).next (nextV 66 g)).then_ (nextV 67 g))
  have HB3 := Lib.hid ((((HB2.out.set (p := ⟨g, 7, none⟩) rfl (.pointer (some ⟨gs, 0, none⟩))).set (p := ⟨g, 5, none⟩) rfl (.iface 72 (.pointer (some ⟨gs, 0, none⟩)))).set (p := ⟨g, 4, none⟩) rfl (nextV 66 g)).set (p := ⟨g, 6, none⟩) rfl (nextV 67 g))
  have HR3 := Lib.hid ((((HR2.out.other (p := ⟨g, 7, none⟩) HGN.out (.pointer (some ⟨gs, 0, none⟩))).other (p := ⟨g, 5, none⟩) HGN.out (.iface 72 (.pointer (some ⟨gs, 0, none⟩)))).other (p := ⟨g, 4, none⟩) HGN.out (nextV 66 g)).other (p := ⟨g, 6, none⟩) HGN.out (nextV 67 g))
  unfold nextV at H3 HB3 HR3
  clear hw2 hb2 hgs HS c0
  go_wp2_with fail
  go_end0
  refine ⟨rfl, gs, H3.out, ?_, HB3.out, HGE.out⟩
  rw [← HP.out]
  exact HR3.out
end Go.Proofs.YtfdngoificpjfaaGreatDoor
/- Where a walk is done, as it tells: At, High, Hop; no conditions. -/
namespace Go.Proofs.YtfdngoificpjfaaGreatDoor
open Go.RowKit
set_option linter.unusedVariables false
attribute [local go_sem] Oper.semAt_some
def plZ : List Value := plV 0 zeroNd 0 false
theorem results_pl {fn : Func} {p u : Tmp} (h : fn.results = #[.cell p 74, .tmp u]) (tmps : Array Value) (w : World) (g : Nat) (vs : List Value) (hl : vs.length = 24)
    (hp : tmps.getD p undef = .pointer (some ⟨g, 0, none⟩)) (hg : Row w g 74 vs.toArray) :
    (results fn tmps).run Tryz.prog w = .ok (.tuple #[.agg vs.toArray, tmps.getD u undef]) w := by
  have hr : w.rangeAt g 0 vs := fun j v hv => by rw [Nat.zero_add, hg.cell, List.getElem?_toArray]; exact hv
  have hv := run_loadVar_mid w g 0 74 vs _ hr Tryz.underlying74 rfl (by rw [hl]; exact plI)
  rw [results_cell_tmp h tmps Tryz.prog w, hp]
  simp [asAddr, hv]
theorem results_tct {fn : Func} {p u v : Tmp} (h : fn.results = #[.tmp u, .cell p 46, .tmp v]) (tmps : Array Value) (w : World) (g : Nat) (n : Nd)
    (hp : tmps.getD p undef = .pointer (some ⟨g, 0, none⟩)) (hg : NdAt w g n) :
    (results fn tmps).run Tryz.prog w = .ok (.tuple #[tmps.getD u undef, n.V, tmps.getD v undef]) w := by
  have hv := run_loadVar_mid w g 0 46 n.cl _ (ndR hg) Tryz.underlying46 rfl ndI
  have hp' : tmps[p]?.getD undef = .pointer (some ⟨g, 0, none⟩) := by simpa using hp
  simp only [results, h]
  simp [Sem.run_bind, Result.andThen, hp', asAddr, hv]
theorem step_storePl {ops : Array Oper} {o : Oper} {a : Act} {w : World} {K : Act → World → Prop} {Q : Exit → Act → World → Prop} {E : Prop} (hw : Region.wanted o (yielded ops a.tmps) = true) (x y : Operand) (ho : o.op = .store 74 x y)
    (g : Nat) (vs : List Value) (old : Array Value) (hx : a.eval x = .pointer (some ⟨g, 0, none⟩)) (hy : a.eval y = .agg vs.toArray) (hr : Row w g 74 old) (hold : old.size = 24) (hl : vs.length = 24) (h1 : ∀ v ∈ vs, v.oneCell' = true)
    (h : ∀ w', Row w' g 74 vs.toArray → (∀ B, B ≤ g → B ≤ w.heap.size → Below B w w') → (∀ k, k ≠ g → w'.heap[k]? = w.heap[k]?) → K (a.put o.dst undef) w') : if Region.wanted o (yielded ops a.tmps) = true then Oper.wp Tryz.prog o a w K Q else E := by
  rw [if_pos hw]
  refine wp_store_row 74 x y ho g vs.toArray hx hy 74 old hr (by rw [List.size_toArray, hl]; exact plI) (by rw [hold, List.size_toArray, hl]) (all_oneCell_toArray h1) ?_
  exact h _ (hr.setRow _) (fun B hB hB2 => below_setRow (Below.refl _ _) hB _) (fun k hk => setRow_other w g k _ hk)
/-- Told: a place and a code. -/
def TellP (w : World) (vs : List Value) (k : Int) (e : Ending) (w' : World) : Prop := e = .returned (.tuple #[.agg vs.toArray, .int .i64 k]) ∧ Below w.heap.size w w'
theorem told_nil (w : World) : Calls Tryz.prog 29 #[.pointer none] w (TellP w plZ 1) := by
  have hb := setCells_low plZ (Nat.le_refl w.heap.size) (alloc_low w (.cells plZ.toArray 74))
  have HB := Lib.hid hb
  have HR := Lib.hid (row_setCells (vs := plZ) (Row.new w 74 plZ.toArray) rfl)
  clear hb
  go_enter Tryz.func29, Tryz.ntmps29
  go_wp2_with (first
    | ((with_reducible refine show_storePl ?_); refine wpList_store_row rfl _ _ _ rfl w.heap.size plZ rfl rfl (Row.new w 74 plZ.toArray) rfl plI (plV_one _ _ _ _) ?_))
  refine bodyPost_ret (results_pl rfl _ _ w.heap.size plZ rfl rfl HR.out) rfl ⟨rfl, HB.out⟩
set_option maxRecDepth 100000 in
set_option maxHeartbeats 400000 in
theorem told_zero {w : World} {g : Nat} {s : WF} (h : WkAt w g s) (hn : s.nx = .nilFunc) : Calls Tryz.prog 29 #[.pointer (some ⟨g, 0, none⟩)] w (TellP w plZ 1) := by
  have hb := setCells_low plZ (Nat.le_refl w.heap.size) (alloc_low w (.cells plZ.toArray 74))
  have HB := Lib.hid hb
  have HR := Lib.hid (row_setCells (vs := plZ) (Row.new w 74 plZ.toArray) rfl)
  have c4 : w.cell? ⟨g, 4, none⟩ = some s.nx := Row.cell h 4
  rw [hn] at c4
  have hg := h.lt
  have q1 := fun w => eqNilR w
  have q2 := fun w => guardNilR w (.tmp 11)
  clear hb h hn
  go_enter Tryz.func29, Tryz.ntmps29
  go_upto_region 2 with (fail)
  clear c4 q1 q2 hg
  go_wp2_with (first
    | ((with_reducible refine show_storePl ?_); refine wpList_store_row rfl _ _ _ rfl w.heap.size plZ rfl rfl (Row.new w 74 plZ.toArray) rfl plI (plV_one _ _ _ _) ?_))
  refine bodyPost_ret (results_pl rfl _ _ w.heap.size plZ rfl rfl HR.out) rfl ⟨rfl, HB.out⟩
set_option maxRecDepth 100000 in
set_option maxHeartbeats 1600000 in
theorem told_done {w : World} {g f : Nat} {s : WF} (h : WkAt w g s) (hn : s.nx = nextV f g) (hd : s.d = true) (hk : s.k = 0 ∨ s.k = 5) : Calls Tryz.prog 29 #[.pointer (some ⟨g, 0, none⟩)] w (TellP w (plV s.at_ s.n s.hi s.has) s.k) := by
  have mixed : Tryz.prog.follows .mixedOrders = true := by kernel_rfl
  have c4 : w.cell? ⟨g, 4, none⟩ = some s.nx := Row.cell h 4
  have c36 : w.cell? ⟨g, 36, none⟩ = some (.bool s.d) := Row.cell h 36
  have c37 : w.cell? ⟨g, 37, none⟩ = some (.int .i64 s.k) := Row.cell h 37
  rw [hn] at c4
  rw [hd] at c36
  unfold nextV at c4
  have q1 := fun w => eqFnR w f #[.pointer (some ⟨g, 0, none⟩)] #[]
  have q2 := fun w => guardFnR w f #[.pointer (some ⟨g, 0, none⟩)] #[] (.tmp 11)
  obtain ⟨vs, hvs⟩ : ∃ vs, vs = plV s.at_ s.n s.hi s.has := ⟨_, rfl⟩
  have hlen : vs.length = 24 := by rw [hvs]; rfl
  have hone : ∀ v ∈ vs, v.oneCell' = true := by rw [hvs]; exact plV_one _ _ _ _
  obtain ⟨W1, hW1⟩ : ∃ W1, W1 = w.alloc (.cells plZ.toArray 74) := ⟨_, rfl⟩
  have hb1 : Below w.heap.size w W1 := by rw [hW1]; exact alloc_low _ _
  have HRG := Lib.hid (show ∀ W, WkAt W g s ∧ W.cell? ⟨g, 37, none⟩ = some (.int .i64 s.k) → W.rangeAt g 8 vs from fun W hW j v hv => by
    have h1 := hW.1
    rw [hvs] at hv
    have hj := (List.getElem?_eq_some_iff.1 hv).1
    rw [Row.cell h1, List.getElem?_toArray, WF.cells_pl, List.getElem?_append_right (by show 8 ≤ 8 + j; omega), show 8 + j - s.pre.length = j by show 8 + j - 8 = j; omega, List.getElem?_append_left hj]
    exact hv)
  have HS1 := Lib.hid (show ∀ W, Below W1.heap.size W1 W → WkAt W g s ∧ W.cell? ⟨g, 37, none⟩ = some (.int .i64 s.k) from fun W hW => by
    have h1 := (h.below hb1).below hW
    exact ⟨h1, Row.cell h1 37⟩)
  rw [← hvs]
  have HL := Lib.hid hlen
  have HO := Lib.hid hone
  have HB1 := Lib.hid hb1
  have HRW := Lib.hid (show Row W1.drew w.heap.size 74 plZ.toArray from (show Row W1 w.heap.size 74 plZ.toArray by rw [hW1]; exact Row.new _ _ _))
  obtain ⟨k, hkk⟩ : ∃ k, k = s.k := ⟨_, rfl⟩
  rw [← hkk] at c37 hk HRG HS1 ⊢
  have hg := h.lt
  have hne : g ≠ w.heap.size := by omega
  have HW1 := Lib.hid hW1
  clear h hn hd hvs hlen hone hb1 hW1 hkk
  rcases hk with rfl | rfl
  · go_enter Tryz.func29, Tryz.ntmps29
    go_upto_region 6 with (fail)
    have HWW := HW1.out
    unfold plZ plV zeroNd Nd.cl uw at HWW
    simp only [List.cons_append, List.nil_append] at HWW
    rw [← HWW]
    clear HWW c4 c36 c37 q1 q2
    refine wp_region_noPanic ?_
    refine wp_region_held_drew (S := fun W => WkAt W g s ∧ W.cell? ⟨g, 37, none⟩ = some (.int .i64 0)) (by kernel_rfl) (HS1.out _ (drew_below _)) (fun hHeld => ?_)
    refine wpAnyH_take (i := 0) (oi := ⟨some 37, _, _, _, _, _⟩) (v := .pointer (some ⟨g, 0, none⟩)) rfl (by kernel_rfl) (by kernel_rfl) (by kernel_rfl) (fun _ _ _ h => h) (Or.inl ⟨by kernel_rfl, by intro WW hSw; (try dsimp only at hSw); go_simp⟩) (by assumption) ?_
    (try simp only [Act.put, List.setIfInBounds_toArray, List.set_cons_zero, List.set_cons_succ])
    refine wpAnyH_take (i := 1) (oi := ⟨some 38, _, _, _, _, _⟩) (v := .pointer (some ⟨g, 0, none⟩)) rfl (by kernel_rfl) (by kernel_rfl) (by kernel_rfl) (fun _ _ _ h => h) (Or.inl ⟨by kernel_rfl, by intro WW hSw; (try dsimp only at hSw); go_simp⟩) (by assumption) ?_
    (try simp only [Act.put, List.setIfInBounds_toArray, List.set_cons_zero, List.set_cons_succ])
    refine wpAnyH_take (i := 2) (oi := ⟨some 39, _, _, _, _, _⟩) (v := .pointer (some ⟨g, 8, none⟩)) rfl (by kernel_rfl) (by kernel_rfl) (by kernel_rfl) (fun _ _ _ h => h) (Or.inl ⟨by kernel_rfl, by intro WW hSw; (try dsimp only at hSw); go_simp⟩) (by assumption) ?_
    (try simp only [Act.put, List.setIfInBounds_toArray, List.set_cons_zero, List.set_cons_succ])
    refine wpAnyH_take (i := 3) (oi := ⟨some 40, _, _, _, _, _⟩) (v := .agg vs.toArray) rfl (by kernel_rfl) (by kernel_rfl) (by kernel_rfl) (fun _ _ _ h => h) (yieldsIf_load_mid (by rfl) _ _ rfl g 8 rfl vs _ HRG.out Tryz.underlying74 rfl (by rw [HL.out]; exact plI)) (by assumption) ?_
    (try simp only [Act.put, List.setIfInBounds_toArray, List.set_cons_zero, List.set_cons_succ])
    refine wpAnyH_take (i := 4) (oi := ⟨some 41, _, _, _, _, _⟩) (v := .pointer (some ⟨g, 0, none⟩)) rfl (by kernel_rfl) (by kernel_rfl) (by kernel_rfl) (fun _ _ _ h => h) (Or.inl ⟨by kernel_rfl, by intro WW hSw; (try dsimp only at hSw); go_simp⟩) (by assumption) ?_
    (try simp only [Act.put, List.setIfInBounds_toArray, List.set_cons_zero, List.set_cons_succ])
    refine wpAnyH_take (i := 5) (oi := ⟨some 42, _, _, _, _, _⟩) (v := .pointer (some ⟨g, 0, none⟩)) rfl (by kernel_rfl) (by kernel_rfl) (by kernel_rfl) (fun _ _ _ h => h) (Or.inl ⟨by kernel_rfl, by intro WW hSw; (try dsimp only at hSw); go_simp⟩) (by assumption) ?_
    (try simp only [Act.put, List.setIfInBounds_toArray, List.set_cons_zero, List.set_cons_succ])
    refine wpAnyH_take (i := 6) (oi := ⟨some 43, _, _, _, _, _⟩) (v := .pointer (some ⟨g, 37, none⟩)) rfl (by kernel_rfl) (by kernel_rfl) (by kernel_rfl) (fun _ _ _ h => h) (Or.inl ⟨by kernel_rfl, by intro WW hSw; (try dsimp only at hSw); go_simp⟩) (by assumption) ?_
    (try simp only [Act.put, List.setIfInBounds_toArray, List.set_cons_zero, List.set_cons_succ])
    refine wpAnyH_take (i := 7) (oi := ⟨some 44, _, _, _, _, _⟩) (v := .int .i64 0) rfl (by kernel_rfl) (by kernel_rfl) (by kernel_rfl) (fun _ _ _ h => h) (Or.inl ⟨by kernel_rfl, by intro WW hSw; (try dsimp only at hSw); go_simp⟩) (by assumption) ?_
    (try simp only [Act.put, List.setIfInBounds_toArray, List.set_cons_zero, List.set_cons_succ])
    refine wpAnyH_one (i := 8) (oi := ⟨none, _, _, _, _, _⟩) rfl (by kernel_rfl) (fun K hK => ?_)
    refine step_storePl (by rfl) (.tmp 2) (.tmp 40) (by rfl) w.heap.size vs _ (by rfl) (by rfl) HRW.out rfl HL.out HO.out ?_
    intro w5 hr5 hb5 hk5
    have HR5 := Lib.hid hr5
    have HB5 := Lib.hid ((low_and HB1.out (drew_below W1)).trans (hb5 _ (Nat.le_refl _) (low_and HB1.out (drew_below W1)).size))
    have hr6 : WkAt w5 g s := (hk5 g hne).trans (HS1.out _ (drew_below W1)).1
    refine hK _ _ ⟨hr6, (Row.cell hr6 37).trans ((Row.cell (HS1.out _ (drew_below W1)).1 37).symm.trans (HS1.out _ (drew_below W1)).2)⟩ (fun hSn => ?_)
    clear hK K hr5 hb5 hk5 hr6
    (try simp only [Act.put, List.setIfInBounds_toArray, List.set_cons_zero, List.set_cons_succ])
    refine wpAnyH_take (i := 9) (oi := ⟨some 3, _, _, _, _, _⟩) (v := .int .i64 0) rfl (by kernel_rfl) (by kernel_rfl) (by kernel_rfl) (fun _ _ _ h => h) (Or.inl ⟨by kernel_rfl, by intro WW hSw; (try dsimp only at hSw); go_simp⟩) (by assumption) ?_
    (try simp only [Act.put, List.setIfInBounds_toArray, List.set_cons_zero, List.set_cons_succ])
    refine wpAnyH_done (by kernel_rfl) ?_ _
    clear hSn hHeld
    go_wp2_with fail
    refine (‹∀ (a : Act) (w : World), Code.wp Tryz.prog _ _ a w → _›) _ _ ?_
    go_wp2_with fail
    refine bodyPost_ret (results_pl rfl _ _ w.heap.size vs HL.out rfl HR5.out) rfl ⟨rfl, HB5.out⟩
  · go_enter Tryz.func29, Tryz.ntmps29
    go_upto_region 6 with (fail)
    have HWW := HW1.out
    unfold plZ plV zeroNd Nd.cl uw at HWW
    simp only [List.cons_append, List.nil_append] at HWW
    rw [← HWW]
    clear HWW c4 c36 c37 q1 q2
    refine wp_region_noPanic ?_
    refine wp_region_held_drew (S := fun W => WkAt W g s ∧ W.cell? ⟨g, 37, none⟩ = some (.int .i64 5)) (by kernel_rfl) (HS1.out _ (drew_below _)) (fun hHeld => ?_)
    refine wpAnyH_take (i := 0) (oi := ⟨some 37, _, _, _, _, _⟩) (v := .pointer (some ⟨g, 0, none⟩)) rfl (by kernel_rfl) (by kernel_rfl) (by kernel_rfl) (fun _ _ _ h => h) (Or.inl ⟨by kernel_rfl, by intro WW hSw; (try dsimp only at hSw); go_simp⟩) (by assumption) ?_
    (try simp only [Act.put, List.setIfInBounds_toArray, List.set_cons_zero, List.set_cons_succ])
    refine wpAnyH_take (i := 1) (oi := ⟨some 38, _, _, _, _, _⟩) (v := .pointer (some ⟨g, 0, none⟩)) rfl (by kernel_rfl) (by kernel_rfl) (by kernel_rfl) (fun _ _ _ h => h) (Or.inl ⟨by kernel_rfl, by intro WW hSw; (try dsimp only at hSw); go_simp⟩) (by assumption) ?_
    (try simp only [Act.put, List.setIfInBounds_toArray, List.set_cons_zero, List.set_cons_succ])
    refine wpAnyH_take (i := 2) (oi := ⟨some 39, _, _, _, _, _⟩) (v := .pointer (some ⟨g, 8, none⟩)) rfl (by kernel_rfl) (by kernel_rfl) (by kernel_rfl) (fun _ _ _ h => h) (Or.inl ⟨by kernel_rfl, by intro WW hSw; (try dsimp only at hSw); go_simp⟩) (by assumption) ?_
    (try simp only [Act.put, List.setIfInBounds_toArray, List.set_cons_zero, List.set_cons_succ])
    refine wpAnyH_take (i := 3) (oi := ⟨some 40, _, _, _, _, _⟩) (v := .agg vs.toArray) rfl (by kernel_rfl) (by kernel_rfl) (by kernel_rfl) (fun _ _ _ h => h) (yieldsIf_load_mid (by rfl) _ _ rfl g 8 rfl vs _ HRG.out Tryz.underlying74 rfl (by rw [HL.out]; exact plI)) (by assumption) ?_
    (try simp only [Act.put, List.setIfInBounds_toArray, List.set_cons_zero, List.set_cons_succ])
    refine wpAnyH_take (i := 4) (oi := ⟨some 41, _, _, _, _, _⟩) (v := .pointer (some ⟨g, 0, none⟩)) rfl (by kernel_rfl) (by kernel_rfl) (by kernel_rfl) (fun _ _ _ h => h) (Or.inl ⟨by kernel_rfl, by intro WW hSw; (try dsimp only at hSw); go_simp⟩) (by assumption) ?_
    (try simp only [Act.put, List.setIfInBounds_toArray, List.set_cons_zero, List.set_cons_succ])
    refine wpAnyH_take (i := 5) (oi := ⟨some 42, _, _, _, _, _⟩) (v := .pointer (some ⟨g, 0, none⟩)) rfl (by kernel_rfl) (by kernel_rfl) (by kernel_rfl) (fun _ _ _ h => h) (Or.inl ⟨by kernel_rfl, by intro WW hSw; (try dsimp only at hSw); go_simp⟩) (by assumption) ?_
    (try simp only [Act.put, List.setIfInBounds_toArray, List.set_cons_zero, List.set_cons_succ])
    refine wpAnyH_take (i := 6) (oi := ⟨some 43, _, _, _, _, _⟩) (v := .pointer (some ⟨g, 37, none⟩)) rfl (by kernel_rfl) (by kernel_rfl) (by kernel_rfl) (fun _ _ _ h => h) (Or.inl ⟨by kernel_rfl, by intro WW hSw; (try dsimp only at hSw); go_simp⟩) (by assumption) ?_
    (try simp only [Act.put, List.setIfInBounds_toArray, List.set_cons_zero, List.set_cons_succ])
    refine wpAnyH_take (i := 7) (oi := ⟨some 44, _, _, _, _, _⟩) (v := .int .i64 5) rfl (by kernel_rfl) (by kernel_rfl) (by kernel_rfl) (fun _ _ _ h => h) (Or.inl ⟨by kernel_rfl, by intro WW hSw; (try dsimp only at hSw); go_simp⟩) (by assumption) ?_
    (try simp only [Act.put, List.setIfInBounds_toArray, List.set_cons_zero, List.set_cons_succ])
    refine wpAnyH_one (i := 8) (oi := ⟨none, _, _, _, _, _⟩) rfl (by kernel_rfl) (fun K hK => ?_)
    refine step_storePl (by rfl) (.tmp 2) (.tmp 40) (by rfl) w.heap.size vs _ (by rfl) (by rfl) HRW.out rfl HL.out HO.out ?_
    intro w5 hr5 hb5 hk5
    have HR5 := Lib.hid hr5
    have HB5 := Lib.hid ((low_and HB1.out (drew_below W1)).trans (hb5 _ (Nat.le_refl _) (low_and HB1.out (drew_below W1)).size))
    have hr6 : WkAt w5 g s := (hk5 g hne).trans (HS1.out _ (drew_below W1)).1
    refine hK _ _ ⟨hr6, (Row.cell hr6 37).trans ((Row.cell (HS1.out _ (drew_below W1)).1 37).symm.trans (HS1.out _ (drew_below W1)).2)⟩ (fun hSn => ?_)
    clear hK K hr5 hb5 hk5 hr6
    (try simp only [Act.put, List.setIfInBounds_toArray, List.set_cons_zero, List.set_cons_succ])
    refine wpAnyH_take (i := 9) (oi := ⟨some 3, _, _, _, _, _⟩) (v := .int .i64 5) rfl (by kernel_rfl) (by kernel_rfl) (by kernel_rfl) (fun _ _ _ h => h) (Or.inl ⟨by kernel_rfl, by intro WW hSw; (try dsimp only at hSw); go_simp⟩) (by assumption) ?_
    (try simp only [Act.put, List.setIfInBounds_toArray, List.set_cons_zero, List.set_cons_succ])
    refine wpAnyH_done (by kernel_rfl) ?_ _
    clear hSn hHeld
    go_wp2_with fail
    refine (‹∀ (a : Act) (w : World), Code.wp Tryz.prog _ _ a w → _›) _ _ ?_
    go_wp2_with fail
    refine bodyPost_ret (results_pl rfl _ _ w.heap.size vs HL.out rfl HR5.out) rfl ⟨rfl, HB5.out⟩
theorem show_storeN4 {P : Program} {ops : Array Oper} {rest : List Oper} {Q : Exit → Act → World → Prop} {d : Option Nat} {t2 : TypeId} {x y : Operand} {ps : String} {af : Array Edge} {a : Act} {w : World} (h : wpList P ops Q (⟨d, .store 46 x y, t2, ps, af, none⟩ :: rest) a w) : wpList P ops Q (⟨d, .store 46 x y, t2, ps, af, none⟩ :: rest) a w := h
theorem plV_low {w : World} {at_ hi : Int} {n : Nd} {has : Bool} {b : Nat} (h : Row w b 74 (plV at_ n hi has).toArray) : w.rangeAt b 1 n.cl := fun j v hv => by
  have hj := (List.getElem?_eq_some_iff.1 hv).1
  rw [h.cell, List.getElem?_toArray, show 1 + j = j + 1 by omega]
  show (n.cl ++ _)[j]? = _
  rw [List.getElem?_append_left hj]
  exact hv
set_option maxRecDepth 100000 in
set_option maxHeartbeats 3200000 in
theorem wkHigh_of {w : World} {x : Option Addr} {at_ hi k : Int} {n : Nd} {has : Bool} (HT : Calls Tryz.prog 29 #[.pointer x] w (TellP w (plV at_ n hi has) k)) :
    Calls Tryz.prog 20 #[.pointer x] w fun e w' => e = .returned (.tuple #[.int .u64 hi, .bool has]) ∧ Below w.heap.size w w' := by
  have mixed : Tryz.prog.follows .mixedOrders = true := by kernel_rfl
  have HT := Lib.hid HT
  obtain ⟨vs, hvs⟩ : ∃ vs, vs = plV at_ n hi has := ⟨_, rfl⟩
  rw [← hvs] at HT
  have HVO := Lib.hid (show ∀ v ∈ vs, v.oneCell' = true by rw [hvs]; exact plV_one _ _ _ _)
  have HVL := Lib.hid (show vs.length = 24 by rw [hvs]; rfl)
  have HVS := Lib.hid hvs
  clear hvs
  go_enter Tryz.func20, Tryz.ntmps20
  go_wp2_with fail
  refine HT.out.mono ?_
  rintro e w1 ⟨rfl, hb1⟩
  have HB1 := Lib.hid hb1
  clear hb1 HT
  go_upto_region 2 with (first
    | ((with_reducible refine show_storePl ?_); refine wpList_store_row rfl _ _ _ rfl w1.heap.size vs rfl rfl (Row.new w1 74 plZ.toArray) (by rw [HVL.out]; rfl) (by rw [HVL.out]; exact plI) HVO.out ?_))
  obtain ⟨W2, hW2⟩ : ∃ W2, W2 = (w1.alloc (.cells plZ.toArray 74)).setCells w1.heap.size 0 vs := ⟨_, rfl⟩
  have hr2 : Row W2 w1.heap.size 74 vs.toArray := by rw [hW2]; exact row_setCells (Row.new w1 74 plZ.toArray) (by rw [HVL.out]; rfl)
  have hb2 : Below w1.heap.size w1 W2 := by rw [hW2]; exact setCells_low vs (Nat.le_refl _) (alloc_low _ _)
  unfold plZ plV zeroNd Nd.cl uw at hW2
  simp only [List.cons_append, List.nil_append] at hW2
  rw [← hW2]
  rw [HVS.out] at hr2
  have k22 : W2.cell? ⟨w1.heap.size, 22, none⟩ = some (.int .u64 hi) := hr2.cell 22
  have k23 : W2.cell? ⟨w1.heap.size, 23, none⟩ = some (.bool has) := hr2.cell 23
  have HB2 := Lib.hid (Below.and HB1.out hb2)
  clear hW2 hr2 hb2
  go_quiet (fail)
  go_wp2_with fail
  go_ret2
  exact ⟨rfl, Below.and HB2.out (drewN_below W2 nq)⟩
end Go.Proofs.YtfdngoificpjfaaGreatDoor
