/- Texts of this claim, packed: WkS, WkC, WkD, WkE, WkB, WkM, WkT, WkA, WkN, WkL. -/
import Derived.Test.YtpjlajkjknkbaaaGreatDoorPg42
import Derived.Test.YtpjlajkjknkbaaaGreatDoorPg29
import Derived.Test.YtpjlajkjknkbaaaGreatDoorPg07
import Derived.Test.YtpjlajkjknkbaaaGreatDoorPg33
import Derived.Test.YtpjlajkjknkbaaaGreatDoorPg03
import Derived.Test.YtpjlajkjknkbaaaGreatDoorPg01
/- A walk's cells, and what its small functions answer; no conditions. -/
namespace Go.Proofs.YtpjlajkjknkbaaaGreatDoor
open Go.RowKit
set_option linter.unusedVariables false
attribute [local go_sem] Oper.semAt_some
/-- A walk's state, as it lies. -/
structure WF where
  mem : Option Addr
  cl : Int
  key : Int
  lev : Int
  nx : Value
  un : Value
  th : Value
  sn : Value
  at_ : Int
  n : Nd
  hi : Int
  has : Bool
  lo : Int
  to : Int
  was : Bool
  ends : Int
  d : Bool
  k : Int
def WF.cells (s : WF) : List Value := [.pointer s.mem, .int .i64 s.cl, .int .u64 s.key, .int .i64 s.lev, s.nx, s.un, s.th, s.sn, .int .u64 s.at_] ++ s.n.cl ++ [.int .u64 s.hi, .bool s.has, .int .u64 s.lo, .int .u64 s.to, .bool s.was, .int .i64 s.ends, .bool s.d, .int .i64 s.k]
def WkAt (w : World) (g : Nat) (s : WF) : Prop := Row w g 75 s.cells.toArray
/-- A walk of which nothing is done. -/
def WF.new (m : Option Addr) (cl key lev : Int) (g : Nat) : WF := ⟨m, cl, key, lev, nextV 20 g, .nilIface, .nilFunc, .pointer none, 0, zeroNd, 0, false, 0, 0, false, 0, false, 0⟩
set_option maxRecDepth 100000 in
set_option maxHeartbeats 1600000 in
theorem wkNew_any {w : World} {x m : Option Addr} {cl key lev : Int} (hM : Calls Tryz.prog 19 #[.pointer x] w fun e w' => e = .returned (.pointer m) ∧ w = w') :
    Calls Tryz.prog 15 #[.pointer x, .int .i64 cl, .int .u64 key, .int .i64 lev] w fun e w' => e = .returned (.pointer (some ⟨w.heap.size, 0, none⟩)) ∧ WkAt w' w.heap.size (WF.new m cl key lev w.heap.size) ∧ Below w.heap.size w w' := by
  have HM := Lib.hid hM
  clear hM
  go_enter Tryz.func15, Tryz.ntmps15
  go_wp2_with fail
  refine HM.out.mono ?_
  rintro e w1 ⟨rfl, rfl⟩
  clear HM
  go_wp2_with fail
  go_ret
  exact ⟨rfl, Row.new _ _ _, alloc_below _ _⟩
theorem WkAt.lt {w : World} {g : Nat} {s : WF} (h : WkAt w g s) : g < w.heap.size := Row.lt h
theorem WkAt.below {w w' : World} {g : Nat} {s : WF} (h : WkAt w g s) (hb : Below w.heap.size w w') : WkAt w' g s := Row.below h hb (Row.lt h)
theorem WkAt.but {w w' : World} {g : Nat} {s : WF} {fp : Nat → Prop} (h : WkAt w g s) (hb : But w w' fp) (hn : ¬ fp g) : WkAt w' g s := hb.row h hn
theorem WkAt.next {w : World} {g : Nat} {s : WF} (h : WkAt w g s) (v : Value) : WkAt (w.setCell ⟨g, 4, none⟩ v) g { s with nx := v } := Row.set h 4 v
theorem WkAt.under {w : World} {g : Nat} {s : WF} (h : WkAt w g s) (v : Value) : WkAt (w.setCell ⟨g, 5, none⟩ v) g { s with un := v } := Row.set h 5 v
theorem WkAt.then_ {w : World} {g : Nat} {s : WF} (h : WkAt w g s) (v : Value) : WkAt (w.setCell ⟨g, 6, none⟩ v) g { s with th := v } := Row.set h 6 v
theorem WkAt.snap {w : World} {g : Nat} {s : WF} (h : WkAt w g s) (v : Value) : WkAt (w.setCell ⟨g, 7, none⟩ v) g { s with sn := v } := Row.set h 7 v
theorem WkAt.high {w : World} {g : Nat} {s : WF} (h : WkAt w g s) (v : Int) : WkAt (w.setCell ⟨g, 30, none⟩ (.int .u64 v)) g { s with hi := v } := Row.set h 30 _
theorem WkAt.has {w : World} {g : Nat} {s : WF} (h : WkAt w g s) (v : Bool) : WkAt (w.setCell ⟨g, 31, none⟩ (.bool v)) g { s with has := v } := Row.set h 31 _
theorem WkAt.ends {w : World} {g : Nat} {s : WF} (h : WkAt w g s) (v : Int) : WkAt (w.setCell ⟨g, 35, none⟩ (.int .i64 v)) g { s with ends := v } := Row.set h 35 _
theorem WkAt.done {w : World} {g : Nat} {s : WF} (h : WkAt w g s) (v : Bool) : WkAt (w.setCell ⟨g, 36, none⟩ (.bool v)) g { s with d := v } := Row.set h 36 _
theorem WkAt.code {w : World} {g : Nat} {s : WF} (h : WkAt w g s) (v : Int) : WkAt (w.setCell ⟨g, 37, none⟩ (.int .i64 v)) g { s with k := v } := Row.set h 37 _
/-- What a step leaves. -/
def WkSP (g : Nat) (d' D : Bool) (k : Int) (R : World → WF → Prop) (e : Ending) (w' : World) : Prop := e = .returned (.tuple #[.bool D, .int .i64 k]) ∧ ∃ w1 s', R w1 s' ∧ s'.d = d' ∧ WkAt w' g { s' with d := D, k := k } ∧ But w1 w' (fun q => q = g)
/-- What a walk's function leaves. -/
def WkFP (g : Nat) (d' : Bool) (k : Int) (R : World → WF → Prop) (e : Ending) (w' : World) : Prop := e = .returned (.int .i64 k) ∧ ∃ s', WkAt w' g s' ∧ s'.d = d' ∧ R w' s'
set_option maxRecDepth 100000 in
set_option maxHeartbeats 3200000 in
theorem wkStep_of {w : World} {g f : Nat} {s : WF} {d' D : Bool} {kk : Int} {R : World → WF → Prop}
    (hcall : ∀ (w : World) (v : Value), (callFunc f #[v]).run Tryz.prog w = .ok (.enter f #[v]) w)
    (h : WkAt w g s) (hn : s.nx = nextV f g) (hd : s.d = false) (hD : (d' || kk != 0) = D)
    (H : Calls Tryz.prog f #[.pointer (some ⟨g, 0, none⟩)] w (WkFP g d' kk R)) :
    Calls Tryz.prog 189 #[.pointer (some ⟨g, 0, none⟩)] w (WkSP g d' D kk R) := by
  have mixed : Tryz.prog.follows .mixedOrders = true := by kernel_rfl
  have c4 : w.cell? ⟨g, 4, none⟩ = some s.nx := Row.cell h 4
  have c36 : w.cell? ⟨g, 36, none⟩ = some (.bool s.d) := Row.cell h 36
  rw [hn] at c4
  rw [hd] at c36
  unfold nextV at c4
  have q1 := fun w => eqFnR w f #[.pointer (some ⟨g, 0, none⟩)] #[]
  have q2 := fun w => guardFnR w f #[.pointer (some ⟨g, 0, none⟩)] #[] (.tmp 10)
  have H := Lib.hid H
  clear h hn hd
  go_enter Tryz.func189, Tryz.ntmps189
  go_wp2_with fail
  refine H.out.mono ?_
  rintro e w1 ⟨rfl, s', h1, hd1, hR⟩
  have e36 : w1.cell? ⟨g, 36, none⟩ = some (.bool s'.d) := Row.cell h1 36
  have e37 : w1.cell? ⟨g, 37, none⟩ = some (.int .i64 s'.k) := Row.cell h1 37
  rw [hd1] at e36
  have g36 := Row.free h1 36
  have g37 := Row.free h1 37
  have HH := Lib.hid h1
  have HR := Lib.hid hR
  have HD1 := Lib.hid hd1
  clear h1 hR c4 c36 q1 q2 H hcall hd1
  have HFIN := Lib.hid (show ∀ W, Below ((w1.setCell ⟨g, 37, none⟩ (.int .i64 kk)).setCell ⟨g, 36, none⟩ (.bool D)).heap.size ((w1.setCell ⟨g, 37, none⟩ (.int .i64 kk)).setCell ⟨g, 36, none⟩ (.bool D)) W → ∃ w1 s', R w1 s' ∧ s'.d = d' ∧ WkAt W g { s' with d := D, k := kk } ∧ But w1 W (fun q => q = g) from
    fun W hb => ⟨w1, s', HR.out, HD1.out, ((HH.out.code kk).done D).below hb, (((But.refl w1 (fun q => q = g)).set (p := ⟨g, 37, none⟩) rfl _).set (p := ⟨g, 36, none⟩) rfl _).trans (But.of_below hb (fun q => q = g)) fun q hq => .inl hq⟩)
  have HC := Lib.hid (show ∀ q : LowBy ((w1.setCell ⟨g, 37, none⟩ (.int .i64 kk)).setCell ⟨g, 36, none⟩ (.bool D)), q.W.cell? ⟨g, 36, none⟩ = some (.bool D) ∧ q.W.cell? ⟨g, 37, none⟩ = some (.int .i64 kk) from fun q => by
    have h2 := ((HH.out.code kk).done D).below q.low
    exact ⟨Row.cell h2 36, Row.cell h2 37⟩)
  obtain ⟨W2, hW2⟩ : ∃ W2, W2 = (w1.setCell ⟨g, 37, none⟩ (.int .i64 kk)).setCell ⟨g, 36, none⟩ (.bool D) := ⟨_, rfl⟩
  rw [← hW2] at HFIN HC
  have TAIL : ∀ (d'' : Bool) (k'' : Int), d'' = d'' := fun _ _ => rfl
  cases d' with
  | true =>
    obtain rfl : true = D := by simpa using hD
    clear hD HH HR HD1 TAIL
    go_wp2_with fail
    rw [← hW2]
    clear hW2 e36 e37 g36 g37
    have ca := fun q : LowBy W2 => (HC.out q).1
    have cb := fun q : LowBy W2 => (HC.out q).2
    refine wp_region_quiet_low (by assumption) (by kernel_rfl) ?_
    repeat (go_big_quiet_step (fail))
    refine wpQuiet_nil ?_
    intro _ hw'
    obtain ⟨q, hw''⟩ := hw'
    subst hw''
    have HE := Lib.hid (HFIN.out q.W q.low)
    clear ca cb HC HFIN
    go_wp2
    go_ret2
    exact ⟨rfl, HE.out⟩
  | false =>
    by_cases hk : kk = 0
    · subst hk
      obtain rfl : false = D := by simpa using hD
      clear hD HH HR HD1 TAIL
      go_wp2_with fail
      rw [← hW2]
      clear hW2 e36 e37 g36 g37
      have ca := fun q : LowBy W2 => (HC.out q).1
      have cb := fun q : LowBy W2 => (HC.out q).2
      refine wp_region_quiet_low (by assumption) (by kernel_rfl) ?_
      repeat (go_big_quiet_step (fail))
      refine wpQuiet_nil ?_
      intro _ hw'
      obtain ⟨q, hw''⟩ := hw'
      subst hw''
      have HE := Lib.hid (HFIN.out q.W q.low)
      clear ca cb HC HFIN
      go_wp2
      go_ret2
      exact ⟨rfl, HE.out⟩
    · have hk1 : (kk != 0) = true := by simpa using hk
      obtain rfl : true = D := by rw [← hD, hk1]; rfl
      have hk2 : (kk == 0) = false := by simpa using hk
      clear hD HH HR HD1 TAIL hk
      go_wp2_with fail
      rw [← hW2]
      clear hW2 e36 e37 g36 g37
      have ca := fun q : LowBy W2 => (HC.out q).1
      have cb := fun q : LowBy W2 => (HC.out q).2
      refine wp_region_quiet_low (by assumption) (by kernel_rfl) ?_
      repeat (go_big_quiet_step (fail))
      refine wpQuiet_nil ?_
      intro _ hw'
      obtain ⟨q, hw''⟩ := hw'
      subst hw''
      have HE := Lib.hid (HFIN.out q.W q.low)
      clear ca cb HC HFIN
      go_wp2
      go_ret2
      exact ⟨rfl, HE.out⟩
/-- Why there is no such walk. -/
def wrongK (Z lev : Int) : Int := if Z = 0 then 1 else if lev < 0 ∨ 15 < lev then 2 else 0
theorem wkWrong_any {w : World} {g : Nat} {s : WF} {Z : Int} (h : WkAt w g s) (hz : SizeIs w s.mem Z) :
    Calls Tryz.prog 34 #[.pointer (some ⟨g, 0, none⟩)] w fun e w' => e = .returned (.int .i64 (wrongK Z s.lev)) ∧ w = w' := by
  have c0 : w.cell? ⟨g, 0, none⟩ = some (.pointer s.mem) := Row.cell h 0
  have c3 : w.cell? ⟨g, 3, none⟩ = some (.int .i64 s.lev) := Row.cell h 3
  have HZ := Lib.hid (hz w (Below.refl _ _))
  obtain ⟨lev, hlev⟩ : ∃ lev, lev = s.lev := ⟨_, rfl⟩
  rw [← hlev] at c3 ⊢
  obtain ⟨K, hK⟩ : ∃ K, K = wrongK Z lev := ⟨_, rfl⟩
  rw [← hK]
  unfold wrongK at hK
  clear h hz hlev
  by_cases h0 : Z = 0
  · rw [if_pos h0] at hK
    subst h0
    subst hK
    go_enter Tryz.func34, Tryz.ntmps34
    go_wp2_with (refine HZ.out.mono ?_; rintro e w1 ⟨rfl, rfl⟩)
    go_ret
    exact ⟨rfl, rfl⟩
  · rw [if_neg h0] at hK
    have d0 : (Z == 0) = false := by simpa using h0
    by_cases h1 : lev < 0
    · rw [if_pos (.inl h1)] at hK
      subst hK
      have d1 : decide (lev < 0) = true := by simpa using h1
      clear h0
      go_enter Tryz.func34, Tryz.ntmps34
      go_wp2_with (refine HZ.out.mono ?_; rintro e w1 ⟨rfl, rfl⟩)
      go_ret
      exact ⟨rfl, rfl⟩
    · have d1 : decide (lev < 0) = false := by simpa using h1
      by_cases h2 : 15 < lev
      · rw [if_pos (.inr h2)] at hK
        subst hK
        have d2 : decide (15 < lev) = true := by simpa using h2
        clear h0
        go_enter Tryz.func34, Tryz.ntmps34
        go_wp2_with (refine HZ.out.mono ?_; rintro e w1 ⟨rfl, rfl⟩)
        go_ret
        exact ⟨rfl, rfl⟩
      · rw [if_neg (fun k => k.elim h1 h2)] at hK
        subst hK
        have d2 : decide (15 < lev) = false := by simpa using h2
        clear h0
        go_enter Tryz.func34, Tryz.ntmps34
        go_wp2_with (refine HZ.out.mono ?_; rintro e w1 ⟨rfl, rfl⟩)
        go_ret
        exact ⟨rfl, rfl⟩
end Go.Proofs.YtpjlajkjknkbaaaGreatDoor
/- A walk comes to a node, sees it, goes on; no conditions. -/
namespace Go.Proofs.YtpjlajkjknkbaaaGreatDoor
open Go.RowKit
set_option linter.unusedVariables false
attribute [local go_sem] Oper.semAt_some
theorem show_storePl {P : Program} {ops : Array Oper} {rest : List Oper} {Q : Exit → Act → World → Prop} {d : Option Nat} {t2 : TypeId} {x y : Operand} {ps : String} {af : Array Edge} {a : Act} {w : World} (h : wpList P ops Q (⟨d, .store 71 x y, t2, ps, af, none⟩ :: rest) a w) : wpList P ops Q (⟨d, .store 71 x y, t2, ps, af, none⟩ :: rest) a w := h
theorem plI : (Tryz.prog.info? 71).map (·.size) = some 24 := by kernel_rfl
/-- A place, as it lies. -/
def plV (at_ : Int) (n : Nd) (hi : Int) (has : Bool) : List Value := .int .u64 at_ :: (n.cl ++ [.int .u64 hi, .bool has])
theorem plV_one (at_ : Int) (n : Nd) (hi : Int) (has : Bool) : ∀ v ∈ plV at_ n hi has, v.oneCell' = true := by
  intro v hv
  rcases List.mem_cons.1 hv with rfl | h
  · rfl
  · rcases List.mem_append.1 h with h | h
    · exact cl_one n v h
    · simp at h
      rcases h with rfl | rfl <;> rfl
theorem setL_mid (pre old post vs : List Value) (h : old.length = vs.length) : setL (pre ++ (old ++ post)).toArray pre.length vs = (pre ++ (vs ++ post)).toArray := by
  have hg := (setL_get vs pre.length (pre ++ (old ++ post)).toArray (by simp; omega)).2
  apply Array.ext_getElem?
  intro i
  rw [hg i, List.getElem?_toArray, List.getElem?_toArray]
  by_cases h1 : i < pre.length
  · rw [if_neg (by omega), List.getElem?_append_left h1, List.getElem?_append_left h1]
  · by_cases h2 : i < pre.length + vs.length
    · rw [if_pos ⟨by omega, h2⟩, List.getElem?_append_right (l₁ := pre) (by omega), List.getElem?_append_left (by omega)]
    · rw [if_neg (by omega), List.getElem?_append_right (l₁ := pre) (l₂ := old ++ post) (by omega), List.getElem?_append_right (l₁ := pre) (l₂ := vs ++ post) (by omega), List.getElem?_append_right (l₁ := old) (by omega), List.getElem?_append_right (l₁ := vs) (by omega), h]
def WF.pre (s : WF) : List Value := [.pointer s.mem, .int .i64 s.cl, .int .u64 s.key, .int .i64 s.lev, s.nx, s.un, s.th, s.sn]
def WF.post (s : WF) : List Value := [.int .u64 s.lo, .int .u64 s.to, .bool s.was, .int .i64 s.ends, .bool s.d, .int .i64 s.k]
theorem WF.cells_pl (s : WF) : s.cells = s.pre ++ (plV s.at_ s.n s.hi s.has ++ s.post) := rfl
theorem WF.cells_nd (s : WF) : s.cells = (s.pre ++ [Value.int .u64 s.at_]) ++ (s.n.cl ++ (.int .u64 s.hi :: .bool s.has :: s.post)) := rfl
theorem WkAt.place {w : World} {g : Nat} {s : WF} (h : WkAt w g s) (at_ : Int) (n : Nd) (hi : Int) (has : Bool) : WkAt (w.setCells g 8 (plV at_ n hi has)) g { s with at_ := at_, n := n, hi := hi, has := has } := by
  have h1 := row_setCellsAux (plV at_ n hi has) 8 w s.cells.toArray h
  have e := setL_mid s.pre (plV s.at_ s.n s.hi s.has) s.post (plV at_ n hi has) rfl
  rw [WF.cells_pl] at h1
  exact (show Row _ _ _ _ from e ▸ h1)
theorem WkAt.node {w : World} {g : Nat} {s : WF} (h : WkAt w g s) (n : Nd) : WkAt (w.setCells g 9 n.cl) g { s with n := n } := by
  have h1 := row_setCellsAux n.cl 9 w s.cells.toArray h
  have e := setL_mid (s.pre ++ [Value.int .u64 s.at_]) s.n.cl (.int .u64 s.hi :: .bool s.has :: s.post) n.cl rfl
  rw [WF.cells_nd] at h1
  exact (show Row _ _ _ _ from e ▸ h1)
theorem row_thereM {w : World} {b : Nat} {t : TypeId} {cs : Array Value} (h : Row w b t cs) {o n : Nat} (hn : o + n ≤ cs.size) : w.there b o n := fun j hj => by
  exact ⟨by rw [h.cell, Array.getElem?_eq_getElem (by omega)]; rfl, h.free _⟩
theorem but_setCellsW {w : World} {b : Nat} (vs : List Value) : ∀ (o : Nat) (W : World), But w W (fun q => q = b) → But w (W.setCells b o vs) (fun q => q = b) := by
  induction vs with
  | nil => exact fun o W h => h
  | cons v r ih => exact fun o W h => ih (o + 1) _ (h.set (p := ⟨b, o, none⟩) rfl v)
/-- Where a walk has come to a node. -/
def WF.come (s : WF) (g gs : Nat) (a : Int) : WF := { s with at_ := a, n := zeroNd, hi := 0, has := false, sn := .pointer (some ⟨gs, 0, none⟩), un := .iface 65 (.pointer (some ⟨gs, 0, none⟩)), nx := nextV 60 g, th := nextV 61 g }
def ComeP (w : World) (g : Nat) (s : WF) (a : Int) (e : Ending) (w' : World) : Prop :=
  e = .returned (.tuple #[]) ∧ ∃ gs, WkAt w' g (s.come g gs a) ∧ Row w' gs 183 (zeroS s.mem (nextV 94 gs) a).toArray ∧ But w w' (fun q => q = g) ∧ w.heap.size ≤ gs
set_option maxRecDepth 100000 in
set_option maxHeartbeats 3200000 in
theorem wkCome_any {w : World} {g : Nat} {s : WF} {a : Int} (h : WkAt w g s) : Calls Tryz.prog 37 #[.pointer (some ⟨g, 0, none⟩), .int .u64 a] w (ComeP w g s a) := by
  have H1 := Lib.hid (WkAt.place h a zeroNd 0 false)
  have HB1 := Lib.hid (but_setCellsW (plV a zeroNd 0 false) 8 w (But.refl w (fun q => q = g)))
  have hth := row_thereM (n := 24) (o := 8) h (by show 8 + 24 ≤ 38; decide)
  have HTH := Lib.hid hth
  obtain ⟨p, hp⟩ : ∃ p, p = s.mem := ⟨_, rfl⟩
  have HP := Lib.hid hp
  obtain ⟨vs, hvs⟩ : ∃ vs, vs = plV a zeroNd 0 false := ⟨_, rfl⟩
  have HV1 := Lib.hid (show ∀ v ∈ vs, v.oneCell' = true by rw [hvs]; exact plV_one _ _ _ _)
  have HVV := Lib.hid hvs
  have HVL := Lib.hid (show vs.length = 24 by rw [hvs]; rfl)
  have HVA := Lib.hid (show Value.agg (plV a zeroNd 0 false).toArray = .agg vs.toArray by rw [hvs])
  clear h hth hp hvs
  go_enter Tryz.func37, Tryz.ntmps37
  go_upto_region 1 with (first
    | ((with_reducible refine show_storePl ?_); refine wpList_store_mid rfl _ _ _ rfl g 8 (plV a zeroNd 0 false).toArray rfl rfl HTH.out plI (all_oneCell_toArray (plV_one _ _ _ _)) ?_))
  obtain ⟨W1, hW1⟩ : ∃ W1, W1 = w.setCells g 8 (plV a zeroNd 0 false) := ⟨_, rfl⟩
  rw [← hW1] at H1 HB1 ⊢
  have c0 : W1.cell? ⟨g, 0, none⟩ = some (.pointer p) := by rw [HP.out]; exact Row.cell H1.out 0
  have HS := Lib.hid (snNew_any p a W1)
  clear hW1 HTH
  go_wp2_with fail
  refine HS.out.mono ?_
  rintro e w2 ⟨rfl, hw2⟩
  have hb2 : Below W1.heap.size W1 w2 := by rw [← hw2]; exact alloc_below _ _
  have HR2 := Lib.hid (show Row w2 W1.heap.size 183 (zeroS p (nextV 94 W1.heap.size) a).toArray by rw [← hw2]; exact Row.new _ _ _)
  have H2 := Lib.hid (H1.out.below hb2)
  have HB2 := Lib.hid (HB1.out.trans (But.of_below hb2 _) fun q hq => .inl hq)
  have HGE := Lib.hid (show w.heap.size ≤ W1.heap.size from HB1.out.size)
  have HGN := Lib.hid (show W1.heap.size ≠ g from by have := H1.out.lt; omega)
  obtain ⟨gs, hgs⟩ : ∃ gs, gs = W1.heap.size := ⟨_, rfl⟩
  rw [← hgs] at HR2 HGE HGN ⊢
  have k7 : w2.cell? ⟨g, 7, none⟩ = some s.sn := Row.cell H2.out 7
  have k4 : w2.cell? ⟨g, 4, none⟩ = some s.nx := Row.cell H2.out 4
  have k5 : w2.cell? ⟨g, 5, none⟩ = some s.un := Row.cell H2.out 5
  have k6 : w2.cell? ⟨g, 6, none⟩ = some s.th := Row.cell H2.out 6
  have f7 := Row.free H2.out 7
  have f4 := Row.free H2.out 4
  have f5 := Row.free H2.out 5
  have f6 := Row.free H2.out 6
  have H3 := Lib.hid ((((H2.out.snap (.pointer (some ⟨gs, 0, none⟩))).under (.iface 65 (.pointer (some ⟨gs, 0, none⟩)))).next (nextV 60 g)).then_ (nextV 61 g))
  have HB3 := Lib.hid ((((HB2.out.set (p := ⟨g, 7, none⟩) rfl (.pointer (some ⟨gs, 0, none⟩))).set (p := ⟨g, 5, none⟩) rfl (.iface 65 (.pointer (some ⟨gs, 0, none⟩)))).set (p := ⟨g, 4, none⟩) rfl (nextV 60 g)).set (p := ⟨g, 6, none⟩) rfl (nextV 61 g))
  have HR3 := Lib.hid ((((HR2.out.other (p := ⟨g, 7, none⟩) HGN.out (.pointer (some ⟨gs, 0, none⟩))).other (p := ⟨g, 5, none⟩) HGN.out (.iface 65 (.pointer (some ⟨gs, 0, none⟩)))).other (p := ⟨g, 4, none⟩) HGN.out (nextV 60 g)).other (p := ⟨g, 6, none⟩) HGN.out (nextV 61 g))
  unfold nextV at H3 HB3 HR3
  clear hw2 hb2 hgs HS c0
  go_wp2_with fail
  go_end0
  refine ⟨rfl, gs, H3.out, ?_, HB3.out, HGE.out⟩
  rw [← HP.out]
  exact HR3.out
end Go.Proofs.YtpjlajkjknkbaaaGreatDoor
/- A walk sees the node at which it is done; conditions: no hop, and the node's level is not above the one that is looked for. -/
namespace Go.Proofs.YtpjlajkjknkbaaaGreatDoor
open Go.RowKit
set_option linter.unusedVariables false
attribute [local go_sem] Oper.semAt_some
/-- What the snapshot answers, in all worlds behind one. -/
def NodeIs (w : World) (g gs : Nat) (N : Nd) : Prop := ∀ W, But w W (fun q => q = g) → Calls Tryz.prog 62 #[.pointer (some ⟨gs, 0, none⟩)] W fun e w' => e = .returned (.tuple #[N.V, .int .i64 0]) ∧ Below W.heap.size W w'
def HighIs (w : World) (g gs : Nat) (hv : Int) (hb : Bool) : Prop := ∀ W, But w W (fun q => q = g) → Calls Tryz.prog 95 #[.pointer (some ⟨gs, 0, none⟩)] W fun e w' => e = .returned (.tuple #[.int .u64 hv, .bool hb]) ∧ Below W.heap.size W w'
theorem NodeIs.but {w w1 : World} {g gs : Nat} {N : Nd} (h : NodeIs w g gs N) (hb : But w w1 (fun q => q = g)) : NodeIs w1 g gs N := fun W hW => h W (hb.trans hW fun q hq => .inl hq)
theorem HighIs.but {w w1 : World} {g gs : Nat} {hv : Int} {b : Bool} (h : HighIs w g gs hv b) (hb : But w w1 (fun q => q = g)) : HighIs w1 g gs hv b := fun W hW => h W (hb.trans hW fun q hq => .inl hq)
def WF.seen (s : WF) (N : Nd) (hv : Int) (hb : Bool) : WF := { s with n := N, hi := hv, has := hb, d := true }
def SeenP (w : World) (g : Nat) (s : WF) (N : Nd) (hv : Int) (hb : Bool) (k : Int) (e : Ending) (w' : World) : Prop := e = .returned (.int .i64 k) ∧ WkAt w' g (s.seen N hv hb) ∧ But w w' (fun q => q = g)
theorem store_nd (w1 : World) (n : Nd) : ∃ W2, W2 = (w1.alloc (.cells #[.int .i64 0, .int .u64 0, .int .u64 0, .int .u64 0, .int .u64 0, .int .u64 0, .int .u64 0, .int .u64 0, .int .u64 0, .int .u64 0, .int .u64 0, .int .u64 0, .int .u64 0, .int .u64 0, .int .u64 0, .int .u64 0, .int .u64 0, .int .u64 0, .int .u64 0, .int .u64 0, .int .u64 0] 69)).setCells w1.heap.size 0 n.cl ∧ NdAt W2 w1.heap.size n ∧ Below w1.heap.size w1 W2 :=
  ⟨_, rfl, row_setCells (Row.new w1 69 zeroNd.cl.toArray) rfl, setCells_low _ (Nat.le_refl _) (alloc_low _ _)⟩
set_option maxRecDepth 100000 in
set_option maxHeartbeats 3200000 in
theorem wkSeen_done {w : World} {g gs : Nat} {s : WF} {N : Nd} {hv : Int} {hb : Bool} (h : WkAt w g s) (hsn : s.sn = .pointer (some ⟨gs, 0, none⟩)) (hN : NodeIs w g gs N) (hH : HighIs w g gs hv hb) (hk : hb = true → s.key < hv) (hl : N.l ≤ s.lev) :
    Calls Tryz.prog 61 #[.pointer (some ⟨g, 0, none⟩)] w (SeenP w g s N hv hb s.ends) := by
  have mixed : Tryz.prog.follows .mixedOrders = true := by kernel_rfl
  have c7 : w.cell? ⟨g, 7, none⟩ = some s.sn := Row.cell h 7
  rw [hsn] at c7
  have H := Lib.hid h
  have HN := Lib.hid (hN w (But.refl _ _))
  have HH := Lib.hid hH
  have HK := Lib.hid hk
  have HL := Lib.hid hl
  have hg := h.lt
  clear h hsn hN hH hk hl
  go_enter Tryz.func61, Tryz.ntmps61
  go_wp2_with fail
  refine HN.out.mono ?_
  rintro e w1 ⟨rfl, hb1⟩
  have HB1 := Lib.hid hb1
  clear hb1 HN
  go_upto_region 2 with (first
    | ((with_reducible refine show_storeN ?_); refine wpList_store_row rfl _ _ _ rfl w1.heap.size N.cl rfl rfl (Row.new w1 69 zeroNd.cl.toArray) rfl ndI (cl_one _) ?_))
  obtain ⟨W2, hW2, hn2, hb2⟩ := store_nd w1 N
  rw [← hW2]
  have HB2 := Lib.hid (Below.and HB1.out hb2)
  have HN2 := Lib.hid hn2
  have c72 : W2.cell? ⟨g, 7, none⟩ = some (.pointer (some ⟨gs, 0, none⟩)) := (HB2.out.cell (p := ⟨g, 7, none⟩) hg).trans c7
  have HHW := Lib.hid (HH.out W2 (But.of_below HB2.out _))
  have HGN := Lib.hid (show w1.heap.size ≠ g from by have := HB1.out.size; omega)
  obtain ⟨gn, hgn⟩ : ∃ gn, gn = w1.heap.size := ⟨_, rfl⟩
  rw [← hgn] at HN2 HGN ⊢
  clear hW2 hn2 hb2 HH c7 hgn
  go_wp2_with fail
  refine HHW.out.mono ?_
  rintro e w3 ⟨rfl, hb3⟩
  have HB3 := Lib.hid (Below.and HB2.out hb3)
  have HN3 := Lib.hid (HN2.out.below hb3 HN2.out.lt)
  have H3 := Lib.hid (H.out.below HB3.out)
  have hth := row_thereM (n := 21) (o := 9) H3.out (by show 9 + 21 ≤ 38; decide)
  have HTH := Lib.hid hth
  clear hb3 c72 HHW hth
  go_upto_region 3 with (fail)
  go_upto_region 4 with (first
    | ((with_reducible refine show_loadN ?_); refine wpList_load_mid rfl _ _ rfl gn 0 rfl N.cl _ (ndR HN3.out) Tryz.underlying69 rfl ndI ?_)
    | ((with_reducible refine show_storeN ?_); refine wpList_store_mid rfl _ _ _ rfl g 9 N.cl.toArray rfl rfl HTH.out ndI (all_oneCell_toArray (cl_one _)) ?_; obtain ⟨W4, hW4⟩ : ∃ W4, W4 = w3.setCells g 9 N.cl := ⟨_, rfl⟩; have H4 := Lib.hid (show WkAt W4 g { s with n := N } from by rw [hW4]; exact H3.out.node N); have HB4 := Lib.hid (show But w3 W4 (fun q => q = g) from by rw [hW4]; exact but_setCells (But.refl w3 _) N.cl 9); have e30 : W4.cell? ⟨g, 30, none⟩ = some (.int .u64 s.hi) := Row.cell H4.out 30; have e31 : W4.cell? ⟨g, 31, none⟩ = some (.bool s.has) := Row.cell H4.out 31; have f30 := Row.free H4.out 30; have f31 := Row.free H4.out 31; (try rw [← hW4]); clear hW4))
  obtain ⟨W5, hW5⟩ : ∃ W5, W5 = (W4.setCell ⟨g, 30, none⟩ (.int .u64 hv)).setCell ⟨g, 31, none⟩ (.bool hb) := ⟨_, rfl⟩
  rw [← hW5]
  have H5 := Lib.hid (show WkAt W5 g { s with n := N, hi := hv, has := hb } from by rw [hW5]; exact (H4.out.high hv).has hb)
  have HB5 := Lib.hid (show But w W5 (fun q => q = g) from by
    rw [hW5]
    exact (((But.of_below HB3.out (fun q => q = g)).trans HB4.out fun q hq => .inl hq).set (p := ⟨g, 30, none⟩) rfl _).set (p := ⟨g, 31, none⟩) rfl _)
  have HN5 := Lib.hid (show NdAt W5 gn N from by
    rw [hW5]
    exact ((HB4.out.row HN3.out HGN.out).other (p := ⟨g, 30, none⟩) HGN.out _).other (p := ⟨g, 31, none⟩) HGN.out _)
  have k0 : W5.cell? ⟨gn, 0, none⟩ = some (.int .i64 N.l) := ndAt_at HN5.out 0
  have k2 : W5.cell? ⟨g, 2, none⟩ = some (.int .u64 s.key) := Row.cell H5.out 2
  have k3 : W5.cell? ⟨g, 3, none⟩ = some (.int .i64 s.lev) := Row.cell H5.out 3
  have k35 : W5.cell? ⟨g, 35, none⟩ = some (.int .i64 s.ends) := Row.cell H5.out 35
  have k36 : W5.cell? ⟨g, 36, none⟩ = some (.bool s.d) := Row.cell H5.out 36
  have f36 := Row.free H5.out 36
  obtain ⟨key, hkey⟩ : ∃ key, key = s.key := ⟨_, rfl⟩
  obtain ⟨lev, hlev⟩ : ∃ lev, lev = s.lev := ⟨_, rfl⟩
  obtain ⟨nl, hnl⟩ : ∃ nl, nl = N.l := ⟨_, rfl⟩
  rw [← hkey] at k2 HK
  rw [← hlev] at k3 HL
  rw [← hnl] at k0 HL
  have d1 : decide (lev < nl) = false := by have := HL.out; simp; omega
  have hL := HL.out
  clear hW5 e30 e31 f30 f31 HN3 H3 HB3 HB4 H4 hkey hlev hnl HTH HN2 HB2 HB1
  cases hb with
  | false =>
    clear H HK HL
    go_wp2_with fail
    go_quiet (fail)
    go_wp2_with fail
    go_ret
    have HBE := Lib.hid (HB5.out.trans (But.of_below (drewN_below W5 nq) (fun q => q = g)) fun q hq => .inl hq)
    exact ⟨rfl, WkAt.done (H5.out.below (drewN_below W5 nq)) true, HBE.out.set (p := ⟨g, 36, none⟩) rfl _⟩
  | true =>
    have hkk := HK.out rfl
    have d2 : decide (hv ≤ key) = false := by simp; omega
    clear H HK HL
    go_wp2_with fail
    go_quiet (fail)
    go_wp2_with fail
    go_ret
    have HBE := Lib.hid (HB5.out.trans (But.of_below (drewN_below W5 nq) (fun q => q = g)) fun q hq => .inl hq)
    exact ⟨rfl, WkAt.done (H5.out.below (drewN_below W5 nq)) true, HBE.out.set (p := ⟨g, 36, none⟩) rfl _⟩
end Go.Proofs.YtpjlajkjknkbaaaGreatDoor
/- A walk goes on: by its snapshot's step, and what stands behind its last one; no conditions. -/
namespace Go.Proofs.YtpjlajkjknkbaaaGreatDoor
open Go.RowKit
set_option linter.unusedVariables false
attribute [local go_sem] Oper.semAt_some
set_option maxRecDepth 100000 in
set_option maxHeartbeats 3200000 in
theorem wkSeenRoot_done {w : World} {g gs : Nat} {s : WF} {N : Nd} {hv : Int} {hb : Bool} {k : Int} (h : WkAt w g s) (hsn : s.sn = .pointer (some ⟨gs, 0, none⟩)) (hN : NodeIs w g gs N) (hH : HighIs w g gs hv hb) (hk : hb = true → s.key < hv) (hl : N.l ≤ s.lev) (he : k = if N.l < s.lev then 5 else s.ends) :
    Calls Tryz.prog 38 #[.pointer (some ⟨g, 0, none⟩)] w (SeenP w g { s with ends := k } N hv hb k) := by
  have mixed : Tryz.prog.follows .mixedOrders = true := by kernel_rfl
  have c7 : w.cell? ⟨g, 7, none⟩ = some s.sn := Row.cell h 7
  rw [hsn] at c7
  have H := Lib.hid h
  have HN := Lib.hid (hN w (But.refl _ _))
  have hg := h.lt
  have HSEEN := Lib.hid fun (W : World) (h1 : WkAt W g { s with ends := k }) (h2 : NodeIs W g gs N) (h3 : HighIs W g gs hv hb) => wkSeen_done (s := { s with ends := k }) h1 hsn h2 h3 hk hl
  have HNN := Lib.hid hN
  have HHH := Lib.hid hH
  have HE := Lib.hid he
  have HL := Lib.hid hl
  clear h hsn hN hH hk hl he
  go_enter Tryz.func38, Tryz.ntmps38
  go_wp2_with fail
  refine HN.out.mono ?_
  rintro e w1 ⟨rfl, hb1⟩
  have HB1 := Lib.hid hb1
  clear hb1 HN
  go_upto_region 2 with (first
    | ((with_reducible refine show_storeN ?_); refine wpList_store_row rfl _ _ _ rfl w1.heap.size N.cl rfl rfl (Row.new w1 69 zeroNd.cl.toArray) rfl ndI (cl_one _) ?_))
  obtain ⟨W2, hW2, hn2, hb2⟩ := store_nd w1 N
  rw [← hW2]
  have HB2 := Lib.hid (Below.and HB1.out hb2)
  have H2 := Lib.hid (H.out.below HB2.out)
  have k0 : W2.cell? ⟨w1.heap.size, 0, none⟩ = some (.int .i64 N.l) := ndAt_at hn2 0
  have k3 : W2.cell? ⟨g, 3, none⟩ = some (.int .i64 s.lev) := Row.cell H2.out 3
  have k35 : W2.cell? ⟨g, 35, none⟩ = some (.int .i64 s.ends) := Row.cell H2.out 35
  have f35 := Row.free H2.out 35
  obtain ⟨lev, hlev⟩ : ∃ lev, lev = s.lev := ⟨_, rfl⟩
  obtain ⟨nl, hnl⟩ : ∃ nl, nl = N.l := ⟨_, rfl⟩
  rw [← hlev] at k3 HE
  rw [← hnl] at k0 HE
  clear hW2 hn2 hb2 c7 hlev hnl HB1
  by_cases hlt : nl < lev
  · have d1 : decide (nl < lev) = true := by simpa using hlt
    obtain rfl : k = 5 := HE.out.trans (if_pos hlt)
    clear hlt HE HL H
    go_wp2_with fail
    go_quiet (fail)
    obtain ⟨W3, hW3⟩ : ∃ W3, W3 = (W2.drewN nq).setCell ⟨g, 35, none⟩ (.int .i64 5) := ⟨_, rfl⟩
    have HB3 := Lib.hid (show But w W3 (fun q => q = g) from by
      rw [hW3]
      exact (But.of_below (Below.and HB2.out (drewN_below W2 nq)) (fun q => q = g)).set (p := ⟨g, 35, none⟩) rfl _)
    have HS := Lib.hid (HSEEN.out W3 (by rw [hW3]; exact WkAt.ends (H2.out.below (drewN_below W2 nq)) 5) (HNN.out.but HB3.out) (HHH.out.but HB3.out))
    rw [hW3] at HS HB3
    clear hW3
    go_wp2_with fail
    refine HS.out.mono ?_
    rintro e w4 ⟨rfl, h4, hb4⟩
    have H4 := Lib.hid h4
    have HB4 := Lib.hid (HB3.out.trans hb4 fun q hq => .inl hq)
    clear h4 hb4 HS
    go_wp2
    go_ret
    exact ⟨rfl, H4.out, HB4.out⟩
  · have d1 : decide (nl < lev) = false := by simpa using hlt
    have hke : k = s.ends := HE.out.trans (if_neg hlt)
    have HKE := Lib.hid hke
    clear hlt HE HL H hke
    go_wp2_with fail
    go_quiet (fail)
    have HB3 := Lib.hid (But.of_below (Below.and HB2.out (drewN_below W2 nq)) (fun q => q = g))
    have HS := Lib.hid (HSEEN.out (W2.drewN nq) (by rw [HKE.out]; exact H2.out.below (drewN_below W2 nq)) (HNN.out.but HB3.out) (HHH.out.but HB3.out))
    go_wp2_with fail
    refine HS.out.mono ?_
    rintro e w4 ⟨rfl, h4, hb4⟩
    have H4 := Lib.hid h4
    have HB4 := Lib.hid (HB3.out.trans hb4 fun q hq => .inl hq)
    clear h4 hb4 HS
    go_wp2
    go_ret
    exact ⟨rfl, H4.out, HB4.out⟩
/-- The method that an interface's value names. -/
theorem und_PSnap : Tryz.prog.underlying 65 = some (.pointer 183) := by kernel_rfl
theorem mr_snap : ((Tryz.prog.info? 65).bind fun i => i.methods.find? (·.name == "Step")).map (fun m => (m.path.toList, m.func)) = some ([], some (193, true)) := by kernel_rfl
theorem m_snap (g : Nat) (w : World) : (method (Tryz.prog.types.size + Made.depth) 65 (.pointer (some ⟨g, 0, none⟩)) "Step").run Tryz.prog w = .ok (193, .pointer (some ⟨g, 0, none⟩)) w := by
  obtain ⟨i, m, hi, hm, hp, hf⟩ := row_of mr_snap
  rw [fuel_pos]
  exact method_own hi hm hp hf und_PSnap _
set_option maxRecDepth 100000 in
set_option maxHeartbeats 1600000 in
theorem wkGoOn_more {w : World} {g gs : Nat} {s : WF} {d : Bool} {k : Int} {Q : World → Prop} (h : WkAt w g s) (hun : s.un = .iface 65 (.pointer (some ⟨gs, 0, none⟩)))
    (HS : Calls Tryz.prog 193 #[.pointer (some ⟨gs, 0, none⟩)] w fun e w' => e = .returned (.tuple #[.bool d, .int .i64 k]) ∧ Q w') (hd : d = false ∨ k ≠ 0) :
    Calls Tryz.prog 60 #[.pointer (some ⟨g, 0, none⟩)] w fun e w' => e = .returned (.int .i64 k) ∧ Q w' := by
  have c5 : w.cell? ⟨g, 5, none⟩ = some s.un := Row.cell h 5
  rw [hun] at c5
  have HS := Lib.hid HS
  have M1 : (method 382 65 (.pointer (some ⟨gs, 0, none⟩)) "Step").run Tryz.prog w = .ok (193, .pointer (some ⟨gs, 0, none⟩)) w := m_snap gs w
  clear h hun
  cases d with
  | false =>
    clear hd
    go_enter Tryz.func60, Tryz.ntmps60
    go_wp2_with fail
    refine HS.out.mono ?_
    rintro e w1 ⟨rfl, hq⟩
    have HQ := Lib.hid hq
    clear hq M1 HS
    go_wp2
    go_ret
    exact ⟨rfl, HQ.out⟩
  | true =>
    have hk : k ≠ 0 := hd.elim (fun e => by cases e) id
    have d2 : (k == 0) = false := by simpa using hk
    clear hd hk
    go_enter Tryz.func60, Tryz.ntmps60
    go_wp2_with fail
    refine HS.out.mono ?_
    rintro e w1 ⟨rfl, hq⟩
    have HQ := Lib.hid hq
    clear hq M1 HS
    go_wp2
    go_ret
    exact ⟨rfl, HQ.out⟩
set_option maxRecDepth 100000 in
set_option maxHeartbeats 1600000 in
theorem wkGoOn_then {w : World} {g gs fT : Nat} {s : WF} {k : Int} {Q R : World → Prop} (h : WkAt w g s) (hun : s.un = .iface 65 (.pointer (some ⟨gs, 0, none⟩)))
    (hcall : ∀ (w : World) (v : Value), (callFunc fT #[v]).run Tryz.prog w = .ok (.enter fT #[v]) w)
    (HS : Calls Tryz.prog 193 #[.pointer (some ⟨gs, 0, none⟩)] w fun e w' => e = .returned (.tuple #[.bool true, .int .i64 0]) ∧ Q w')
    (hth : ∀ w', Q w' → w'.cell? ⟨g, 6, none⟩ = some (nextV fT g)) (HT : ∀ w', Q w' → Calls Tryz.prog fT #[.pointer (some ⟨g, 0, none⟩)] w' fun e w' => e = .returned (.int .i64 k) ∧ R w') :
    Calls Tryz.prog 60 #[.pointer (some ⟨g, 0, none⟩)] w fun e w' => e = .returned (.int .i64 k) ∧ R w' := by
  have c5 : w.cell? ⟨g, 5, none⟩ = some s.un := Row.cell h 5
  rw [hun] at c5
  have HS := Lib.hid HS
  have M1 : (method 382 65 (.pointer (some ⟨gs, 0, none⟩)) "Step").run Tryz.prog w = .ok (193, .pointer (some ⟨gs, 0, none⟩)) w := m_snap gs w
  have HTH := Lib.hid hth
  have HTT := Lib.hid HT
  clear h hun hth HT
  go_enter Tryz.func60, Tryz.ntmps60
  go_wp2_with fail
  refine HS.out.mono ?_
  rintro e w1 ⟨rfl, hq⟩
  have c6 := HTH.out w1 hq
  unfold nextV at c6
  have HC := Lib.hid (HTT.out w1 hq)
  clear hq M1 HS HTH HTT
  go_wp2_with fail
  refine HC.out.mono ?_
  rintro e w2 ⟨rfl, hr⟩
  have HR := Lib.hid hr
  clear hr HC
  go_wp2
  go_ret
  exact ⟨rfl, HR.out⟩
end Go.Proofs.YtpjlajkjknkbaaaGreatDoor
/- A walk's first step: the root is read; conditions: the root's word lies within the memory. -/
namespace Go.Proofs.YtpjlajkjknkbaaaGreatDoor
open Go.RowKit
set_option linter.unusedVariables false
attribute [local go_sem] Oper.semAt_some
theorem rootAt_any (w : World) : Calls Tryz.prog 36 #[] w fun e w' => e = .returned (.int .u64 16) ∧ w = w' := by
  go_enter Tryz.func36, Tryz.ntmps36
  go_wp2
  go_ret
  exact ⟨rfl, rfl⟩
theorem wkBegin_wrong {w : World} {g : Nat} {s : WF} {Z : Int} (h : WkAt w g s) (hz : SizeIs w s.mem Z) (hk : wrongK Z s.lev ≠ 0) :
    Calls Tryz.prog 20 #[.pointer (some ⟨g, 0, none⟩)] w fun e w' => e = .returned (.int .i64 (wrongK Z s.lev)) ∧ w = w' := by
  have HW := Lib.hid (wkWrong_any h hz)
  obtain ⟨K, hK⟩ : ∃ K, K = wrongK Z s.lev := ⟨_, rfl⟩
  rw [← hK] at HW hk ⊢
  have d1 : (K == 0) = false := by simpa using hk
  clear h hz hK hk
  go_enter Tryz.func20, Tryz.ntmps20
  go_wp2_with fail
  refine HW.out.mono ?_
  rintro e w1 ⟨rfl, rfl⟩
  clear HW
  go_wp2
  go_ret
  exact ⟨rfl, rfl⟩
/-- What the first step leaves: the walk is at the root; Q: what its load leaves. -/
def BeginP (w : World) (g : Nat) (s : WF) (r : Int) (Q : World → Prop) (k : Int) (e : Ending) (w' : World) : Prop :=
  e = .returned (.int .i64 k) ∧ ∃ w1 gs, Q w1 ∧ w1.heap.size ≤ gs ∧ WkAt w' g { s.come g gs r with th := nextV 38 g } ∧ Row w' gs 183 (zeroS s.mem (nextV 94 gs) r).toArray ∧ But w1 w' (fun q => q = g)
set_option maxRecDepth 100000 in
set_option maxHeartbeats 3200000 in
theorem wkBegin_any {w : World} {g : Nat} {s : WF} {Z r k : Int} {Q : World → Prop} (h : WkAt w g s) (hz : SizeIs w s.mem Z) (hk : wrongK Z s.lev = 0)
    (HL : ∀ W, Below w.heap.size w W → Calls Tryz.prog 35 #[.pointer s.mem, .int .u64 16] W fun e w' => e = .returned (.tuple #[.int .u64 r, .int .i64 k]) ∧ Q w' ∧ WkAt w' g s) :
    Calls Tryz.prog 20 #[.pointer (some ⟨g, 0, none⟩)] w (BeginP w g s r Q k) := by
  have mixed : Tryz.prog.follows .mixedOrders = true := by kernel_rfl
  have HW := Lib.hid (wkWrong_any h hz)
  rw [hk] at HW
  have c0 : w.cell? ⟨g, 0, none⟩ = some (.pointer s.mem) := Row.cell h 0
  have HLL := Lib.hid HL
  have HRT := Lib.hid fun W => rootAt_any W
  have EGR := Lib.hid (enters_of Tryz.func36 (by kernel_rfl) rfl)
  have EGL := Lib.hid (enters_of Tryz.func35 (by kernel_rfl) rfl)
  have hg := h.lt
  obtain ⟨p, hp⟩ : ∃ p, p = s.mem := ⟨_, rfl⟩
  rw [← hp] at c0 HLL
  have HP := Lib.hid hp
  clear h hz hk HL hp
  go_enter Tryz.func20, Tryz.ntmps20
  go_wp2_with fail
  refine HW.out.mono ?_
  rintro e w1 ⟨rfl, rfl⟩
  clear HW
  go_upto_region 4 with (fail)
  refine wp_region_noPanic ?_
  refine wp_region_held_drew (S := fun W' => W'.cell? ⟨g, 0, none⟩ = some (.pointer p)) (by kernel_rfl) ((drew_below w).cell (p := ⟨g, 0, none⟩) hg |>.trans c0) (fun hHeld => ?_)
  refine wpAnyH_take (i := 0) (oi := ⟨some 12, _, _, _, _, _⟩) (v := .pointer (some ⟨g, 0, none⟩)) rfl (by kernel_rfl) (by kernel_rfl) (by kernel_rfl) (fun _ _ _ h => h) (Or.inl ⟨by kernel_rfl, by intro WW hSw; (try dsimp only at hSw); go_simp⟩) (by assumption) ?_
  (try simp only [Act.put, List.setIfInBounds_toArray, List.set_cons_zero, List.set_cons_succ])
  refine wpAnyH_take (i := 1) (oi := ⟨some 13, _, _, _, _, _⟩) (v := .pointer (some ⟨g, 0, none⟩)) rfl (by kernel_rfl) (by kernel_rfl) (by kernel_rfl) (fun _ _ _ h => h) (Or.inl ⟨by kernel_rfl, by intro WW hSw; (try dsimp only at hSw); go_simp⟩) (by assumption) ?_
  (try simp only [Act.put, List.setIfInBounds_toArray, List.set_cons_zero, List.set_cons_succ])
  refine wpAnyH_take (i := 2) (oi := ⟨some 14, _, _, _, _, _⟩) (v := .pointer (some ⟨g, 0, none⟩)) rfl (by kernel_rfl) (by kernel_rfl) (by kernel_rfl) (fun _ _ _ h => h) (Or.inl ⟨by kernel_rfl, by intro WW hSw; (try dsimp only at hSw); go_simp⟩) (by assumption) ?_
  (try simp only [Act.put, List.setIfInBounds_toArray, List.set_cons_zero, List.set_cons_succ])
  refine wpAnyH_take (i := 3) (oi := ⟨some 15, _, _, _, _, _⟩) (v := .pointer p) rfl (by kernel_rfl) (by kernel_rfl) (by kernel_rfl) (fun _ _ _ h => h) (Or.inl ⟨by kernel_rfl, by intro WW hSw; (try dsimp only at hSw); go_simp⟩) (by assumption) ?_
  (try simp only [Act.put, List.setIfInBounds_toArray, List.set_cons_zero, List.set_cons_succ])
  refine wpAnyH_one (i := 4) (oi := ⟨some 16, _, _, _, _, _⟩) rfl (by kernel_rfl) (fun K hK => ?_)
  refine step_calls (by rfl) 36 EGR.out [] _ rfl [] rfl (HRT.out _) ?_
  rintro e w2 ⟨rfl, hw2⟩
  have hb2 : Below w.heap.size w w2 := by rw [← hw2]; exact drew_below _
  have HLL2 := Lib.hid (HLL.out w2 hb2)
  refine ⟨_, rfl, hK _ _ (hb2.cell (p := ⟨g, 0, none⟩) hg |>.trans c0) (fun hSn => ?_)⟩
  clear hK K hw2 hb2
  (try simp only [Act.put, List.setIfInBounds_toArray, List.set_cons_zero, List.set_cons_succ])
  refine wpAnyH_one (i := 5) (oi := ⟨some 17, _, _, _, _, _⟩) rfl (by kernel_rfl) (fun K hK => ?_)
  refine step_calls (by rfl) 35 EGL.out [.tmp 15, .tmp 16] _ rfl [.pointer p, .int .u64 16] rfl HLL2.out ?_
  rintro e w3 ⟨rfl, hq, h3⟩
  have HQ := Lib.hid hq
  have H3 := Lib.hid h3
  have HCO := Lib.hid (wkCome_any (a := r) h3)
  refine ⟨_, rfl, hK _ _ (by rw [HP.out]; exact Row.cell h3 0) (fun hSn2 => ?_)⟩
  clear hK K hq h3 HLL2 HLL
  (try simp only [Act.put, List.setIfInBounds_toArray, List.set_cons_zero, List.set_cons_succ])
  refine wpAnyH_take (i := 6) (oi := ⟨some 11, _, _, _, _, _⟩) (v := .tuple #[.int .u64 r, .int .i64 k]) rfl (by kernel_rfl) (by kernel_rfl) (by kernel_rfl) (fun _ _ _ h => h) (Or.inl ⟨by kernel_rfl, by intro WW hSw; (try dsimp only at hSw); go_simp⟩) (by assumption) ?_
  (try simp only [Act.put, List.setIfInBounds_toArray, List.set_cons_zero, List.set_cons_succ])
  refine wpAnyH_take (i := 7) (oi := ⟨some 18, _, _, _, _, _⟩) (v := .int .u64 r) rfl (by kernel_rfl) (by kernel_rfl) (by kernel_rfl) (fun _ _ _ h => h) (Or.inl ⟨by kernel_rfl, by intro WW hSw; (try dsimp only at hSw); go_simp⟩) (by assumption) ?_
  (try simp only [Act.put, List.setIfInBounds_toArray, List.set_cons_zero, List.set_cons_succ])
  refine wpAnyH_take (i := 8) (oi := ⟨some 19, _, _, _, _, _⟩) (v := .int .i64 k) rfl (by kernel_rfl) (by kernel_rfl) (by kernel_rfl) (fun _ _ _ h => h) (Or.inl ⟨by kernel_rfl, by intro WW hSw; (try dsimp only at hSw); go_simp⟩) (by assumption) ?_
  (try simp only [Act.put, List.setIfInBounds_toArray, List.set_cons_zero, List.set_cons_succ])
  refine wpAnyH_take (i := 9) (oi := ⟨some 4, _, _, _, _, _⟩) (v := .int .u64 r) rfl (by kernel_rfl) (by kernel_rfl) (by kernel_rfl) (fun _ _ _ h => h) (Or.inl ⟨by kernel_rfl, by intro WW hSw; (try dsimp only at hSw); go_simp⟩) (by assumption) ?_
  (try simp only [Act.put, List.setIfInBounds_toArray, List.set_cons_zero, List.set_cons_succ])
  refine wpAnyH_take (i := 10) (oi := ⟨some 5, _, _, _, _, _⟩) (v := .int .i64 k) rfl (by kernel_rfl) (by kernel_rfl) (by kernel_rfl) (fun _ _ _ h => h) (Or.inl ⟨by kernel_rfl, by intro WW hSw; (try dsimp only at hSw); go_simp⟩) (by assumption) ?_
  (try simp only [Act.put, List.setIfInBounds_toArray, List.set_cons_zero, List.set_cons_succ])
  refine wpAnyH_done (by kernel_rfl) ?_ _
  go_wp2_with fail
  refine (‹∀ (a : Act) (w : World), Code.wp Tryz.prog _ _ a w → _›) _ _ ?_
  clear hSn hSn2
  go_wp2_with fail
  refine HCO.out.mono ?_
  rintro e w4 ⟨rfl, gs, h4, hr4, hb4, hgs⟩
  have k6 : w4.cell? ⟨g, 6, none⟩ = some (nextV 61 g) := Row.cell h4 6
  have f6 := Row.free h4 6
  have H5 := Lib.hid (h4.then_ (nextV 38 g))
  have hne : gs ≠ g := by have := H3.out.lt; omega
  have HR5 := Lib.hid (hr4.other (p := ⟨g, 6, none⟩) hne (nextV 38 g))
  have HB5 := Lib.hid (hb4.set (p := ⟨g, 6, none⟩) rfl (nextV 38 g))
  have HGS := Lib.hid hgs
  unfold nextV at k6 H5 HR5 HB5
  clear h4 hr4 hb4 hgs hne HCO H3
  go_wp2_with fail
  go_ret
  exact ⟨rfl, w3, gs, HQ.out, HGS.out, H5.out, HR5.out, HB5.out⟩
end Go.Proofs.YtpjlajkjknkbaaaGreatDoor
/- A walk in a memory in which nobody stores, to a root at which it is done: what stands behind so many steps; conditions: the root has no Next, its level is not above the one that is looked for. -/
namespace Go.Proofs.YtpjlajkjknkbaaaGreatDoor
open Go.RowKit
set_option linter.unusedVariables false
/-- What stands behind a walk's steps. -/
structure JS (w1 W : World) (y1 : Lay) (gw gs n : Nat) (s : St) (S : SS) (F : WF) : Prop where
  ex : ∃ y, MemAt W y s ∧ y.g = y1.g ∧ (∀ k, y.fp k → y1.fp k ∨ w1.heap.size ≤ k) ∧ ¬ y.fp gs ∧ ¬ y.fp gw
  sn : SnapAt W gs (some ⟨y1.g, 0, none⟩) S
  wk : WkAt W gw F
  lds : Lds s.nl n s
  ne : gs ≠ gw
  gs : w1.heap.size ≤ gs
  but : But w1 W (fun q => y1.fp q ∨ q = gw)
structure JB (w1 W : World) (y1 : Lay) (gw n : Nat) (s : St) (F : WF) : Prop where
  ex : ∃ y, MemAt W y s ∧ y.g = y1.g ∧ (∀ k, y.fp k → y1.fp k ∨ w1.heap.size ≤ k) ∧ ¬ y.fp gw
  wk : WkAt W gw F
  lds : Lds s.nl n s
  but : But w1 W (fun q => y1.fp q ∨ q = gw)
section
variable {w1 W W' : World} {y1 : Lay} {gw gs n : Nat} {s : St} {S : SS} {F F' : WF}
theorem JS.toJB (h : JS w1 W y1 gw gs n s S F) : JB w1 W y1 gw n s F := by
  obtain ⟨y, a, b, c, _, d⟩ := h.ex
  exact ⟨⟨y, a, b, c, d⟩, h.wk, h.lds, h.but⟩
theorem JB.below (h : JB w1 W y1 gw n s F) (hb : Below W.heap.size W W') : JB w1 W' y1 gw n s F := by
  obtain ⟨y, a, b, c, d⟩ := h.ex
  exact ⟨⟨y, a.below hb, b, c, d⟩, h.wk.below hb, h.lds, h.but.trans (But.of_below hb (fun q => y1.fp q ∨ q = gw)) fun q hq => .inl hq⟩
theorem JB.turn (h : JB w1 W y1 gw n s F) (hb : But W W' (fun q => q = gw)) (hw : WkAt W' gw F') : JB w1 W' y1 gw n s F' := by
  obtain ⟨y, a, b, c, d⟩ := h.ex
  exact ⟨⟨y, a.but hb (fun k hk e => d (e ▸ hk)), b, c, d⟩, hw, h.lds, h.but.trans hb fun q hq => .inl (.inr hq)⟩
theorem JS.below (h : JS w1 W y1 gw gs n s S F) (hb : Below W.heap.size W W') : JS w1 W' y1 gw gs n s S F := by
  obtain ⟨y, a, b, c, d, e⟩ := h.ex
  obtain ⟨cs, hr, hs⟩ := h.sn
  exact ⟨⟨y, a.below hb, b, c, d, e⟩, ⟨cs, hr.below hb hr.lt, hs⟩, h.wk.below hb, h.lds, h.ne, h.gs, h.but.trans (But.of_below hb (fun q => y1.fp q ∨ q = gw)) fun q hq => .inl hq⟩
theorem JS.turn (h : JS w1 W y1 gw gs n s S F) (hb : But W W' (fun q => q = gw)) (hw : WkAt W' gw F') : JS w1 W' y1 gw gs n s S F' := by
  obtain ⟨y, a, b, c, d, e⟩ := h.ex
  obtain ⟨cs, hr, hs⟩ := h.sn
  exact ⟨⟨y, a.but hb (fun k hk e' => e (e' ▸ hk)), b, c, d, e⟩, ⟨cs, hb.row hr h.ne, hs⟩, hw, h.lds, h.ne, h.gs, h.but.trans hb fun q hq => .inl (.inr hq)⟩
theorem JB.stats (h : JB w1 W y1 gw n s F) : Calls Tryz.prog 57 #[.pointer (some ⟨y1.g, 0, none⟩)] W fun e w' => e = .returned (.agg #[wv s.ld, wv s.st, wv s.fl, wv s.fe]) ∧ Below W.heap.size W w' := by
  obtain ⟨y, a, b, _⟩ := h.ex
  have := stats_yes a
  rw [b] at this
  exact this
theorem JS.at_ (h : JS w1 W y1 gw gs n s S F) : ∃ y, SnAt W W y gs s s n S := by
  obtain ⟨y, a, b, c, d, e⟩ := h.ex
  have h1 := h.sn
  rw [← b] at h1
  obtain ⟨cs, hr, hs⟩ := h1
  exact ⟨y, ⟨y, a, RT.of_below y gs (Below.refl _ _)⟩, ⟨cs, hr, hs⟩, rfl, rfl, h.lds, d, hr.lt⟩
/-- What it keeps beside. -/
def Keeps (W Wl w' : World) : Prop := ∀ k, W.heap.size ≤ k → k < Wl.heap.size → w'.heap[k]? = Wl.heap[k]?
theorem JS.step {Wl : World} (h : JS w1 W y1 gw gs n s S F) (hb : Below W.heap.size W Wl) (hn : n ≤ 1000000) (G : S.Good) (h1 : ∀ k, y1.fp k → k < w1.heap.size) :
    Calls Tryz.prog 193 #[.pointer (some ⟨gs, 0, none⟩)] Wl fun e w' => e = .returned (.tuple #[.bool (S.go (ldV s) (ldK s)).d, .int .i64 (S.go (ldV s) (ldK s)).k]) ∧
      (JS w1 w' y1 gw gs (n + 1) (ldS s S.ask) (S.go (ldV s) (ldK s)) F ∧ Keeps W Wl w') := by
  have hl := h.below hb
  obtain ⟨y, a, b, c, d, e⟩ := h.ex
  have hlt := a.lt
  have hgs : gs < W.heap.size := by obtain ⟨cs, hr, _⟩ := h.sn; exact hr.lt
  have hsn := hl.sn
  rw [← b] at hsn
  refine (sstep_any (a.below hb) h.lds.ok hsn d G).mono ?_
  rintro e' w' ⟨rfl, y2, hm2, hsn2, t⟩
  rw [b] at hsn2
  have hgw := hl.wk.lt
  refine ⟨rfl, ⟨⟨y2, hm2, t.g.trans b, fun k hk => ?_, fun hf => ?_, fun hf => ?_⟩, hsn2, hl.wk.but t.but (fun hf => hf.elim e (fun e2 => h.ne e2.symm)), ?_, h.ne, h.gs, hl.but.trans t.but fun q hq => ?_⟩, fun k hk hk' => t.but.block k hk' (fun hf => ?_)⟩
  · rcases t.fp k hk with h2 | h2
    · exact c k h2
    · exact .inr (Nat.le_trans hl.but.size h2)
  · rcases t.fp gs hf with h2 | h2
    · exact d h2
    · have := hb.size; omega
  · rcases t.fp gw hf with h2 | h2
    · exact e h2
    · omega
  · have hs : (ldS s S.ask).nl = s.nl := by unfold ldS; split <;> rfl
    rw [hs]
    exact h.lds.load hn _
  · rcases hq with h2 | h2
    · exact (c q h2).imp .inl id
    · exact .inr (by rw [h2]; exact h.gs)
  · rcases hf with h2 | h2
    · have := hlt k h2
      omega
    · omega
end
section
variable {w1 : World} {y1 : Lay} {gw : Nat} {s0 : St} {cl key lev : Int} {a n0 : Nat}
def F0 (y1 : Lay) (gw : Nat) (cl key lev : Int) : WF := WF.new (some ⟨y1.g, 0, none⟩) cl key lev gw
def F1 (y1 : Lay) (gw gs : Nat) (cl key lev : Int) (a : Nat) : WF := { (F0 y1 gw cl key lev).come gw gs (a : Int) with th := nextV 38 gw }
def kE (N : Nd) (lev : Int) : Int := if N.l < lev then 5 else 0
def F2 (y1 : Lay) (gw gs : Nat) (cl key lev : Int) (a : Nat) (N : Nd) : WF := { (({ F1 y1 gw gs cl key lev a with ends := kE N lev } : WF).seen N 0 false) with d := true, k := kE N lev }
/-- Where a walk looks, step by step. -/
def askN (V K : Nat → Int) (a : Nat) : Nat → Nat
  | 0 => 16
  | t + 1 => (SS.it V K t (SS.new a)).ask
def sN (s0 : St) (a : Nat) : Nat → St
  | 0 => s0
  | t + 1 => ldS (sN s0 a t) (askN (ldV s0) (ldK s0) a t)
theorem ldS_vw (s : St) (A : Nat) : (ldS s A).view = s.view ∧ (ldS s A).nl = s.nl := by
  unfold ldS
  split <;> exact ⟨rfl, rfl⟩
theorem sN_vw (s0 : St) (a : Nat) : ∀ t, (sN s0 a t).view = s0.view ∧ (sN s0 a t).nl = s0.nl
  | 0 => ⟨rfl, rfl⟩
  | t + 1 => by
    obtain ⟨h1, h2⟩ := sN_vw s0 a t
    have h3 := ldS_vw (sN s0 a t) (askN (ldV s0) (ldK s0) a t)
    exact ⟨h3.1.trans h1, h3.2.trans h2⟩
theorem sN_val (s0 : St) (a t : Nat) : ldV (sN s0 a t) = ldV s0 ∧ ldK (sN s0 a t) = ldK s0 := by
  obtain ⟨h1, h2⟩ := sN_vw s0 a t
  constructor <;> funext A
  · unfold ldV
    rw [h1, h2]
  · unfold ldK
    rw [h2]
/-- Behind so many steps. -/
def JW (w1 : World) (y1 : Lay) (gw n0 : Nat) (s0 : St) (cl key lev : Int) (a T : Nat) (N : Nd) (i : Nat) (W : World) : Prop :=
  (i = 0 ∧ JB w1 W y1 gw n0 s0 (F0 y1 gw cl key lev)) ∨
  (1 ≤ i ∧ i ≤ T ∧ ∃ gs, JS w1 W y1 gw gs (n0 + i) (sN s0 a i) (SS.it (ldV s0) (ldK s0) (i - 1) (SS.new a)) (F1 y1 gw gs cl key lev a)) ∨
  (i = T + 1 ∧ ∃ gs, JB w1 W y1 gw (n0 + i) (sN s0 a i) (F2 y1 gw gs cl key lev a N))
variable {T : Nat} {N : Nd} {S' : SS}
theorem JW.jb {i : Nat} {W : World} (h : JW w1 y1 gw n0 s0 cl key lev a T N i W) : ∃ F, JB w1 W y1 gw (n0 + i) (sN s0 a i) F := by
  rcases h with ⟨rfl, h⟩ | ⟨_, _, gs, h⟩ | ⟨_, gs, h⟩
  · exact ⟨_, h⟩
  · exact ⟨_, h.toJB⟩
  · exact ⟨_, h⟩
theorem JW.below {i : Nat} {W W' : World} (h : JW w1 y1 gw n0 s0 cl key lev a T N i W) (hb : Below W.heap.size W W') : JW w1 y1 gw n0 s0 cl key lev a T N i W' := by
  rcases h with ⟨h0, h⟩ | ⟨h1, h2, gs, h⟩ | ⟨h1, gs, h⟩
  · exact .inl ⟨h0, h.below hb⟩
  · exact .inr (.inl ⟨h1, h2, gs, h.below hb⟩)
  · exact .inr (.inr ⟨h1, gs, h.below hb⟩)
theorem callB : ∀ (w : World) (v : Value), (callFunc 20 #[v]).run Tryz.prog w = .ok (.enter 20 #[v]) w := fun w v => enters_of Tryz.func20 (by kernel_rfl) rfl #[v] w
theorem callG : ∀ (w : World) (v : Value), (callFunc 60 #[v]).run Tryz.prog w = .ok (.enter 60 #[v]) w := fun w v => enters_of Tryz.func60 (by kernel_rfl) rfl #[v] w
theorem callS : ∀ (w : World) (v : Value), (callFunc 38 #[v]).run Tryz.prog w = .ok (.enter 38 #[v]) w := fun w v => enters_of Tryz.func38 (by kernel_rfl) rfl #[v] w
end
end Go.Proofs.YtpjlajkjknkbaaaGreatDoor
/- Where a walk is done, as it tells: At, High, Hop; no conditions. -/
namespace Go.Proofs.YtpjlajkjknkbaaaGreatDoor
open Go.RowKit
set_option linter.unusedVariables false
attribute [local go_sem] Oper.semAt_some
def plZ : List Value := plV 0 zeroNd 0 false
theorem results_pl {fn : Func} {p u : Tmp} (h : fn.results = #[.cell p 71, .tmp u]) (tmps : Array Value) (w : World) (g : Nat) (vs : List Value) (hl : vs.length = 24)
    (hp : tmps.getD p undef = .pointer (some ⟨g, 0, none⟩)) (hg : Row w g 71 vs.toArray) :
    (results fn tmps).run Tryz.prog w = .ok (.tuple #[.agg vs.toArray, tmps.getD u undef]) w := by
  have hr : w.rangeAt g 0 vs := fun j v hv => by rw [Nat.zero_add, hg.cell, List.getElem?_toArray]; exact hv
  have hv := run_loadVar_mid w g 0 71 vs _ hr Tryz.underlying71 rfl (by rw [hl]; exact plI)
  rw [results_cell_tmp h tmps Tryz.prog w, hp]
  simp [asAddr, hv]
theorem results_tct {fn : Func} {p u v : Tmp} (h : fn.results = #[.tmp u, .cell p 69, .tmp v]) (tmps : Array Value) (w : World) (g : Nat) (n : Nd)
    (hp : tmps.getD p undef = .pointer (some ⟨g, 0, none⟩)) (hg : NdAt w g n) :
    (results fn tmps).run Tryz.prog w = .ok (.tuple #[tmps.getD u undef, n.V, tmps.getD v undef]) w := by
  have hv := run_loadVar_mid w g 0 69 n.cl _ (ndR hg) Tryz.underlying69 rfl ndI
  have hp' : tmps[p]?.getD undef = .pointer (some ⟨g, 0, none⟩) := by simpa using hp
  simp only [results, h]
  simp [Sem.run_bind, Result.andThen, hp', asAddr, hv]
theorem step_storePl {ops : Array Oper} {o : Oper} {a : Act} {w : World} {K : Act → World → Prop} {Q : Exit → Act → World → Prop} {E : Prop} (hw : Region.wanted o (yielded ops a.tmps) = true) (x y : Operand) (ho : o.op = .store 71 x y)
    (g : Nat) (vs : List Value) (old : Array Value) (hx : a.eval x = .pointer (some ⟨g, 0, none⟩)) (hy : a.eval y = .agg vs.toArray) (hr : Row w g 71 old) (hold : old.size = 24) (hl : vs.length = 24) (h1 : ∀ v ∈ vs, v.oneCell' = true)
    (h : ∀ w', Row w' g 71 vs.toArray → (∀ B, B ≤ g → B ≤ w.heap.size → Below B w w') → (∀ k, k ≠ g → w'.heap[k]? = w.heap[k]?) → K (a.put o.dst undef) w') : if Region.wanted o (yielded ops a.tmps) = true then Oper.wp Tryz.prog o a w K Q else E := by
  rw [if_pos hw]
  refine wp_store_row 71 x y ho g vs.toArray hx hy 71 old hr (by rw [List.size_toArray, hl]; exact plI) (by rw [hold, List.size_toArray, hl]) (all_oneCell_toArray h1) ?_
  exact h _ (hr.setRow _) (fun B hB hB2 => below_setRow (Below.refl _ _) hB _) (fun k hk => setRow_other w g k _ hk)
/-- Told: a place and a code. -/
def TellP (w : World) (vs : List Value) (k : Int) (e : Ending) (w' : World) : Prop := e = .returned (.tuple #[.agg vs.toArray, .int .i64 k]) ∧ Below w.heap.size w w'
set_option maxRecDepth 100000 in
set_option maxHeartbeats 1600000 in
theorem told_done {w : World} {g f : Nat} {s : WF} (h : WkAt w g s) (hn : s.nx = nextV f g) (hd : s.d = true) (hk : s.k = 0 ∨ s.k = 5) : Calls Tryz.prog 39 #[.pointer (some ⟨g, 0, none⟩)] w (TellP w (plV s.at_ s.n s.hi s.has) s.k) := by
  have mixed : Tryz.prog.follows .mixedOrders = true := by kernel_rfl
  have c4 : w.cell? ⟨g, 4, none⟩ = some s.nx := Row.cell h 4
  have c36 : w.cell? ⟨g, 36, none⟩ = some (.bool s.d) := Row.cell h 36
  have c37 : w.cell? ⟨g, 37, none⟩ = some (.int .i64 s.k) := Row.cell h 37
  rw [hn] at c4
  rw [hd] at c36
  unfold nextV at c4
  have q1 := fun w => eqFnR w f #[.pointer (some ⟨g, 0, none⟩)] #[]
  have q2 := fun w => guardFnR w f #[.pointer (some ⟨g, 0, none⟩)] #[] (.tmp 11)
  obtain ⟨vs, hvs⟩ : ∃ vs, vs = plV s.at_ s.n s.hi s.has := ⟨_, rfl⟩
  have hlen : vs.length = 24 := by rw [hvs]; rfl
  have hone : ∀ v ∈ vs, v.oneCell' = true := by rw [hvs]; exact plV_one _ _ _ _
  obtain ⟨W1, hW1⟩ : ∃ W1, W1 = w.alloc (.cells plZ.toArray 71) := ⟨_, rfl⟩
  have hb1 : Below w.heap.size w W1 := by rw [hW1]; exact alloc_low _ _
  have HRG := Lib.hid (show ∀ W, WkAt W g s ∧ W.cell? ⟨g, 37, none⟩ = some (.int .i64 s.k) → W.rangeAt g 8 vs from fun W hW j v hv => by
    have h1 := hW.1
    rw [hvs] at hv
    have hj := (List.getElem?_eq_some_iff.1 hv).1
    rw [Row.cell h1, List.getElem?_toArray, WF.cells_pl, List.getElem?_append_right (by show 8 ≤ 8 + j; omega), show 8 + j - s.pre.length = j by show 8 + j - 8 = j; omega, List.getElem?_append_left hj]
    exact hv)
  have HS1 := Lib.hid (show ∀ W, Below W1.heap.size W1 W → WkAt W g s ∧ W.cell? ⟨g, 37, none⟩ = some (.int .i64 s.k) from fun W hW => by
    have h1 := (h.below hb1).below hW
    exact ⟨h1, Row.cell h1 37⟩)
  rw [← hvs]
  have HL := Lib.hid hlen
  have HO := Lib.hid hone
  have HB1 := Lib.hid hb1
  have HRW := Lib.hid (show Row W1.drew w.heap.size 71 plZ.toArray from (show Row W1 w.heap.size 71 plZ.toArray by rw [hW1]; exact Row.new _ _ _))
  obtain ⟨k, hkk⟩ : ∃ k, k = s.k := ⟨_, rfl⟩
  rw [← hkk] at c37 hk HRG HS1 ⊢
  have hg := h.lt
  have hne : g ≠ w.heap.size := by omega
  have HW1 := Lib.hid hW1
  clear h hn hd hvs hlen hone hb1 hW1 hkk
  rcases hk with rfl | rfl
  · go_enter Tryz.func39, Tryz.ntmps39
    go_upto_region 6 with (fail)
    have HWW := HW1.out
    unfold plZ plV zeroNd Nd.cl uw at HWW
    simp only [List.cons_append, List.nil_append] at HWW
    rw [← HWW]
    clear HWW c4 c36 c37 q1 q2
    refine wp_region_noPanic ?_
    refine wp_region_held_drew (S := fun W => WkAt W g s ∧ W.cell? ⟨g, 37, none⟩ = some (.int .i64 0)) (by kernel_rfl) (HS1.out _ (drew_below _)) (fun hHeld => ?_)
    refine wpAnyH_take (i := 0) (oi := ⟨some 37, _, _, _, _, _⟩) (v := .pointer (some ⟨g, 0, none⟩)) rfl (by kernel_rfl) (by kernel_rfl) (by kernel_rfl) (fun _ _ _ h => h) (Or.inl ⟨by kernel_rfl, by intro WW hSw; (try dsimp only at hSw); go_simp⟩) (by assumption) ?_
    (try simp only [Act.put, List.setIfInBounds_toArray, List.set_cons_zero, List.set_cons_succ])
    refine wpAnyH_take (i := 1) (oi := ⟨some 38, _, _, _, _, _⟩) (v := .pointer (some ⟨g, 0, none⟩)) rfl (by kernel_rfl) (by kernel_rfl) (by kernel_rfl) (fun _ _ _ h => h) (Or.inl ⟨by kernel_rfl, by intro WW hSw; (try dsimp only at hSw); go_simp⟩) (by assumption) ?_
    (try simp only [Act.put, List.setIfInBounds_toArray, List.set_cons_zero, List.set_cons_succ])
    refine wpAnyH_take (i := 2) (oi := ⟨some 39, _, _, _, _, _⟩) (v := .pointer (some ⟨g, 8, none⟩)) rfl (by kernel_rfl) (by kernel_rfl) (by kernel_rfl) (fun _ _ _ h => h) (Or.inl ⟨by kernel_rfl, by intro WW hSw; (try dsimp only at hSw); go_simp⟩) (by assumption) ?_
    (try simp only [Act.put, List.setIfInBounds_toArray, List.set_cons_zero, List.set_cons_succ])
    refine wpAnyH_take (i := 3) (oi := ⟨some 40, _, _, _, _, _⟩) (v := .agg vs.toArray) rfl (by kernel_rfl) (by kernel_rfl) (by kernel_rfl) (fun _ _ _ h => h) (yieldsIf_load_mid (by rfl) _ _ rfl g 8 rfl vs _ HRG.out Tryz.underlying71 rfl (by rw [HL.out]; exact plI)) (by assumption) ?_
    (try simp only [Act.put, List.setIfInBounds_toArray, List.set_cons_zero, List.set_cons_succ])
    refine wpAnyH_take (i := 4) (oi := ⟨some 41, _, _, _, _, _⟩) (v := .pointer (some ⟨g, 0, none⟩)) rfl (by kernel_rfl) (by kernel_rfl) (by kernel_rfl) (fun _ _ _ h => h) (Or.inl ⟨by kernel_rfl, by intro WW hSw; (try dsimp only at hSw); go_simp⟩) (by assumption) ?_
    (try simp only [Act.put, List.setIfInBounds_toArray, List.set_cons_zero, List.set_cons_succ])
    refine wpAnyH_take (i := 5) (oi := ⟨some 42, _, _, _, _, _⟩) (v := .pointer (some ⟨g, 0, none⟩)) rfl (by kernel_rfl) (by kernel_rfl) (by kernel_rfl) (fun _ _ _ h => h) (Or.inl ⟨by kernel_rfl, by intro WW hSw; (try dsimp only at hSw); go_simp⟩) (by assumption) ?_
    (try simp only [Act.put, List.setIfInBounds_toArray, List.set_cons_zero, List.set_cons_succ])
    refine wpAnyH_take (i := 6) (oi := ⟨some 43, _, _, _, _, _⟩) (v := .pointer (some ⟨g, 37, none⟩)) rfl (by kernel_rfl) (by kernel_rfl) (by kernel_rfl) (fun _ _ _ h => h) (Or.inl ⟨by kernel_rfl, by intro WW hSw; (try dsimp only at hSw); go_simp⟩) (by assumption) ?_
    (try simp only [Act.put, List.setIfInBounds_toArray, List.set_cons_zero, List.set_cons_succ])
    refine wpAnyH_take (i := 7) (oi := ⟨some 44, _, _, _, _, _⟩) (v := .int .i64 0) rfl (by kernel_rfl) (by kernel_rfl) (by kernel_rfl) (fun _ _ _ h => h) (Or.inl ⟨by kernel_rfl, by intro WW hSw; (try dsimp only at hSw); go_simp⟩) (by assumption) ?_
    (try simp only [Act.put, List.setIfInBounds_toArray, List.set_cons_zero, List.set_cons_succ])
    refine wpAnyH_one (i := 8) (oi := ⟨none, _, _, _, _, _⟩) rfl (by kernel_rfl) (fun K hK => ?_)
    refine step_storePl (by rfl) (.tmp 2) (.tmp 40) (by rfl) w.heap.size vs _ (by rfl) (by rfl) HRW.out rfl HL.out HO.out ?_
    intro w5 hr5 hb5 hk5
    have HR5 := Lib.hid hr5
    have HB5 := Lib.hid ((low_and HB1.out (drew_below W1)).trans (hb5 _ (Nat.le_refl _) (low_and HB1.out (drew_below W1)).size))
    have hr6 : WkAt w5 g s := (hk5 g hne).trans (HS1.out _ (drew_below W1)).1
    refine hK _ _ ⟨hr6, (Row.cell hr6 37).trans ((Row.cell (HS1.out _ (drew_below W1)).1 37).symm.trans (HS1.out _ (drew_below W1)).2)⟩ (fun hSn => ?_)
    clear hK K hr5 hb5 hk5 hr6
    (try simp only [Act.put, List.setIfInBounds_toArray, List.set_cons_zero, List.set_cons_succ])
    refine wpAnyH_take (i := 9) (oi := ⟨some 3, _, _, _, _, _⟩) (v := .int .i64 0) rfl (by kernel_rfl) (by kernel_rfl) (by kernel_rfl) (fun _ _ _ h => h) (Or.inl ⟨by kernel_rfl, by intro WW hSw; (try dsimp only at hSw); go_simp⟩) (by assumption) ?_
    (try simp only [Act.put, List.setIfInBounds_toArray, List.set_cons_zero, List.set_cons_succ])
    refine wpAnyH_done (by kernel_rfl) ?_ _
    clear hSn hHeld
    go_wp2_with fail
    refine (‹∀ (a : Act) (w : World), Code.wp Tryz.prog _ _ a w → _›) _ _ ?_
    go_wp2_with fail
    refine bodyPost_ret (results_pl rfl _ _ w.heap.size vs HL.out rfl HR5.out) rfl ⟨rfl, HB5.out⟩
  · go_enter Tryz.func39, Tryz.ntmps39
    go_upto_region 6 with (fail)
    have HWW := HW1.out
    unfold plZ plV zeroNd Nd.cl uw at HWW
    simp only [List.cons_append, List.nil_append] at HWW
    rw [← HWW]
    clear HWW c4 c36 c37 q1 q2
    refine wp_region_noPanic ?_
    refine wp_region_held_drew (S := fun W => WkAt W g s ∧ W.cell? ⟨g, 37, none⟩ = some (.int .i64 5)) (by kernel_rfl) (HS1.out _ (drew_below _)) (fun hHeld => ?_)
    refine wpAnyH_take (i := 0) (oi := ⟨some 37, _, _, _, _, _⟩) (v := .pointer (some ⟨g, 0, none⟩)) rfl (by kernel_rfl) (by kernel_rfl) (by kernel_rfl) (fun _ _ _ h => h) (Or.inl ⟨by kernel_rfl, by intro WW hSw; (try dsimp only at hSw); go_simp⟩) (by assumption) ?_
    (try simp only [Act.put, List.setIfInBounds_toArray, List.set_cons_zero, List.set_cons_succ])
    refine wpAnyH_take (i := 1) (oi := ⟨some 38, _, _, _, _, _⟩) (v := .pointer (some ⟨g, 0, none⟩)) rfl (by kernel_rfl) (by kernel_rfl) (by kernel_rfl) (fun _ _ _ h => h) (Or.inl ⟨by kernel_rfl, by intro WW hSw; (try dsimp only at hSw); go_simp⟩) (by assumption) ?_
    (try simp only [Act.put, List.setIfInBounds_toArray, List.set_cons_zero, List.set_cons_succ])
    refine wpAnyH_take (i := 2) (oi := ⟨some 39, _, _, _, _, _⟩) (v := .pointer (some ⟨g, 8, none⟩)) rfl (by kernel_rfl) (by kernel_rfl) (by kernel_rfl) (fun _ _ _ h => h) (Or.inl ⟨by kernel_rfl, by intro WW hSw; (try dsimp only at hSw); go_simp⟩) (by assumption) ?_
    (try simp only [Act.put, List.setIfInBounds_toArray, List.set_cons_zero, List.set_cons_succ])
    refine wpAnyH_take (i := 3) (oi := ⟨some 40, _, _, _, _, _⟩) (v := .agg vs.toArray) rfl (by kernel_rfl) (by kernel_rfl) (by kernel_rfl) (fun _ _ _ h => h) (yieldsIf_load_mid (by rfl) _ _ rfl g 8 rfl vs _ HRG.out Tryz.underlying71 rfl (by rw [HL.out]; exact plI)) (by assumption) ?_
    (try simp only [Act.put, List.setIfInBounds_toArray, List.set_cons_zero, List.set_cons_succ])
    refine wpAnyH_take (i := 4) (oi := ⟨some 41, _, _, _, _, _⟩) (v := .pointer (some ⟨g, 0, none⟩)) rfl (by kernel_rfl) (by kernel_rfl) (by kernel_rfl) (fun _ _ _ h => h) (Or.inl ⟨by kernel_rfl, by intro WW hSw; (try dsimp only at hSw); go_simp⟩) (by assumption) ?_
    (try simp only [Act.put, List.setIfInBounds_toArray, List.set_cons_zero, List.set_cons_succ])
    refine wpAnyH_take (i := 5) (oi := ⟨some 42, _, _, _, _, _⟩) (v := .pointer (some ⟨g, 0, none⟩)) rfl (by kernel_rfl) (by kernel_rfl) (by kernel_rfl) (fun _ _ _ h => h) (Or.inl ⟨by kernel_rfl, by intro WW hSw; (try dsimp only at hSw); go_simp⟩) (by assumption) ?_
    (try simp only [Act.put, List.setIfInBounds_toArray, List.set_cons_zero, List.set_cons_succ])
    refine wpAnyH_take (i := 6) (oi := ⟨some 43, _, _, _, _, _⟩) (v := .pointer (some ⟨g, 37, none⟩)) rfl (by kernel_rfl) (by kernel_rfl) (by kernel_rfl) (fun _ _ _ h => h) (Or.inl ⟨by kernel_rfl, by intro WW hSw; (try dsimp only at hSw); go_simp⟩) (by assumption) ?_
    (try simp only [Act.put, List.setIfInBounds_toArray, List.set_cons_zero, List.set_cons_succ])
    refine wpAnyH_take (i := 7) (oi := ⟨some 44, _, _, _, _, _⟩) (v := .int .i64 5) rfl (by kernel_rfl) (by kernel_rfl) (by kernel_rfl) (fun _ _ _ h => h) (Or.inl ⟨by kernel_rfl, by intro WW hSw; (try dsimp only at hSw); go_simp⟩) (by assumption) ?_
    (try simp only [Act.put, List.setIfInBounds_toArray, List.set_cons_zero, List.set_cons_succ])
    refine wpAnyH_one (i := 8) (oi := ⟨none, _, _, _, _, _⟩) rfl (by kernel_rfl) (fun K hK => ?_)
    refine step_storePl (by rfl) (.tmp 2) (.tmp 40) (by rfl) w.heap.size vs _ (by rfl) (by rfl) HRW.out rfl HL.out HO.out ?_
    intro w5 hr5 hb5 hk5
    have HR5 := Lib.hid hr5
    have HB5 := Lib.hid ((low_and HB1.out (drew_below W1)).trans (hb5 _ (Nat.le_refl _) (low_and HB1.out (drew_below W1)).size))
    have hr6 : WkAt w5 g s := (hk5 g hne).trans (HS1.out _ (drew_below W1)).1
    refine hK _ _ ⟨hr6, (Row.cell hr6 37).trans ((Row.cell (HS1.out _ (drew_below W1)).1 37).symm.trans (HS1.out _ (drew_below W1)).2)⟩ (fun hSn => ?_)
    clear hK K hr5 hb5 hk5 hr6
    (try simp only [Act.put, List.setIfInBounds_toArray, List.set_cons_zero, List.set_cons_succ])
    refine wpAnyH_take (i := 9) (oi := ⟨some 3, _, _, _, _, _⟩) (v := .int .i64 5) rfl (by kernel_rfl) (by kernel_rfl) (by kernel_rfl) (fun _ _ _ h => h) (Or.inl ⟨by kernel_rfl, by intro WW hSw; (try dsimp only at hSw); go_simp⟩) (by assumption) ?_
    (try simp only [Act.put, List.setIfInBounds_toArray, List.set_cons_zero, List.set_cons_succ])
    refine wpAnyH_done (by kernel_rfl) ?_ _
    clear hSn hHeld
    go_wp2_with fail
    refine (‹∀ (a : Act) (w : World), Code.wp Tryz.prog _ _ a w → _›) _ _ ?_
    go_wp2_with fail
    refine bodyPost_ret (results_pl rfl _ _ w.heap.size vs HL.out rfl HR5.out) rfl ⟨rfl, HB5.out⟩
theorem plV_low {w : World} {at_ hi : Int} {n : Nd} {has : Bool} {b : Nat} (h : Row w b 71 (plV at_ n hi has).toArray) : w.rangeAt b 1 n.cl := fun j v hv => by
  have hj := (List.getElem?_eq_some_iff.1 hv).1
  rw [h.cell, List.getElem?_toArray, show 1 + j = j + 1 by omega]
  show (n.cl ++ _)[j]? = _
  rw [List.getElem?_append_left hj]
  exact hv
end Go.Proofs.YtpjlajkjknkbaaaGreatDoor
/- At, of whatever is told; no conditions. -/
namespace Go.Proofs.YtpjlajkjknkbaaaGreatDoor
open Go.RowKit
set_option linter.unusedVariables false
attribute [local go_sem] Oper.semAt_some
theorem step_storeNd {ops : Array Oper} {o : Oper} {a : Act} {w : World} {K : Act → World → Prop} {Q : Exit → Act → World → Prop} {E : Prop} (hw : Region.wanted o (yielded ops a.tmps) = true) (x y : Operand) (ho : o.op = .store 69 x y)
    (g : Nat) (vs : List Value) (old : Array Value) (hx : a.eval x = .pointer (some ⟨g, 0, none⟩)) (hy : a.eval y = .agg vs.toArray) (hr : Row w g 69 old) (hold : old.size = 21) (hl : vs.length = 21) (h1 : ∀ v ∈ vs, v.oneCell' = true)
    (h : ∀ w', Row w' g 69 vs.toArray → (∀ B, B ≤ g → B ≤ w.heap.size → Below B w w') → (∀ k, k ≠ g → w'.heap[k]? = w.heap[k]?) → K (a.put o.dst undef) w') : if Region.wanted o (yielded ops a.tmps) = true then Oper.wp Tryz.prog o a w K Q else E := by
  rw [if_pos hw]
  refine wp_store_row 69 x y ho g vs.toArray hx hy 69 old hr (by rw [List.size_toArray, hl]; exact ndI) (by rw [hold, List.size_toArray, hl]) (all_oneCell_toArray h1) ?_
  exact h _ (hr.setRow _) (fun B hB hB2 => below_setRow (Below.refl _ _) hB _) (fun k hk => setRow_other w g k _ hk)
set_option maxRecDepth 100000 in
set_option maxHeartbeats 3200000 in
theorem wkAt_of {w : World} {x : Option Addr} {at_ hi k : Int} {n : Nd} {has : Bool} (HT : ∀ W, Below w.heap.size w W → Calls Tryz.prog 39 #[.pointer x] W (TellP W (plV at_ n hi has) k)) :
    Calls Tryz.prog 21 #[.pointer x] w fun e w' => e = .returned (.tuple #[.int .u64 at_, n.V, .int .i64 k]) ∧ Below w.heap.size w w' := by
  have mixed : Tryz.prog.follows .mixedOrders = true := by kernel_rfl
  obtain ⟨W0, hW0⟩ : ∃ W0, W0 = w.alloc (.cells zeroNd.cl.toArray 69) := ⟨_, rfl⟩
  have hb0 : Below w.heap.size w W0 := by rw [hW0]; exact alloc_low _ _
  have HT := Lib.hid (HT W0 hb0)
  have HR0 := Lib.hid (show NdAt W0 w.heap.size zeroNd from by rw [hW0]; exact Row.new _ _ _)
  have HB0 := Lib.hid hb0
  obtain ⟨vs, hvs⟩ : ∃ vs, vs = plV at_ n hi has := ⟨_, rfl⟩
  rw [← hvs] at HT
  have HVO := Lib.hid (show ∀ v ∈ vs, v.oneCell' = true by rw [hvs]; exact plV_one _ _ _ _)
  have HVL := Lib.hid (show vs.length = 24 by rw [hvs]; rfl)
  have HVS := Lib.hid hvs
  have HW0 := Lib.hid hW0
  clear hvs hb0 hW0
  go_enter Tryz.func21, Tryz.ntmps21
  go_upto_region 1 with (fail)
  have HWW := HW0.out
  unfold zeroNd Nd.cl uw at HWW
  rw [← HWW]
  clear HWW
  go_wp2_with fail
  refine HT.out.mono ?_
  rintro e w1 ⟨rfl, hb1⟩
  have HB1 := Lib.hid (Below.and HB0.out hb1)
  have HR1 := Lib.hid (HR0.out.below hb1 HR0.out.lt)
  clear hb1 HT
  go_upto_region 2 with (first
    | ((with_reducible refine show_storePl ?_); refine wpList_store_row rfl _ _ _ rfl w1.heap.size vs rfl rfl (Row.new w1 71 plZ.toArray) (by rw [HVL.out]; rfl) (by rw [HVL.out]; exact plI) HVO.out ?_))
  obtain ⟨W2, hW2⟩ : ∃ W2, W2 = (w1.alloc (.cells plZ.toArray 71)).setCells w1.heap.size 0 vs := ⟨_, rfl⟩
  have hr2 : Row W2 w1.heap.size 71 vs.toArray := by rw [hW2]; exact row_setCells (Row.new w1 71 plZ.toArray) (by rw [HVL.out]; rfl)
  have hb2 : Below w1.heap.size w1 W2 := by rw [hW2]; exact setCells_low vs (Nat.le_refl _) (alloc_low _ _)
  unfold plZ plV zeroNd Nd.cl uw at hW2
  simp only [List.cons_append, List.nil_append] at hW2
  rw [← hW2]
  rw [HVS.out] at hr2
  have HB2 := Lib.hid (Below.and HB1.out hb2)
  have HN2 := Lib.hid (HR1.out.below hb2 HR1.out.lt)
  have hgn : w.heap.size < w1.heap.size := HR1.out.lt
  obtain ⟨g5, hg5⟩ : ∃ g5, g5 = w1.heap.size := ⟨_, rfl⟩
  rw [← hg5] at hr2 hgn ⊢
  have HR5 := Lib.hid hr2
  have HRG := Lib.hid (show ∀ W, Row W g5 71 (plV at_ n hi has).toArray ∧ W.cell? ⟨g5, 0, none⟩ = some (.int .u64 at_) → W.rangeAt g5 1 n.cl from fun W hW => plV_low hW.1)
  have STAY := Lib.hid (show ∀ W, Row W g5 71 (plV at_ n hi has).toArray → Row W g5 71 (plV at_ n hi has).toArray ∧ W.cell? ⟨g5, 0, none⟩ = some (.int .u64 at_) from fun W h => ⟨h, h.cell 0⟩)
  clear hW2 hr2 hb2 hg5
  refine wp_region_noPanic ?_
  refine wp_region_held_drew (S := fun W => Row W g5 71 (plV at_ n hi has).toArray ∧ W.cell? ⟨g5, 0, none⟩ = some (.int .u64 at_)) (by kernel_rfl) (STAY.out _ (HR5.out.below (drew_below W2) HR5.out.lt)) (fun hHeld => ?_)
  refine wpAnyH_take (i := 0) (oi := ⟨some 12, _, _, _, _, _⟩) (v := .pointer (some ⟨g5, 0, none⟩)) rfl (by kernel_rfl) (by kernel_rfl) (by kernel_rfl) (fun _ _ _ h => h) (Or.inl ⟨by kernel_rfl, by intro WW hSw; (try dsimp only at hSw); go_simp⟩) (by assumption) ?_
  (try simp only [Act.put, List.setIfInBounds_toArray, List.set_cons_zero, List.set_cons_succ])
  refine wpAnyH_take (i := 1) (oi := ⟨some 13, _, _, _, _, _⟩) (v := .int .u64 at_) rfl (by kernel_rfl) (by kernel_rfl) (by kernel_rfl) (fun _ _ _ h => h) (Or.inl ⟨by kernel_rfl, by intro WW hSw; (try dsimp only at hSw); go_simp⟩) (by assumption) ?_
  (try simp only [Act.put, List.setIfInBounds_toArray, List.set_cons_zero, List.set_cons_succ])
  refine wpAnyH_take (i := 2) (oi := ⟨some 14, _, _, _, _, _⟩) (v := .pointer (some ⟨g5, 1, none⟩)) rfl (by kernel_rfl) (by kernel_rfl) (by kernel_rfl) (fun _ _ _ h => h) (Or.inl ⟨by kernel_rfl, by intro WW hSw; (try dsimp only at hSw); go_simp⟩) (by assumption) ?_
  (try simp only [Act.put, List.setIfInBounds_toArray, List.set_cons_zero, List.set_cons_succ])
  refine wpAnyH_take (i := 3) (oi := ⟨some 15, _, _, _, _, _⟩) (v := .agg n.cl.toArray) rfl (by kernel_rfl) (by kernel_rfl) (by kernel_rfl) (fun _ _ _ h => h) (yieldsIf_load_mid (by rfl) _ _ rfl g5 1 rfl n.cl _ HRG.out Tryz.underlying69 rfl ndI) (by assumption) ?_
  (try simp only [Act.put, List.setIfInBounds_toArray, List.set_cons_zero, List.set_cons_succ])
  refine wpAnyH_take (i := 4) (oi := ⟨some 16, _, _, _, _, _⟩) (v := .int .i64 k) rfl (by kernel_rfl) (by kernel_rfl) (by kernel_rfl) (fun _ _ _ h => h) (Or.inl ⟨by kernel_rfl, by intro WW hSw; (try dsimp only at hSw); go_simp⟩) (by assumption) ?_
  (try simp only [Act.put, List.setIfInBounds_toArray, List.set_cons_zero, List.set_cons_succ])
  refine wpAnyH_take (i := 5) (oi := ⟨some 2, _, _, _, _, _⟩) (v := .int .u64 at_) rfl (by kernel_rfl) (by kernel_rfl) (by kernel_rfl) (fun _ _ _ h => h) (Or.inl ⟨by kernel_rfl, by intro WW hSw; (try dsimp only at hSw); go_simp⟩) (by assumption) ?_
  (try simp only [Act.put, List.setIfInBounds_toArray, List.set_cons_zero, List.set_cons_succ])
  refine wpAnyH_one (i := 6) (oi := ⟨none, _, _, _, _, _⟩) rfl (by kernel_rfl) (fun K hK => ?_)
  refine step_storeNd (by rfl) (.tmp 3) (.tmp 15) (by rfl) w.heap.size n.cl _ (by rfl) (by rfl) (HN2.out.below (drew_below W2) HN2.out.lt) rfl rfl (cl_one n) ?_
  intro w5 hr5 hb5 hk5
  have HR6 := Lib.hid hr5
  have HB5 := Lib.hid ((Below.and HB2.out (drew_below W2)).trans (hb5 _ (Nat.le_refl _) (Below.and HB2.out (drew_below W2)).size))
  refine hK _ _ (STAY.out _ ((hk5 g5 (by omega)).trans (HR5.out.below (drew_below W2) HR5.out.lt))) (fun hSn => ?_)
  clear hK K hr5 hb5 hk5
  (try simp only [Act.put, List.setIfInBounds_toArray, List.set_cons_zero, List.set_cons_succ])
  refine wpAnyH_take (i := 7) (oi := ⟨some 4, _, _, _, _, _⟩) (v := .int .i64 k) rfl (by kernel_rfl) (by kernel_rfl) (by kernel_rfl) (fun _ _ _ h => h) (Or.inl ⟨by kernel_rfl, by intro WW hSw; (try dsimp only at hSw); go_simp⟩) (by assumption) ?_
  (try simp only [Act.put, List.setIfInBounds_toArray, List.set_cons_zero, List.set_cons_succ])
  refine wpAnyH_done (by kernel_rfl) ?_ _
  clear hSn hHeld
  go_wp2_with fail
  refine (‹∀ (a : Act) (w : World), Code.wp Tryz.prog _ _ a w → _›) _ _ ?_
  go_wp2_with fail
  refine bodyPost_ret (results_tct rfl _ _ w.heap.size n rfl HR6.out) rfl ⟨rfl, HB5.out⟩
end Go.Proofs.YtpjlajkjknkbaaaGreatDoor
/- A walk's step, in a memory in which nobody stores, to a root at which it is done; conditions: as in what it is made of. -/
namespace Go.Proofs.YtpjlajkjknkbaaaGreatDoor
open Go.RowKit
set_option linter.unusedVariables false
/-- What must hold of the memory, the root, the walk. -/
structure WkOk (w1 : World) (y1 : Lay) (gw n0 : Nat) (s0 : St) (lev : Int) (a T : Nat) (N : Nd) (S' : SS) : Prop where
  fp : ∀ k, y1.fp k → k < w1.heap.size
  nl : 0 < s0.nl
  l0 : 0 ≤ lev
  l1 : lev ≤ 15
  rv : ldV s0 16 = (a : Int)
  rk : ldK s0 16 = 0
  ga : a < 18446744073709551616
  vb : ∀ A, 0 ≤ ldV s0 A ∧ ldV s0 A < 18446744073709551616
  goes : Goes (ldV s0) (ldK s0) (SS.new a) T S'
  d : S'.d = true
  k : S'.k = 0
  n : S'.n = N
  nx : N.nx = 0
  lv : N.l ≤ lev
  t1 : 1 ≤ T
  few : n0 + T ≤ 900000
section
variable {w1 W Wl W' : World} {y1 : Lay} {gw n0 a T i : Nat} {s0 : St} {cl key lev : Int} {N : Nd} {S' : SS}
theorem Keeps.but {w2 : World} (h : Keeps W Wl w2) (hb : But w2 W' (fun q => q = gw)) (hg : gw < W.heap.size) : Keeps W Wl W' := fun k h1 h2 => by
  have h3 := h k h1 h2
  have h4 : k < w2.heap.size := by
    by_cases h5 : k < w2.heap.size
    · exact h5
    · rw [Array.getElem?_eq_none (by omega), Array.getElem?_eq_getElem h2] at h3
      cases h3
  exact (hb.block k h4 (by omega)).trans h3
theorem JS.at_but {gs n : Nat} {s : St} {S : SS} {F : WF} (h : JS w1 W y1 gw gs n s S F) (hb : But W W' (fun q => q = gw)) : ∃ y, SnAt W' W' y gs s s n S := by
  obtain ⟨y, a, b, c, d, e⟩ := h.ex
  have h1 := h.sn
  rw [← b] at h1
  obtain ⟨cs, hr, hs⟩ := h1
  have hr2 := hb.row hr h.ne
  exact ⟨y, ⟨y, a.but hb (fun k hk e' => e (e' ▸ hk)), RT.of_below y gs (Below.refl _ _)⟩, ⟨cs, hr2, hs⟩, rfl, rfl, h.lds, d, hr2.lt⟩
theorem jw_begin (O : WkOk w1 y1 gw n0 s0 lev a T N S') (h : JB w1 W y1 gw n0 s0 (F0 y1 gw cl key lev)) (hb : Below W.heap.size W Wl) :
    Calls Tryz.prog 189 #[.pointer (some ⟨gw, 0, none⟩)] Wl fun e w' => e = .returned (.tuple #[.bool false, .int .i64 0]) ∧ JW w1 y1 gw n0 s0 cl key lev a T N 1 w' ∧ Keeps W Wl w' := by
  have hl := h.below hb
  have hgw := h.wk.lt
  have hz : SizeIs Wl (some ⟨y1.g, 0, none⟩) ((64 * s0.nl : Nat) : Int) := fun W2 hb2 => by
    obtain ⟨y, hm, hg, _⟩ := hl.ex
    have := size_yes (hm.below hb2)
    rw [hg] at this
    exact this
  have hwr : wrongK ((64 * s0.nl : Nat) : Int) lev = 0 := by
    unfold wrongK
    have := O.nl
    have := O.l0
    have := O.l1
    rw [if_neg (by omega), if_neg (by omega)]
  have HB : Calls Tryz.prog 20 #[.pointer (some ⟨gw, 0, none⟩)] Wl (BeginP Wl gw (F0 y1 gw cl key lev) (a : Int) (fun w' => JB w1 w' y1 gw (n0 + 1) (sN s0 a 1) (F0 y1 gw cl key lev) ∧ Keeps W Wl w') 0) := by
    refine wkBegin_any (s := F0 y1 gw cl key lev) hl.wk hz hwr fun W2 hb2 => ?_
    have h2 := hl.below hb2
    obtain ⟨y, hm, hg, hf, hsep⟩ := h.ex
    have hlt := hm.lt
    have hla := load_any ((hm.below hb).below hb2) h.lds.ok 16
    rw [hg, O.rv, O.rk] at hla
    refine hla.mono ?_
    rintro e w' ⟨rfl, y2, hm2, t⟩
    have hgw2 := h2.wk.lt
    have hwk : WkAt w' gw (F0 y1 gw cl key lev) := h2.wk.but t.but hsep
    refine ⟨rfl, ⟨⟨⟨y2, hm2, t.g.trans hg, fun k hk => ?_, fun hk => ?_⟩, hwk, ?_, h2.but.trans t.but fun q hq => (hf q hq).imp .inl id⟩, fun k h3 h4 => ?_⟩, hwk⟩
    · rcases t.fp k hk with h3 | h3
      · exact hf k h3
      · exact .inr (Nat.le_trans h2.but.size h3)
    · rcases t.fp gw hk with h3 | h3
      · exact hsep h3
      · omega
    · show Lds (ldS s0 16).nl (n0 + 1) (ldS s0 16)
      rw [(ldS_vw s0 16).2]
      exact h.lds.load (by have := O.few; omega) _
    · refine (t.but.block k (Nat.lt_of_lt_of_le h4 hb2.size) (fun hf2 => by have := hlt k hf2; omega)).trans (hb2.block k h4)
  have HS := wkStep_of (g := gw) (f := 20) (s := F0 y1 gw cl key lev) (d' := false) (D := false) (kk := 0) (R := fun w' s' => ∃ gs, s' = F1 y1 gw gs cl key lev a ∧ JS w1 w' y1 gw gs (n0 + 1) (sN s0 a 1) (SS.new a) s' ∧ Keeps W Wl w') callB hl.wk rfl rfl rfl (HB.mono (by
    rintro e w' ⟨rfl, w2, gs, ⟨hjb, hkp⟩, hgs, hwk, hrow, hbt⟩
    refine ⟨rfl, F1 y1 gw gs cl key lev a, hwk, rfl, gs, rfl, ?_, hkp.but hbt hgw⟩
    obtain ⟨y, hm, hg, hf, hsep⟩ := hjb.ex
    have hlt := hm.lt
    have hgw2 := hjb.wk.lt
    have hs1 := hjb.but.size
    refine ⟨⟨y, hm.but hbt (fun k hk e => hsep (e ▸ hk)), hg, hf, fun hk => by have := hlt gs hk; omega, hsep⟩, ⟨_, hrow, zeroS_is _ _ _⟩, hwk, hjb.lds, by omega, by omega, hjb.but.trans hbt fun q hq => .inl (.inr hq)⟩))
  refine HS.mono ?_
  rintro e w' ⟨rfl, w2, s', ⟨gs, rfl, hjs, hkp⟩, _, hwk, hbt⟩
  refine ⟨rfl, .inr (.inl ⟨Nat.le_refl _, O.t1, gs, ?_⟩), hkp.but hbt hgw⟩
  exact hjs.turn hbt hwk
theorem jw_stepK (O : WkOk w1 y1 gw n0 s0 lev a T N S') (h : JW w1 y1 gw n0 s0 cl key lev a T N i W) (hi : i ≤ T) (hb : Below W.heap.size W Wl) :
    Calls Tryz.prog 189 #[.pointer (some ⟨gw, 0, none⟩)] Wl fun e w' => e = .returned (.tuple #[.bool (decide (i = T)), .int .i64 (if i = T then kE N lev else 0)]) ∧ JW w1 y1 gw n0 s0 cl key lev a T N (i + 1) w' ∧ Keeps W Wl w' := by
  rcases h with ⟨rfl, h⟩ | ⟨h1, h2, gs, h⟩ | ⟨h1, _⟩
  · refine (jw_begin (cl := cl) (key := key) O h hb).mono ?_
    rintro e w' ⟨rfl, h3, h4⟩
    exact ⟨by rw [decide_eq_false (by have := O.t1; omega), if_neg (by have := O.t1; omega)], h3, h4⟩
  · obtain ⟨t, rfl⟩ : ∃ t, i = t + 1 := ⟨i - 1, by omega⟩
    rw [Nat.add_sub_cancel] at h
    have hgw := h.wk.lt
    have hl := h.below hb
    obtain ⟨S, hS⟩ : ∃ S, S = SS.it (ldV s0) (ldK s0) t (SS.new a) := ⟨_, rfl⟩
    have hv := sN_val s0 a (t + 1)
    have hG : S.Good := by rw [hS]; exact it_good O.vb (new_SGood O.ga) t (fun u hu => O.goes.on u (by omega))
    have hgo : S.go (ldV s0) (ldK s0) = SS.it (ldV s0) (ldK s0) (t + 1) (SS.new a) := by rw [hS]; rfl
    have hask : S.ask = askN (ldV s0) (ldK s0) a (t + 1) := by rw [hS]; rfl
    rw [← hS] at h hl
    have hst := h.step hb (by have := O.few; omega) hG O.fp
    rw [hv.1, hv.2, hgo, hask] at hst
    by_cases hlast : t + 1 = T
    · have e1 : SS.it (ldV s0) (ldK s0) (t + 1) (SS.new a) = S' := by rw [hlast]; exact O.goes.it
      rw [e1, O.d, O.k] at hst
      have hend := wkGoOn_then (g := gw) (gs := gs) (fT := 38) (s := F1 y1 gw gs cl key lev a) (k := kE N lev) (R := fun w' => WkAt w' gw (({ F1 y1 gw gs cl key lev a with ends := kE N lev } : WF).seen N 0 false) ∧ JB w1 w' y1 gw (n0 + (t + 1) + 1) (sN s0 a (t + 2)) (({ F1 y1 gw gs cl key lev a with ends := kE N lev } : WF).seen N 0 false) ∧ Keeps W Wl w') hl.wk rfl callS hst
        (fun w' hq => Row.cell hq.1.wk 6) (fun w' hq => by
          obtain ⟨hj, hkp⟩ := hq
          have hnl : 0 < (ldS (sN s0 a (t + 1)) (askN (ldV s0) (ldK s0) a (t + 1))).nl := by
            rw [(ldS_vw _ _).2, (sN_vw s0 a (t + 1)).2]
            exact O.nl
          have hnd : NodeIs w' gw gs N := fun W2 hb2 => by
            obtain ⟨y, hsa⟩ := hj.at_but hb2
            exact hsa.nodeD hnl O.d O.k O.n W2 (Below.refl _ _)
          have hhi : HighIs w' gw gs 0 false := fun W2 hb2 => by
            obtain ⟨y, hsa⟩ := hj.at_but hb2
            exact hsa.high0 hnl O.d O.k O.n (.inr O.nx) W2 (Below.refl _ _)
          refine (wkSeenRoot_done (s := F1 y1 gw gs cl key lev a) (k := kE N lev) hj.wk rfl hnd hhi (fun e => by cases e) O.lv rfl).mono ?_
          rintro e w'' ⟨rfl, hwk, hbt⟩
          exact ⟨rfl, hwk, hj.toJB.turn hbt hwk, hkp.but hbt hgw⟩)
      have hD : ((true : Bool) || (kE N lev != 0)) = true := rfl
      have HS := wkStep_of (g := gw) (f := 60) (s := F1 y1 gw gs cl key lev a) (d' := true) (D := true) (kk := kE N lev) (R := fun w' s' => s' = (({ F1 y1 gw gs cl key lev a with ends := kE N lev } : WF).seen N 0 false) ∧ JB w1 w' y1 gw (n0 + (t + 1) + 1) (sN s0 a (t + 2)) s' ∧ Keeps W Wl w') callG hl.wk rfl rfl hD (hend.mono (by
        rintro e w' ⟨rfl, hwk, hjb, hkp⟩
        exact ⟨rfl, _, hwk, rfl, rfl, hjb, hkp⟩))
      refine HS.mono ?_
      rintro e w' ⟨rfl, w2, s', ⟨rfl, hjb, hkp⟩, _, hwk, hbt⟩
      refine ⟨by rw [decide_eq_true hlast, if_pos hlast], .inr (.inr ⟨by omega, gs, ?_⟩), hkp.but hbt hgw⟩
      exact hjb.turn hbt hwk
    · have hd := O.goes.on (t + 1) (by omega)
      have hk : (SS.it (ldV s0) (ldK s0) (t + 1) (SS.new a)).k = 0 := by
        rw [← hgo] at hd ⊢
        exact next_k hd
      rw [hd, hk] at hst
      have hmore := wkGoOn_more (g := gw) (gs := gs) (s := F1 y1 gw gs cl key lev a) hl.wk rfl hst (.inl rfl)
      have HS := wkStep_of (g := gw) (f := 60) (s := F1 y1 gw gs cl key lev a) (d' := false) (D := false) (kk := 0) (R := fun w' s' => s' = F1 y1 gw gs cl key lev a ∧ JS w1 w' y1 gw gs (n0 + (t + 1) + 1) (sN s0 a (t + 2)) (SS.it (ldV s0) (ldK s0) (t + 1) (SS.new a)) s' ∧ Keeps W Wl w') callG hl.wk rfl rfl rfl (hmore.mono (by
        rintro e w' ⟨rfl, hjs, hkp⟩
        exact ⟨rfl, _, hjs.wk, rfl, rfl, hjs, hkp⟩))
      refine HS.mono ?_
      rintro e w' ⟨rfl, w2, s', ⟨rfl, hjs, hkp⟩, _, hwk, hbt⟩
      refine ⟨by rw [decide_eq_false hlast, if_neg hlast], .inr (.inl ⟨by omega, by omega, gs, ?_⟩), hkp.but hbt hgw⟩
      exact hjs.turn hbt hwk
  · omega
end
end Go.Proofs.YtpjlajkjknkbaaaGreatDoor
/- The law's done, of a walk in a memory in which nobody stores: so many steps, each of one primitive at most; conditions: as the walk's. -/
namespace Go.Proofs.YtpjlajkjknkbaaaGreatDoor
open Go.RowKit
set_option linter.unusedVariables false
attribute [local go_sem] Oper.semAt_some
end Go.Proofs.YtpjlajkjknkbaaaGreatDoor
