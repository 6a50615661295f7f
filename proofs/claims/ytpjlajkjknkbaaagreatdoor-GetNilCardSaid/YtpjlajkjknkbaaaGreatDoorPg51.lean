/- Texts of this claim, packed: Gt, Gu, Gn, Gq, Ga, Gv, Gw, Gy, Gz, Gx, Go. -/
import Derived.Test.YtpjlajkjknkbaaaGreatDoorPg50
import Derived.Test.YtpjlajkjknkbaaaGreatDoorPg43
import Derived.Test.YtpjlajkjknkbaaaGreatDoorPg49
import Derived.Test.YtpjlajkjknkbaaaGreatDoorPg33
import Derived.Test.YtpjlajkjknkbaaaGreatDoorPg24
/- A get's cells; New; its step, of whatever goes on under it; no conditions. -/
namespace Go.Proofs.YtpjlajkjknkbaaaGreatDoor
open Go.RowKit
set_option linter.unusedVariables false
attribute [local go_sem] Oper.semAt_some
/-- A get's state, as it lies. -/
structure GF where
  si : Option Addr
  cl : Int
  key : Int
  un : Value
  th : Value
  wk : Value
  st : Value
  at_ : Int
  tl : Value
  tr : Int
  d : Bool
  k : Int
  rc : Int
  rv : ByteArray
  rp : Value
def GF.cells (s : GF) : List Value := [.pointer s.si, .int .i64 s.cl, .int .u64 s.key, s.un, s.th, s.wk, s.st, .int .u64 s.at_, s.tl, .int .i64 s.tr, .bool s.d, .int .i64 s.k, .int .i64 s.rc, .string s.rv, s.rp]
def GtAt (w : World) (g : Nat) (s : GF) : Prop := Row w g 37 s.cells.toArray
theorem GtAt.lt {w : World} {g : Nat} {s : GF} (h : GtAt w g s) : g < w.heap.size := Row.lt h
theorem GtAt.below {w w' : World} {g : Nat} {s : GF} (h : GtAt w g s) (hb : Below w.heap.size w w') : GtAt w' g s := Row.below h hb (Row.lt h)
theorem GtAt.but {w w' : World} {g : Nat} {s : GF} {fp : Nat → Prop} (h : GtAt w g s) (hb : But w w' fp) (hn : ¬ fp g) : GtAt w' g s := hb.row h hn
theorem GtAt.under {w : World} {g : Nat} {s : GF} (h : GtAt w g s) (v : Value) : GtAt (w.setCell ⟨g, 3, none⟩ v) g { s with un := v } := Row.set h 3 v
theorem GtAt.then_ {w : World} {g : Nat} {s : GF} (h : GtAt w g s) (v : Value) : GtAt (w.setCell ⟨g, 4, none⟩ v) g { s with th := v } := Row.set h 4 v
theorem GtAt.walk {w : World} {g : Nat} {s : GF} (h : GtAt w g s) (v : Value) : GtAt (w.setCell ⟨g, 5, none⟩ v) g { s with wk := v } := Row.set h 5 v
theorem GtAt.still {w : World} {g : Nat} {s : GF} (h : GtAt w g s) (v : Value) : GtAt (w.setCell ⟨g, 6, none⟩ v) g { s with st := v } := Row.set h 6 v
theorem GtAt.ats {w : World} {g : Nat} {s : GF} (h : GtAt w g s) (v : Int) : GtAt (w.setCell ⟨g, 7, none⟩ (.int .u64 v)) g { s with at_ := v } := Row.set h 7 _
theorem GtAt.tell {w : World} {g : Nat} {s : GF} (h : GtAt w g s) (v : Value) : GtAt (w.setCell ⟨g, 8, none⟩ v) g { s with tl := v } := Row.set h 8 v
theorem GtAt.done {w : World} {g : Nat} {s : GF} (h : GtAt w g s) (v : Bool) : GtAt (w.setCell ⟨g, 10, none⟩ (.bool v)) g { s with d := v } := Row.set h 10 _
theorem GtAt.code {w : World} {g : Nat} {s : GF} (h : GtAt w g s) (v : Int) : GtAt (w.setCell ⟨g, 11, none⟩ (.int .i64 v)) g { s with k := v } := Row.set h 11 _
theorem gbut1 {w w' : World} {g : Nat} (h : But w w' (fun q => q = g)) (i : Nat) (v : Value) : But w (w'.setCell ⟨g, i, none⟩ v) (fun q => q = g) := h.set (p := ⟨g, i, none⟩) rfl v
theorem gtStep_nil (w : World) : Calls Tryz.prog 5 #[.pointer none] w fun e w' => e = .returned (.tuple #[.bool true, .int .i64 1]) ∧ w = w' := by
  go_enter Tryz.func5, Tryz.ntmps5
  go_wp2
  go_ret2
  exact ⟨rfl, rfl⟩
theorem gtStep_zero {w : World} {g : Nat} {s : GF} (h : GtAt w g s) (hn : s.un = .nilIface) : Calls Tryz.prog 5 #[.pointer (some ⟨g, 0, none⟩)] w fun e w' => e = .returned (.tuple #[.bool true, .int .i64 1]) ∧ w = w' := by
  have c3 : w.cell? ⟨g, 3, none⟩ = some s.un := Row.cell h 3
  rw [hn] at c3
  clear h hn
  go_enter Tryz.func5, Tryz.ntmps5
  go_wp2
  go_ret2
  exact ⟨rfl, rfl⟩
set_option maxRecDepth 100000 in
set_option maxHeartbeats 3200000 in
theorem gtStep_of {w : World} {g t : Nat} {v : Value} {s : GF} {D : Bool} {k : Int} {R : World → GF → Prop} (h : GtAt w g s) (hun : s.un = .iface t v) (hd : s.d = false)
    (H : Calls Tryz.prog 11 #[.pointer (some ⟨g, 0, none⟩)] w fun e w' => e = .returned (.tuple #[]) ∧ ∃ s', GtAt w' g s' ∧ s'.d = D ∧ s'.k = k ∧ R w' s') :
    Calls Tryz.prog 5 #[.pointer (some ⟨g, 0, none⟩)] w fun e w' => e = .returned (.tuple #[.bool D, .int .i64 k]) ∧ ∃ w1 s', R w1 s' ∧ GtAt w1 g s' ∧ Below w1.heap.size w1 w' := by
  have mixed : Tryz.prog.follows .mixedOrders = true := by kernel_rfl
  have c3 : w.cell? ⟨g, 3, none⟩ = some s.un := Row.cell h 3
  have c10 : w.cell? ⟨g, 10, none⟩ = some (.bool s.d) := Row.cell h 10
  rw [hun] at c3
  rw [hd] at c10
  have H := Lib.hid H
  clear h hun hd
  go_enter Tryz.func5, Tryz.ntmps5
  go_wp2_with fail
  refine H.out.mono ?_
  rintro e w1 ⟨rfl, s', h1, hd1, hk1, hR⟩
  have e10 : w1.cell? ⟨g, 10, none⟩ = some (.bool s'.d) := Row.cell h1 10
  have e11 : w1.cell? ⟨g, 11, none⟩ = some (.int .i64 s'.k) := Row.cell h1 11
  rw [hd1] at e10
  rw [hk1] at e11
  have HE := Lib.hid (show ∀ q : LowBy w1, ∃ w1 s', R w1 s' ∧ GtAt w1 g s' ∧ Below w1.heap.size w1 q.W from fun q => ⟨w1, s', hR, h1, q.low⟩)
  have ca := fun q : LowBy w1 => q.cell e10
  have cb := fun q : LowBy w1 => q.cell e11
  clear h1 hd1 hk1 hR H c3 c10 e10 e11
  go_wp2_with fail
  refine wp_region_quiet_low (by assumption) (by kernel_rfl) ?_
  repeat (go_big_quiet_step (fail))
  refine wpQuiet_nil ?_
  intro _ hw'
  obtain ⟨q, hw''⟩ := hw'
  subst hw''
  have HF := Lib.hid (HE.out q)
  clear ca cb HE
  go_wp2
  go_ret2
  exact ⟨rfl, HF.out⟩
set_option maxRecDepth 100000 in
set_option maxHeartbeats 3200000 in
theorem gtGoOn_more {w : World} {g gu t fS : Nat} {s : GF} {Q : World → Prop} (h : GtAt w g s) (hun : s.un = .iface t (.pointer (some ⟨gu, 0, none⟩)))
    (M1 : (method 382 t (.pointer (some ⟨gu, 0, none⟩)) "Step").run Tryz.prog w = .ok (fS, .pointer (some ⟨gu, 0, none⟩)) w)
    (hcall : ∀ (w : World) (v : Value), (callFunc fS #[v]).run Tryz.prog w = .ok (.enter fS #[v]) w)
    (HS : Calls Tryz.prog fS #[.pointer (some ⟨gu, 0, none⟩)] w fun e w' => e = .returned (.tuple #[.bool false, .int .i64 0]) ∧ Q w') :
    Calls Tryz.prog 11 #[.pointer (some ⟨g, 0, none⟩)] w fun e w' => e = .returned (.tuple #[]) ∧ Q w' := by
  have c3 : w.cell? ⟨g, 3, none⟩ = some s.un := Row.cell h 3
  rw [hun] at c3
  have HS := Lib.hid HS
  clear h hun
  go_enter Tryz.func11, Tryz.ntmps11
  go_wp2_with fail
  refine HS.out.mono ?_
  rintro e w1 ⟨rfl, hq⟩
  have HQ := Lib.hid hq
  clear hq M1 HS
  go_wp2
  go_end0
  exact ⟨rfl, HQ.out⟩
set_option maxRecDepth 100000 in
set_option maxHeartbeats 3200000 in
theorem gtGoOn_then {w : World} {g gu t fS fT : Nat} {s : GF} {k1 : Int} {Q R : World → Prop} (h : GtAt w g s) (hun : s.un = .iface t (.pointer (some ⟨gu, 0, none⟩)))
    (M1 : (method 382 t (.pointer (some ⟨gu, 0, none⟩)) "Step").run Tryz.prog w = .ok (fS, .pointer (some ⟨gu, 0, none⟩)) w)
    (hcall : ∀ (w : World) (v : Value), (callFunc fS #[v]).run Tryz.prog w = .ok (.enter fS #[v]) w)
    (hcallT : ∀ (w : World) (v u : Value), (callFunc fT #[v, u]).run Tryz.prog w = .ok (.enter fT #[v, u]) w)
    (HS : Calls Tryz.prog fS #[.pointer (some ⟨gu, 0, none⟩)] w fun e w' => e = .returned (.tuple #[.bool true, .int .i64 k1]) ∧ Q w')
    (hth : ∀ w', Q w' → w'.cell? ⟨g, 4, none⟩ = some (nextV fT g)) (HT : ∀ w', Q w' → Calls Tryz.prog fT #[.pointer (some ⟨g, 0, none⟩), .int .i64 k1] w' fun e w' => e = .returned (.int .i64 0) ∧ R w') :
    Calls Tryz.prog 11 #[.pointer (some ⟨g, 0, none⟩)] w fun e w' => e = .returned (.tuple #[]) ∧ R w' := by
  have c3 : w.cell? ⟨g, 3, none⟩ = some s.un := Row.cell h 3
  rw [hun] at c3
  have HS := Lib.hid HS
  have HTH := Lib.hid hth
  have HTT := Lib.hid HT
  clear h hun hth HT
  go_enter Tryz.func11, Tryz.ntmps11
  go_wp2_with fail
  refine HS.out.mono ?_
  rintro e w1 ⟨rfl, hq⟩
  have c4 := HTH.out w1 hq
  unfold nextV at c4
  have HC := Lib.hid (HTT.out w1 hq)
  clear hq M1 HS HTH HTT
  go_wp2_with fail
  refine HC.out.mono ?_
  rintro e w2 ⟨rfl, hr⟩
  have HR := Lib.hid hr
  clear hr HC
  go_wp2
  go_end0
  exact ⟨rfl, HR.out⟩
set_option maxRecDepth 100000 in
set_option maxHeartbeats 3200000 in
theorem gtGoOn_ends {w : World} {g gu t fS fT : Nat} {s : GF} {k1 k2 : Int} {Q P : World → Prop} (h : GtAt w g s) (hun : s.un = .iface t (.pointer (some ⟨gu, 0, none⟩)))
    (M1 : (method 382 t (.pointer (some ⟨gu, 0, none⟩)) "Step").run Tryz.prog w = .ok (fS, .pointer (some ⟨gu, 0, none⟩)) w)
    (hcall : ∀ (w : World) (v : Value), (callFunc fS #[v]).run Tryz.prog w = .ok (.enter fS #[v]) w)
    (hcallT : ∀ (w : World) (v u : Value), (callFunc fT #[v, u]).run Tryz.prog w = .ok (.enter fT #[v, u]) w)
    (HS : Calls Tryz.prog fS #[.pointer (some ⟨gu, 0, none⟩)] w fun e w' => e = .returned (.tuple #[.bool true, .int .i64 k1]) ∧ Q w')
    (hth : ∀ w', Q w' → w'.cell? ⟨g, 4, none⟩ = some (nextV fT g)) (hk : k2 ≠ 0)
    (HT : ∀ w', Q w' → Calls Tryz.prog fT #[.pointer (some ⟨g, 0, none⟩), .int .i64 k1] w' fun e w2 => e = .returned (.int .i64 k2) ∧ GtAt w2 g s ∧ P w2) :
    Calls Tryz.prog 11 #[.pointer (some ⟨g, 0, none⟩)] w fun e w' => e = .returned (.tuple #[]) ∧ GtAt w' g { s with d := true, k := k2, rc := k2, rv := ⟨#[]⟩, rp := .slice none 0 0 } ∧ ∃ w2, P w2 ∧ But w2 w' (fun q => q = g) := by
  have c3 : w.cell? ⟨g, 3, none⟩ = some s.un := Row.cell h 3
  rw [hun] at c3
  have HS := Lib.hid HS
  have HTH := Lib.hid hth
  have HTT := Lib.hid HT
  have k20 : (k2 != 0) = true := by simpa using hk
  clear h hun hth HT hk
  go_enter Tryz.func11, Tryz.ntmps11
  go_wp2_with fail
  refine HS.out.mono ?_
  rintro e w1 ⟨rfl, hq⟩
  have c4 := HTH.out w1 hq
  unfold nextV at c4
  have HC := Lib.hid (HTT.out w1 hq)
  clear hq M1 HS HTH HTT
  go_wp2_with fail
  refine HC.out.mono ?_
  rintro e w2 ⟨rfl, hr, hb⟩
  have HR := Lib.hid hr
  have HB := Lib.hid hb
  have e10 : w2.cell? ⟨g, 10, none⟩ = some (.bool s.d) := Row.cell hr 10
  have e11 : w2.cell? ⟨g, 11, none⟩ = some (.int .i64 s.k) := Row.cell hr 11
  have e12 : w2.cell? ⟨g, 12, none⟩ = some (.int .i64 s.rc) := Row.cell hr 12
  have e13 : w2.cell? ⟨g, 13, none⟩ = some (.string s.rv) := Row.cell hr 13
  have e14 : w2.cell? ⟨g, 14, none⟩ = some s.rp := Row.cell hr 14
  have f10 := Row.free hr 10
  have f11 := Row.free hr 11
  have f12 := Row.free hr 12
  have f13 := Row.free hr 13
  have f14 := Row.free hr 14
  have HE := Lib.hid (show GtAt (((((w2.setCell ⟨g, 10, none⟩ (.bool true)).setCell ⟨g, 11, none⟩ (.int .i64 k2)).setCell ⟨g, 12, none⟩ (.int .i64 k2)).setCell ⟨g, 13, none⟩ (.string ⟨#[]⟩)).setCell ⟨g, 14, none⟩ (.slice none 0 0)) g { s with d := true, k := k2, rc := k2, rv := ⟨#[]⟩, rp := .slice none 0 0 } ∧ ∃ w2', P w2' ∧ But w2' (((((w2.setCell ⟨g, 10, none⟩ (.bool true)).setCell ⟨g, 11, none⟩ (.int .i64 k2)).setCell ⟨g, 12, none⟩ (.int .i64 k2)).setCell ⟨g, 13, none⟩ (.string ⟨#[]⟩)).setCell ⟨g, 14, none⟩ (.slice none 0 0)) (fun q => q = g) from
    ⟨Row.set (Row.set (Row.set (Row.set (Row.set hr 10 (.bool true)) 11 (.int .i64 k2)) 12 (.int .i64 k2)) 13 (.string ⟨#[]⟩)) 14 (.slice none 0 0), w2, hb, gbut1 (gbut1 (gbut1 (gbut1 (gbut1 (But.refl w2 (fun q => q = g)) 10 _) 11 _) 12 _) 13 _) 14 _⟩)
  clear hr HC hb
  go_wp2
  go_end0
  exact ⟨rfl, HE.out⟩
end Go.Proofs.YtpjlajkjknkbaaaGreatDoor
/- A get begun; what stands behind its machines: the walk's error, the value read, the lines lasted; no conditions. -/
namespace Go.Proofs.YtpjlajkjknkbaaaGreatDoor
open Go.RowKit
set_option linter.unusedVariables false
attribute [local go_sem] Oper.semAt_some
theorem step_store1 {ops : Array Oper} {o : Oper} {a : Act} {w : World} {K : Act → World → Prop} {Q : Exit → Act → World → Prop} {E : Prop} (hw : Region.wanted o (yielded ops a.tmps) = true) (ty : TypeId) (x y : Operand) (ho : o.op = .store ty x y)
    (b i : Nat) (v old : Value) (hx : a.eval x = .pointer (some ⟨b, i, none⟩)) (hy : a.eval y = v) (hv : v.cells = #[v]) (hc : w.cell? ⟨b, i, none⟩ = some old) (hf : w.frozen? ⟨b, i, none⟩ = false) (hi : (Tryz.prog.info? ty).map (·.size) = some 1) (h1 : v.oneCell' = true)
    (h : K (a.put o.dst undef) (w.setCell ⟨b, i, none⟩ v)) : if Region.wanted o (yielded ops a.tmps) = true then Oper.wp Tryz.prog o a w K Q else E := by
  rw [if_pos hw]
  have hs := run_storeCells_cells (P := Tryz.prog) b i [v] 0 w (fun j hj => by
    obtain rfl : j = 0 := by simpa using hj
    rw [show i + 0 + 0 = i from rfl, hc]; rfl) (fun j hj => by
    obtain rfl : j = 0 := by simpa using hj
    exact hf) (fun u hu => by
    obtain rfl : u = v := by simpa using hu
    exact h1)
  have hr : (storeVar ty ⟨b, i, none⟩ v).run Tryz.prog w = .ok () (w.setCell ⟨b, i, none⟩ v) := by
    have hs' : (storeCells ⟨b, i, none⟩ [v] 0).run Tryz.prog w = .ok () (w.setCell ⟨b, i, none⟩ v) := hs
    cases hq : Tryz.prog.info? ty with
    | none => simp [hq] at hi
    | some inf =>
      have hz : inf.size = 1 := by simpa [hq] using hi
      simp [storeVar, sizeOf, typeInfo, hq, hv, hz, hs']
  unfold Oper.wp execOp
  simp only [ho, hx, hy, Instr.storeAt, Instr.sureAddr, Sem.run_bind, Sem.run_pure, Result.andThen_ok, hr]
  exact h
/-- What a beginning leaves. -/
def GBegP (w : World) (g : Nat) (s : GF) (m : Option Addr) (e : Ending) (w' : World) : Prop :=
  e = .returned (.tuple #[]) ∧ ∃ gw, w.heap.size ≤ gw ∧ gw ≠ g ∧ WkAt w' gw (WF.new m s.cl s.key 0 gw) ∧ GtAt w' g { s with wk := .pointer (some ⟨gw, 0, none⟩), un := .iface 28 (.pointer (some ⟨gw, 0, none⟩)), th := nextV 16 g } ∧ But w w' (fun q => q = g)
set_option maxRecDepth 100000 in
set_option maxHeartbeats 3200000 in
theorem gtBegin_any {w : World} {g : Nat} {s : GF} {m : Option Addr} (h : GtAt w g s) (hM : ∀ W, Below w.heap.size w W → Calls Tryz.prog 19 #[.pointer s.si] W fun e w' => e = .returned (.pointer m) ∧ W = w') :
    Calls Tryz.prog 10 #[.pointer (some ⟨g, 0, none⟩)] w (GBegP w g s m) := by
  have mixed : Tryz.prog.follows .mixedOrders = true := by kernel_rfl
  have HN := Lib.hid (wkNew_any (w := w.drew) (x := s.si) (m := m) (cl := s.cl) (key := s.key) (lev := 0) (hM _ (drew_below w)))
  have EG := Lib.hid (enters_of Tryz.func15 (by kernel_rfl) rfl)
  have HG := Lib.hid h
  obtain ⟨si, hsi⟩ : ∃ x, x = s.si := ⟨_, rfl⟩
  obtain ⟨cl, hcl⟩ : ∃ x, x = s.cl := ⟨_, rfl⟩
  obtain ⟨key, hkey⟩ : ∃ x, x = s.key := ⟨_, rfl⟩
  have HSS := Lib.hid (show ∀ W, GtAt W g s → W.cell? ⟨g, 0, none⟩ = some (.pointer si) ∧ W.cell? ⟨g, 1, none⟩ = some (.int .i64 cl) ∧ W.cell? ⟨g, 2, none⟩ = some (.int .u64 key) from fun W h => by
    rw [hsi, hcl, hkey]
    exact ⟨Row.cell h 0, Row.cell h 1, Row.cell h 2⟩)
  rw [← hsi, ← hcl, ← hkey] at HN
  have HCL := Lib.hid (And.intro hcl hkey)
  clear hM hsi hcl hkey h
  go_enter Tryz.func10, Tryz.ntmps10
  go_wp2_with fail
  refine wp_region_held_drew (S := fun W => W.cell? ⟨g, 0, none⟩ = some (.pointer si) ∧ W.cell? ⟨g, 1, none⟩ = some (.int .i64 cl) ∧ W.cell? ⟨g, 2, none⟩ = some (.int .u64 key)) (by kernel_rfl) (HSS.out _ (HG.out.below (drew_below w))) (fun hHeld => ?_)
  refine wpAnyH_take (i := 0) (oi := ⟨some 2, _, _, _, _, _⟩) (v := .pointer (some ⟨g, 0, none⟩)) rfl (by kernel_rfl) (by kernel_rfl) (by kernel_rfl) (fun _ _ _ h => h) (Or.inl ⟨by kernel_rfl, by intro WW hSw; obtain ⟨s0, s1, s2⟩ := hSw; go_simp⟩) (by assumption) ?_
  (try simp only [Act.put, List.setIfInBounds_toArray, List.set_cons_zero, List.set_cons_succ])
  refine wpAnyH_take (i := 1) (oi := ⟨some 3, _, _, _, _, _⟩) (v := .pointer (some ⟨g, 0, none⟩)) rfl (by kernel_rfl) (by kernel_rfl) (by kernel_rfl) (fun _ _ _ h => h) (Or.inl ⟨by kernel_rfl, by intro WW hSw; obtain ⟨s0, s1, s2⟩ := hSw; go_simp⟩) (by assumption) ?_
  (try simp only [Act.put, List.setIfInBounds_toArray, List.set_cons_zero, List.set_cons_succ])
  refine wpAnyH_take (i := 2) (oi := ⟨some 4, _, _, _, _, _⟩) (v := .pointer (some ⟨g, 0, none⟩)) rfl (by kernel_rfl) (by kernel_rfl) (by kernel_rfl) (fun _ _ _ h => h) (Or.inl ⟨by kernel_rfl, by intro WW hSw; obtain ⟨s0, s1, s2⟩ := hSw; go_simp⟩) (by assumption) ?_
  (try simp only [Act.put, List.setIfInBounds_toArray, List.set_cons_zero, List.set_cons_succ])
  refine wpAnyH_take (i := 3) (oi := ⟨some 5, _, _, _, _, _⟩) (v := .pointer (some ⟨g, 0, none⟩)) rfl (by kernel_rfl) (by kernel_rfl) (by kernel_rfl) (fun _ _ _ h => h) (Or.inl ⟨by kernel_rfl, by intro WW hSw; obtain ⟨s0, s1, s2⟩ := hSw; go_simp⟩) (by assumption) ?_
  (try simp only [Act.put, List.setIfInBounds_toArray, List.set_cons_zero, List.set_cons_succ])
  refine wpAnyH_take (i := 4) (oi := ⟨some 6, _, _, _, _, _⟩) (v := .pointer si) rfl (by kernel_rfl) (by kernel_rfl) (by kernel_rfl) (fun _ _ _ h => h) (Or.inl ⟨by kernel_rfl, by intro WW hSw; obtain ⟨s0, s1, s2⟩ := hSw; go_simp⟩) (by assumption) ?_
  (try simp only [Act.put, List.setIfInBounds_toArray, List.set_cons_zero, List.set_cons_succ])
  refine wpAnyH_take (i := 5) (oi := ⟨some 7, _, _, _, _, _⟩) (v := .pointer (some ⟨g, 0, none⟩)) rfl (by kernel_rfl) (by kernel_rfl) (by kernel_rfl) (fun _ _ _ h => h) (Or.inl ⟨by kernel_rfl, by intro WW hSw; obtain ⟨s0, s1, s2⟩ := hSw; go_simp⟩) (by assumption) ?_
  (try simp only [Act.put, List.setIfInBounds_toArray, List.set_cons_zero, List.set_cons_succ])
  refine wpAnyH_take (i := 6) (oi := ⟨some 8, _, _, _, _, _⟩) (v := .pointer (some ⟨g, 0, none⟩)) rfl (by kernel_rfl) (by kernel_rfl) (by kernel_rfl) (fun _ _ _ h => h) (Or.inl ⟨by kernel_rfl, by intro WW hSw; obtain ⟨s0, s1, s2⟩ := hSw; go_simp⟩) (by assumption) ?_
  (try simp only [Act.put, List.setIfInBounds_toArray, List.set_cons_zero, List.set_cons_succ])
  refine wpAnyH_take (i := 7) (oi := ⟨some 9, _, _, _, _, _⟩) (v := .pointer (some ⟨g, 1, none⟩)) rfl (by kernel_rfl) (by kernel_rfl) (by kernel_rfl) (fun _ _ _ h => h) (Or.inl ⟨by kernel_rfl, by intro WW hSw; obtain ⟨s0, s1, s2⟩ := hSw; go_simp⟩) (by assumption) ?_
  (try simp only [Act.put, List.setIfInBounds_toArray, List.set_cons_zero, List.set_cons_succ])
  refine wpAnyH_take (i := 8) (oi := ⟨some 10, _, _, _, _, _⟩) (v := .int .i64 cl) rfl (by kernel_rfl) (by kernel_rfl) (by kernel_rfl) (fun _ _ _ h => h) (Or.inl ⟨by kernel_rfl, by intro WW hSw; obtain ⟨s0, s1, s2⟩ := hSw; go_simp⟩) (by assumption) ?_
  (try simp only [Act.put, List.setIfInBounds_toArray, List.set_cons_zero, List.set_cons_succ])
  refine wpAnyH_take (i := 9) (oi := ⟨some 11, _, _, _, _, _⟩) (v := .pointer (some ⟨g, 0, none⟩)) rfl (by kernel_rfl) (by kernel_rfl) (by kernel_rfl) (fun _ _ _ h => h) (Or.inl ⟨by kernel_rfl, by intro WW hSw; obtain ⟨s0, s1, s2⟩ := hSw; go_simp⟩) (by assumption) ?_
  (try simp only [Act.put, List.setIfInBounds_toArray, List.set_cons_zero, List.set_cons_succ])
  refine wpAnyH_take (i := 10) (oi := ⟨some 12, _, _, _, _, _⟩) (v := .pointer (some ⟨g, 0, none⟩)) rfl (by kernel_rfl) (by kernel_rfl) (by kernel_rfl) (fun _ _ _ h => h) (Or.inl ⟨by kernel_rfl, by intro WW hSw; obtain ⟨s0, s1, s2⟩ := hSw; go_simp⟩) (by assumption) ?_
  (try simp only [Act.put, List.setIfInBounds_toArray, List.set_cons_zero, List.set_cons_succ])
  refine wpAnyH_take (i := 11) (oi := ⟨some 13, _, _, _, _, _⟩) (v := .pointer (some ⟨g, 2, none⟩)) rfl (by kernel_rfl) (by kernel_rfl) (by kernel_rfl) (fun _ _ _ h => h) (Or.inl ⟨by kernel_rfl, by intro WW hSw; obtain ⟨s0, s1, s2⟩ := hSw; go_simp⟩) (by assumption) ?_
  (try simp only [Act.put, List.setIfInBounds_toArray, List.set_cons_zero, List.set_cons_succ])
  refine wpAnyH_take (i := 12) (oi := ⟨some 14, _, _, _, _, _⟩) (v := .int .u64 key) rfl (by kernel_rfl) (by kernel_rfl) (by kernel_rfl) (fun _ _ _ h => h) (Or.inl ⟨by kernel_rfl, by intro WW hSw; obtain ⟨s0, s1, s2⟩ := hSw; go_simp⟩) (by assumption) ?_
  (try simp only [Act.put, List.setIfInBounds_toArray, List.set_cons_zero, List.set_cons_succ])
  refine wpAnyH_one (i := 13) (oi := ⟨_, _, _, _, _, _⟩) rfl (by kernel_rfl) (fun K hK => ?_)
  refine step_calls (by rfl) 15 EG.out [.tmp 6, .tmp 10, .tmp 14, .const (.int .i64 0)] _ rfl [.pointer si, .int .i64 cl, .int .u64 key, .int .i64 0] rfl (HN.out) ?_
  rintro e w1 ⟨rfl, hk1, hb1⟩
  obtain ⟨gw, hgw⟩ : ∃ gw, gw = w.drew.heap.size := ⟨_, rfl⟩
  rw [← hgw] at hk1 ⊢
  have hb01 := Below.and (drew_below w) hb1
  have hg1 := HG.out.below hb01
  have hlt := HG.out.lt
  have hsz := (drew_below w).size
  have hne : gw ≠ g := by omega
  have d3 : w1.cell? ⟨g, 3, none⟩ = some s.un := Row.cell hg1 3
  have d4 : w1.cell? ⟨g, 4, none⟩ = some s.th := Row.cell hg1 4
  have d5 : w1.cell? ⟨g, 5, none⟩ = some s.wk := Row.cell hg1 5
  have f3 := Row.free hg1 3
  have f4 := Row.free hg1 4
  have f5 := Row.free hg1 5
  have HE := Lib.hid (show ∃ gw', w.heap.size ≤ gw' ∧ gw' ≠ g ∧ WkAt (((w1.setCell ⟨g, 5, none⟩ (.pointer (some ⟨gw, 0, none⟩))).setCell ⟨g, 3, none⟩ (.iface 28 (.pointer (some ⟨gw, 0, none⟩)))).setCell ⟨g, 4, none⟩ (.func (.func 16) #[.pointer (some ⟨g, 0, none⟩)] #[])) gw' (WF.new m s.cl s.key 0 gw') ∧ GtAt (((w1.setCell ⟨g, 5, none⟩ (.pointer (some ⟨gw, 0, none⟩))).setCell ⟨g, 3, none⟩ (.iface 28 (.pointer (some ⟨gw, 0, none⟩)))).setCell ⟨g, 4, none⟩ (.func (.func 16) #[.pointer (some ⟨g, 0, none⟩)] #[])) g { s with wk := .pointer (some ⟨gw', 0, none⟩), un := .iface 28 (.pointer (some ⟨gw', 0, none⟩)), th := nextV 16 g } ∧ But w (((w1.setCell ⟨g, 5, none⟩ (.pointer (some ⟨gw, 0, none⟩))).setCell ⟨g, 3, none⟩ (.iface 28 (.pointer (some ⟨gw, 0, none⟩)))).setCell ⟨g, 4, none⟩ (.func (.func 16) #[.pointer (some ⟨g, 0, none⟩)] #[])) (fun q => q = g) from
    ⟨gw, by omega, hne, by rw [← HCL.out.1, ← HCL.out.2]; exact Row.other (Row.other (Row.other hk1 (p := ⟨g, 5, none⟩) hne _) (p := ⟨g, 3, none⟩) hne _) (p := ⟨g, 4, none⟩) hne _, Row.set (Row.set (Row.set hg1 5 (.pointer (some ⟨gw, 0, none⟩))) 3 (.iface 28 (.pointer (some ⟨gw, 0, none⟩)))) 4 (.func (.func 16) #[.pointer (some ⟨g, 0, none⟩)] #[]), gbut1 (gbut1 (gbut1 (But.of_below hb01 (fun q => q = g)) 5 _) 3 _) 4 _⟩)
  have HS1 := Lib.hid (HSS.out _ hg1)
  have HG5 := Lib.hid (show GtAt (w1.setCell ⟨g, 5, none⟩ (.pointer (some ⟨gw, 0, none⟩))) g { s with wk := .pointer (some ⟨gw, 0, none⟩) } from hg1.walk _)
  have HC5 := Lib.hid (show (w1.setCell ⟨g, 5, none⟩ (.pointer (some ⟨gw, 0, none⟩))).cell? ⟨g, 0, none⟩ = some (.pointer si) ∧ (w1.setCell ⟨g, 5, none⟩ (.pointer (some ⟨gw, 0, none⟩))).cell? ⟨g, 1, none⟩ = some (.int .i64 cl) ∧ (w1.setCell ⟨g, 5, none⟩ (.pointer (some ⟨gw, 0, none⟩))).cell? ⟨g, 2, none⟩ = some (.int .u64 key) from by
    have h0 := HSS.out _ hg1
    exact ⟨(Row.cell HG5.out 0).trans ((Row.cell hg1 0).symm.trans h0.1), (Row.cell HG5.out 1).trans ((Row.cell hg1 1).symm.trans h0.2.1), (Row.cell HG5.out 2).trans ((Row.cell hg1 2).symm.trans h0.2.2)⟩)
  clear hk1 hb1 hgw hb01 hg1 hlt hsz hne HG HN
  refine ⟨_, rfl, hK _ _ HS1.out (fun hHeld2 => ?_)⟩
  clear hK K
  (try simp only [Act.put, List.setIfInBounds_toArray, List.set_cons_zero, List.set_cons_succ])
  refine wpAnyH_take (i := 14) (oi := ⟨some 16, _, _, _, _, _⟩) (v := .pointer (some ⟨g, 0, none⟩)) rfl (by kernel_rfl) (by kernel_rfl) (by kernel_rfl) (fun _ _ _ h => h) (Or.inl ⟨by kernel_rfl, by intro WW hSw; obtain ⟨s0, s1, s2⟩ := hSw; go_simp⟩) (by assumption) ?_
  (try simp only [Act.put, List.setIfInBounds_toArray, List.set_cons_zero, List.set_cons_succ])
  refine wpAnyH_take (i := 15) (oi := ⟨some 17, _, _, _, _, _⟩) (v := .pointer (some ⟨g, 5, none⟩)) rfl (by kernel_rfl) (by kernel_rfl) (by kernel_rfl) (fun _ _ _ h => h) (Or.inl ⟨by kernel_rfl, by intro WW hSw; obtain ⟨s0, s1, s2⟩ := hSw; go_simp⟩) (by assumption) ?_
  (try simp only [Act.put, List.setIfInBounds_toArray, List.set_cons_zero, List.set_cons_succ])
  refine wpAnyH_one (i := 16) (oi := ⟨none, _, _, _, _, _⟩) rfl (by kernel_rfl) (fun K hK => ?_)
  refine step_store1 (by rfl) _ (.tmp 17) (.tmp 15) rfl g 5 (.pointer (some ⟨gw, 0, none⟩)) _ rfl rfl rfl d5 f5 (by kernel_rfl) rfl ?_
  refine hK _ _ HC5.out (fun hHeld3 => ?_)
  clear hK K
  (try simp only [Act.put, List.setIfInBounds_toArray, List.set_cons_zero, List.set_cons_succ])
  refine wpAnyH_done (by kernel_rfl) ?_ _
  clear hHeld hHeld2 hHeld3 HG5 HC5 HS1
  go_wp2
  go_end0
  exact ⟨rfl, HE.out⟩
/-- A get of which nothing is done. -/
def GF.zero (x : Option Addr) (cl key : Int) : GF := ⟨x, cl, key, .nilIface, .nilFunc, .pointer none, .pointer none, 0, .nilFunc, 0, false, 0, 0, ⟨#[]⟩, .slice none 0 0⟩
def GF.new (x : Option Addr) (cl key : Int) (g gw : Nat) : GF := { GF.zero x cl key with wk := .pointer (some ⟨gw, 0, none⟩), un := .iface 28 (.pointer (some ⟨gw, 0, none⟩)), th := nextV 16 g }
set_option maxRecDepth 100000 in
set_option maxHeartbeats 3200000 in
theorem gtNew_any {w : World} {x m : Option Addr} {cl key : Int} (hM : ∀ W, Below w.heap.size w W → Calls Tryz.prog 19 #[.pointer x] W fun e w' => e = .returned (.pointer m) ∧ W = w') :
    Calls Tryz.prog 4 #[.pointer x, .int .i64 cl, .int .u64 key] w fun e w' => ∃ g gw, e = .returned (.pointer (some ⟨g, 0, none⟩)) ∧ w.heap.size ≤ g ∧ w.heap.size ≤ gw ∧ gw ≠ g ∧ WkAt w' gw (WF.new m cl key 0 gw) ∧ GtAt w' g (GF.new x cl key g gw) ∧ Below w.heap.size w w' := by
  obtain ⟨W1, hW1⟩ : ∃ W1, W1 = w.alloc (.cells (GF.zero x cl key).cells.toArray 37) := ⟨_, rfl⟩
  have hb1 : Below w.heap.size w W1 := by rw [hW1]; exact alloc_below _ _
  have hg1 : GtAt W1 w.heap.size (GF.zero x cl key) := by rw [hW1]; exact Row.new _ _ _
  have hlt := hg1.lt
  have HB := Lib.hid (gtBegin_any (m := m) hg1 fun W hb => hM W (Below.and hb1 hb))
  obtain ⟨g, hg⟩ : ∃ g, g = w.heap.size := ⟨_, rfl⟩
  rw [← hg] at HB hlt
  have HW := Lib.hid hW1
  have HB1 := Lib.hid hb1
  have HG := Lib.hid hg
  clear hM hb1 hg1 hW1 hg
  go_enter Tryz.func4, Tryz.ntmps4
  go_upto_region 2 with (fail)
  have HWW := HW.out
  unfold GF.zero GF.cells at HWW
  rw [← HWW, ← HG.out]
  clear HWW
  go_wp2_with fail
  refine HB.out.mono ?_
  rintro e w2 ⟨rfl, gw, hgw, hne, hk, hgt, hbt⟩
  have HE := Lib.hid (show ∃ gw, w.heap.size ≤ gw ∧ gw ≠ g ∧ WkAt w2 gw (WF.new m cl key 0 gw) ∧ GtAt w2 g (GF.new x cl key g gw) ∧ Below w.heap.size w w2 from
    ⟨gw, Nat.le_trans HB1.out.size hgw, hne, hk, hgt, HB1.out.trans (hbt.below HB1.out.size fun q hq => by have := HG.out; omega)⟩)
  clear hgw hne hk hgt hbt HB
  go_wp2
  go_ret
  obtain ⟨gw, h1, h2, h3, h4, h5⟩ := HE.out
  exact ⟨g, gw, rfl, by rw [← HG.out]; exact Nat.le_refl _, h1, h2, h3, h4, h5⟩
theorem gtCame_err {w : World} {p : Option Addr} {k : Int} (hk : k ≠ 0) : Calls Tryz.prog 16 #[.pointer p, .int .i64 k] w fun e w' => e = .returned (.int .i64 k) ∧ w = w' := by
  have k0 : (k != 0) = true := by simpa using hk
  clear hk
  go_enter Tryz.func16, Tryz.ntmps16
  go_wp2
  go_ret
  exact ⟨rfl, rfl⟩
set_option maxRecDepth 100000 in
set_option maxHeartbeats 3200000 in
theorem gtRead_any {w : World} {g : Nat} {s : GF} {k : Int} {q : Option Addr} (h : GtAt w g s) (hs : s.st = .pointer q) :
    Calls Tryz.prog 29 #[.pointer (some ⟨g, 0, none⟩), .int .i64 k] w fun e w' => e = .returned (.int .i64 0) ∧ GtAt w' g { s with un := .iface 29 (.pointer q), th := nextV 48 g } ∧ But w w' (fun q => q = g) := by
  have d3 : w.cell? ⟨g, 3, none⟩ = some s.un := Row.cell h 3
  have d4 : w.cell? ⟨g, 4, none⟩ = some s.th := Row.cell h 4
  have d6 : w.cell? ⟨g, 6, none⟩ = some s.st := Row.cell h 6
  rw [hs] at d6
  have f3 := Row.free h 3
  have f4 := Row.free h 4
  have HE := Lib.hid (show GtAt ((w.setCell ⟨g, 3, none⟩ (.iface 29 (.pointer q))).setCell ⟨g, 4, none⟩ (.func (.func 48) #[.pointer (some ⟨g, 0, none⟩)] #[])) g { s with un := .iface 29 (.pointer q), th := nextV 48 g } ∧ But w ((w.setCell ⟨g, 3, none⟩ (.iface 29 (.pointer q))).setCell ⟨g, 4, none⟩ (.func (.func 48) #[.pointer (some ⟨g, 0, none⟩)] #[])) (fun q => q = g) from
    ⟨Row.set (Row.set h 3 (.iface 29 (.pointer q))) 4 (.func (.func 48) #[.pointer (some ⟨g, 0, none⟩)] #[]), gbut1 (gbut1 (But.refl w (fun q => q = g)) 3 _) 4 _⟩)
  clear h hs
  go_enter Tryz.func29, Tryz.ntmps29
  go_wp2
  go_ret
  exact ⟨rfl, HE.out⟩
end Go.Proofs.YtpjlajkjknkbaaaGreatDoor
/- The method that each machine under a get names; no conditions. -/
namespace Go.Proofs.YtpjlajkjknkbaaaGreatDoor
open Go.RowKit
set_option linter.unusedVariables false
theorem und15_walk : Tryz.prog.underlying 28 = some (.pointer 75) := by kernel_rfl
theorem mr15_walk : ((Tryz.prog.info? 28).bind fun i => i.methods.find? (·.name == "Step")).map (fun m => (m.path.toList, m.func)) = some ([], some (189, true)) := by kernel_rfl
theorem m15_walk (g : Nat) (w : World) : (method (Tryz.prog.types.size + Made.depth) 28 (.pointer (some ⟨g, 0, none⟩)) "Step").run Tryz.prog w = .ok (189, .pointer (some ⟨g, 0, none⟩)) w := by
  obtain ⟨i, m, hi, hm, hp, hf⟩ := row_of mr15_walk
  rw [fuel_pos]
  exact method_own hi hm hp hf und15_walk _
set_option maxRecDepth 100000 in
theorem M15_walk (g : Nat) (w : World) : (method 382 28 (.pointer (some ⟨g, 0, none⟩)) "Step").run Tryz.prog w = .ok (189, .pointer (some ⟨g, 0, none⟩)) w := m15_walk g w
theorem call15_walk : ∀ (w : World) (v : Value), (callFunc 189 #[v]).run Tryz.prog w = .ok (.enter 189 #[v]) w := fun w v => enters_of Tryz.func189 (by kernel_rfl) rfl #[v] w
theorem und15_read : Tryz.prog.underlying 81 = some (.pointer 113) := by kernel_rfl
theorem mr15_read : ((Tryz.prog.info? 81).bind fun i => i.methods.find? (·.name == "Step")).map (fun m => (m.path.toList, m.func)) = some ([], some (194, true)) := by kernel_rfl
theorem m15_read (g : Nat) (w : World) : (method (Tryz.prog.types.size + Made.depth) 81 (.pointer (some ⟨g, 0, none⟩)) "Step").run Tryz.prog w = .ok (194, .pointer (some ⟨g, 0, none⟩)) w := by
  obtain ⟨i, m, hi, hm, hp, hf⟩ := row_of mr15_read
  rw [fuel_pos]
  exact method_own hi hm hp hf und15_read _
set_option maxRecDepth 100000 in
theorem M15_read (g : Nat) (w : World) : (method 382 81 (.pointer (some ⟨g, 0, none⟩)) "Step").run Tryz.prog w = .ok (194, .pointer (some ⟨g, 0, none⟩)) w := m15_read g w
theorem call15_read : ∀ (w : World) (v : Value), (callFunc 194 #[v]).run Tryz.prog w = .ok (.enter 194 #[v]) w := fun w v => enters_of Tryz.func194 (by kernel_rfl) rfl #[v] w
theorem und15_still : Tryz.prog.underlying 29 = some (.pointer 118) := by kernel_rfl
theorem mr15_still : ((Tryz.prog.info? 29).bind fun i => i.methods.find? (·.name == "Step")).map (fun m => (m.path.toList, m.func)) = some ([], some (190, true)) := by kernel_rfl
theorem m15_still (g : Nat) (w : World) : (method (Tryz.prog.types.size + Made.depth) 29 (.pointer (some ⟨g, 0, none⟩)) "Step").run Tryz.prog w = .ok (190, .pointer (some ⟨g, 0, none⟩)) w := by
  obtain ⟨i, m, hi, hm, hp, hf⟩ := row_of mr15_still
  rw [fuel_pos]
  exact method_own hi hm hp hf und15_still _
set_option maxRecDepth 100000 in
theorem M15_still (g : Nat) (w : World) : (method 382 29 (.pointer (some ⟨g, 0, none⟩)) "Step").run Tryz.prog w = .ok (190, .pointer (some ⟨g, 0, none⟩)) w := m15_still g w
theorem call15_still : ∀ (w : World) (v : Value), (callFunc 190 #[v]).run Tryz.prog w = .ok (.enter 190 #[v]) w := fun w v => enters_of Tryz.func190 (by kernel_rfl) rfl #[v] w
theorem und15_last : Tryz.prog.underlying 109 = some (.pointer 150) := by kernel_rfl
theorem mr15_last : ((Tryz.prog.info? 109).bind fun i => i.methods.find? (·.name == "Step")).map (fun m => (m.path.toList, m.func)) = some ([], some (196, true)) := by kernel_rfl
theorem m15_last (g : Nat) (w : World) : (method (Tryz.prog.types.size + Made.depth) 109 (.pointer (some ⟨g, 0, none⟩)) "Step").run Tryz.prog w = .ok (196, .pointer (some ⟨g, 0, none⟩)) w := by
  obtain ⟨i, m, hi, hm, hp, hf⟩ := row_of mr15_last
  rw [fuel_pos]
  exact method_own hi hm hp hf und15_last _
set_option maxRecDepth 100000 in
theorem M15_last (g : Nat) (w : World) : (method 382 109 (.pointer (some ⟨g, 0, none⟩)) "Step").run Tryz.prog w = .ok (196, .pointer (some ⟨g, 0, none⟩)) w := m15_last g w
theorem call15_last : ∀ (w : World) (v : Value), (callFunc 196 #[v]).run Tryz.prog w = .ok (.enter 196 #[v]) w := fun w v => enters_of Tryz.func196 (by kernel_rfl) rfl #[v] w
theorem call15_gtCame : ∀ (w : World) (v u : Value), (callFunc 16 #[v, u]).run Tryz.prog w = .ok (.enter 16 #[v, u]) w := fun w v u => enters_of Tryz.func16 (by kernel_rfl) rfl #[v, u] w
theorem call15_gtRead : ∀ (w : World) (v u : Value), (callFunc 29 #[v, u]).run Tryz.prog w = .ok (.enter 29 #[v, u]) w := fun w v u => enters_of Tryz.func29 (by kernel_rfl) rfl #[v, u] w
theorem call15_gtAsked : ∀ (w : World) (v u : Value), (callFunc 48 #[v, u]).run Tryz.prog w = .ok (.enter 48 #[v, u]) w := fun w v u => enters_of Tryz.func48 (by kernel_rfl) rfl #[v, u] w
theorem call15_gtLasted : ∀ (w : World) (v u : Value), (callFunc 44 #[v, u]).run Tryz.prog w = .ok (.enter 44 #[v, u]) w := fun w v u => enters_of Tryz.func44 (by kernel_rfl) rfl #[v, u] w
end Go.Proofs.YtpjlajkjknkbaaaGreatDoor
/- What is told of a get: its response, how often it began anew; two responses that are the same; no conditions. -/
namespace Go.Proofs.YtpjlajkjknkbaaaGreatDoor
open Go.RowKit
set_option linter.unusedVariables false
attribute [local go_sem] Oper.semAt_some
theorem gtTries_nil (w : World) : Calls Tryz.prog 6 #[.pointer none] w fun e w' => e = .returned (.int .i64 0) ∧ w = w' := by
  go_enter Tryz.func6, Tryz.ntmps6
  go_wp2
  go_ret
  exact ⟨rfl, rfl⟩
theorem gtTries_any {w : World} {g : Nat} {s : GF} (h : GtAt w g s) : Calls Tryz.prog 6 #[.pointer (some ⟨g, 0, none⟩)] w fun e w' => e = .returned (.int .i64 s.tr) ∧ w = w' := by
  have d9 : w.cell? ⟨g, 9, none⟩ = some (.int .i64 s.tr) := Row.cell h 9
  clear h
  go_enter Tryz.func6, Tryz.ntmps6
  go_wp2
  go_ret
  exact ⟨rfl, rfl⟩
def rsV (k : Int) (S : ByteArray) : Value := .agg #[.int .i64 k, .string S, .slice none 0 0]
theorem gtResp_nil (w : World) : Calls Tryz.prog 8 #[.pointer none] w fun e w' => e = .returned (rsV 0 ⟨#[]⟩) ∧ Below w.heap.size w w' := by
  go_enter Tryz.func8, Tryz.ntmps8
  go_wp2
  refine bodyPost_ret (results_cell_row rfl _ _ w.heap.size 35 #[.int .i64 0, .string ⟨#[]⟩, .slice none 0 0] _ _ rfl (heap_alloc_new _ _) Tryz.underlying35 rfl (by kernel_rfl)) rfl ⟨rfl, alloc_below _ _⟩
set_option maxRecDepth 100000 in
set_option maxHeartbeats 3200000 in
theorem gtResp_any {w : World} {g : Nat} {s : GF} (h : GtAt w g s) (hp : s.rp = .slice none 0 0) : Calls Tryz.prog 8 #[.pointer (some ⟨g, 0, none⟩)] w fun e w' => e = .returned (rsV s.rc s.rv) ∧ Below w.heap.size w w' := by
  obtain ⟨W0, hW0⟩ : ∃ W0, W0 = w.alloc (.cells #[.int .i64 0, .string ⟨#[]⟩, .slice none 0 0] 35) := ⟨_, rfl⟩
  have hb0 : Below w.heap.size w W0 := by rw [hW0]; exact alloc_below _ _
  have hr0 : Row W0 w.heap.size 35 #[.int .i64 0, .string ⟨#[]⟩, .slice none 0 0] := by rw [hW0]; exact Row.new _ _ _
  have hg0 := h.below hb0
  have c12 : W0.cell? ⟨g, 12, none⟩ = some (.int .i64 s.rc) := Row.cell hg0 12
  have c13 : W0.cell? ⟨g, 13, none⟩ = some (.string s.rv) := Row.cell hg0 13
  have c14 : W0.cell? ⟨g, 14, none⟩ = some s.rp := Row.cell hg0 14
  rw [hp] at c14
  obtain ⟨rc, hrc⟩ : ∃ x, x = s.rc := ⟨_, rfl⟩
  obtain ⟨rv, hrv⟩ : ∃ x, x = s.rv := ⟨_, rfl⟩
  rw [← hrc] at c12 ⊢
  rw [← hrv] at c13 ⊢
  obtain ⟨q, hq⟩ : ∃ q, q = w.heap.size := ⟨_, rfl⟩
  rw [← hq] at hr0
  have HR0 := Lib.hid hr0
  have HB0 := Lib.hid hb0
  have HW0 := Lib.hid hW0
  have HQ := Lib.hid hq
  have HRG := Lib.hid (show W0.rangeAt g 12 [.int .i64 rc, .string rv, .slice none 0 0] from fun j v hv => by
    rcases j with _ | _ | _ | j
    · exact c12.trans hv
    · exact c13.trans hv
    · exact c14.trans hv
    · cases hv)
  have k0 : W0.cell? ⟨q, 0, none⟩ = some (.int .i64 0) := hr0.cell 0
  have k1 : W0.cell? ⟨q, 1, none⟩ = some (.string ⟨#[]⟩) := hr0.cell 1
  have k2 : W0.cell? ⟨q, 2, none⟩ = some (.slice none 0 0) := hr0.cell 2
  have f0 := hr0.free 0
  have f1 := hr0.free 1
  have f2 := hr0.free 2
  clear h hp hb0 hr0 hg0 hW0 hq hrc hrv
  go_enter Tryz.func8, Tryz.ntmps8
  go_upto_region 1 with (fail)
  rw [← HQ.out, ← HW0.out]
  go_wp2
  have hr2 := ((HR0.out.set 0 (.int .i64 rc)).set 1 (.string rv)).set 2 (.slice none 0 0)
  refine bodyPost_ret (results_cell_row rfl _ _ q 35 #[.int .i64 rc, .string rv, .slice none 0 0] (0, 0) _ rfl hr2 Tryz.underlying35 rfl (by kernel_rfl)) rfl ⟨rfl, ?_⟩
  exact ((HB0.out.setCell (p := ⟨q, 0, none⟩) (by rw [HQ.out]; exact Nat.le_refl _) _).setCell (p := ⟨q, 1, none⟩) (by rw [HQ.out]; exact Nat.le_refl _) _).setCell (p := ⟨q, 2, none⟩) (by rw [HQ.out]; exact Nat.le_refl _) _
theorem rSamePairs_none (w : World) : Calls Tryz.prog 12 #[.slice none 0 0, .slice none 0 0] w fun e w' => e = .returned (.bool true) ∧ w = w' := by
  go_enter Tryz.func12, Tryz.ntmps12
  go_wp2_with fail
  go_loopw [5] (fun iv wr => iv = .int .i64 0 ∧ wr = w) (fun _ _ => 0)
  case atStart => exact ⟨rfl, rfl⟩
  case round =>
    obtain ⟨rfl, rfl⟩ := hrel
    go_wp2
    go_ret
    exact ⟨rfl, rfl⟩
set_option maxRecDepth 100000 in
theorem rSameResp_same (k : Int) (S : ByteArray) (w : World) : Calls Tryz.prog 7 #[rsV k S, rsV k S] w fun e w' => e = .returned (.bool true) ∧ Below w.heap.size w w' := by
  have HP := Lib.hid fun W => rSamePairs_none W
  have HB := Lib.hid (Below.and (alloc_below w (.cells #[.int .i64 k, .string S, .slice none 0 0] 35)) (alloc_below _ (.cells #[.int .i64 k, .string S, .slice none 0 0] 35)))
  unfold rsV
  go_enter Tryz.func7, Tryz.ntmps7
  go_wp2_with fail
  refine (HP.out _).mono ?_
  rintro e w1 ⟨rfl, rfl⟩
  go_wp2
  go_ret
  exact ⟨rfl, HB.out⟩
end Go.Proofs.YtpjlajkjknkbaaaGreatDoor
/- GetNil, but for the chapter's rows: what is answered of no get, of a zero one, of no site; conditions: the chapter's rows hold. -/
namespace Go.Proofs.YtpjlajkjknkbaaaGreatDoor
open Go.RowKit
set_option linter.unusedVariables false
attribute [local go_sem] Oper.semAt_some
set_option maxRecDepth 100000 in
set_option maxHeartbeats 3200000 in
/-- The step of a get of no site. -/
theorem gtStep_nosite {w : World} {g gw : Nat} {key : Int} (hne : gw ≠ g) (hk : WkAt w gw (WF.new none 0 key 0 gw)) (hg : GtAt w g (GF.new none 0 key g gw)) :
    Calls Tryz.prog 5 #[.pointer (some ⟨g, 0, none⟩)] w fun e w' => e = .returned (.tuple #[.bool true, .int .i64 1]) ∧ But w w' (fun q => q = g ∨ q = gw) := by
  have hz : SizeIs w none 0 := fun W hb => size_no (.inl rfl)
  have HS : Calls Tryz.prog 189 #[.pointer (some ⟨gw, 0, none⟩)] w fun e w' => e = .returned (.tuple #[.bool true, .int .i64 1]) ∧ But w w' (fun q => q = gw) := by
    refine (wkStep_of (g := gw) (f := 20) (s := WF.new none 0 key 0 gw) (d' := false) (D := true) (kk := 1) (R := fun w' s' => s' = WF.new none 0 key 0 gw ∧ w = w') callB hk rfl rfl rfl ((wkBegin_wrong hk hz (show wrongK 0 0 ≠ 0 by decide)).mono (by
      rintro e w' ⟨rfl, rfl⟩
      exact ⟨rfl, _, hk, rfl, rfl, rfl⟩))).mono ?_
    rintro e w' ⟨rfl, w5, s', ⟨rfl, rfl⟩, _, hk6, hb6⟩
    exact ⟨rfl, hb6⟩
  have hgb : ∀ w', But w w' (fun q => q = gw) → GtAt w' g (GF.new none 0 key g gw) := fun w' hb => hg.but hb (fun e => hne e.symm)
  have HG := gtGoOn_ends (g := g) (gu := gw) (t := 28) (fS := 189) (fT := 16) (s := GF.new none 0 key g gw) (k1 := 1) (k2 := 1) (Q := fun w' => But w w' (fun q => q = gw)) (P := fun w' => But w w' (fun q => q = gw)) hg rfl (M15_walk gw w) call15_walk call15_gtCame HS
    (fun w' hb => Row.cell (hgb w' hb) 4) (by decide) (fun w' hb => (gtCame_err (by decide)).mono (by
      rintro e w2 ⟨rfl, rfl⟩
      exact ⟨rfl, hgb _ hb, hb⟩))
  refine (gtStep_of (R := fun w' s' => ∃ w2, But w w2 (fun q => q = gw) ∧ But w2 w' (fun q => q = g)) (D := true) (k := 1) hg rfl rfl (HG.mono (by
    rintro e w' ⟨rfl, h1, h2⟩
    exact ⟨rfl, _, h1, rfl, rfl, h2⟩))).mono ?_
  rintro e w' ⟨rfl, w1, s', ⟨w2, hb2, hb1⟩, h1, hb⟩
  exact ⟨rfl, ((hb2.mono (q := fun q => q = g ∨ q = gw) fun q e => .inr e).trans (hb1.mono (q := fun q => q = g ∨ q = gw) fun q e => .inl e) fun q hq => .inl hq).trans (But.of_below hb (fun q => q = g ∨ q = gw)) fun q hq => .inl hq⟩
end Go.Proofs.YtpjlajkjknkbaaaGreatDoor
/- What stands behind a get's machines: the value told, the lines lasted; no conditions. -/
namespace Go.Proofs.YtpjlajkjknkbaaaGreatDoor
open Go.RowKit
set_option linter.unusedVariables false
attribute [local go_sem] Oper.semAt_some
theorem gtNone_any (w : World) : Calls Tryz.prog 24 #[] w fun e w' => e = .returned (.agg #[.int .i64 5, .string ⟨#[]⟩, .slice none 0 0]) ∧ Below w.heap.size w w' := by
  go_enter Tryz.func24, Tryz.ntmps24
  go_wp2
  refine bodyPost_ret (results_cell_row rfl _ _ w.heap.size 35 #[.int .i64 5, .string ⟨#[]⟩, .slice none 0 0] _ _ rfl (heap_alloc_new _ _) Tryz.underlying35 rfl (by kernel_rfl)) rfl ⟨rfl, alloc_below _ _⟩
set_option maxRecDepth 100000 in
set_option maxHeartbeats 3200000 in
theorem gtTell_any {w : World} {gb gr : Nat} {S : ByteArray} {k : Int} (hb : w.cell? ⟨gb, 0, none⟩ = some (.pointer (some ⟨gr, 0, none⟩)))
    (HV : ∀ W, Below w.heap.size w W → Calls Tryz.prog 28 #[.pointer (some ⟨gr, 0, none⟩)] W fun e w' => e = .returned (.tuple #[.string S, .int .i64 k]) ∧ Below W.heap.size W w') :
    Calls Tryz.prog 27 #[.pointer (some ⟨gb, 0, none⟩)] w fun e w' => e = .returned (.agg #[.int .i64 k, .string S, .slice none 0 0]) ∧ Below w.heap.size w w' := by
  obtain ⟨W0, hW0⟩ : ∃ W0, W0 = w.alloc (.cells #[.int .i64 0, .string ⟨#[]⟩, .slice none 0 0] 35) := ⟨_, rfl⟩
  have hb0 : Below w.heap.size w W0 := by rw [hW0]; exact alloc_below _ _
  have hr0 : Row W0 w.heap.size 35 #[.int .i64 0, .string ⟨#[]⟩, .slice none 0 0] := by rw [hW0]; exact Row.new _ _ _
  have c0 : W0.cell? ⟨gb, 0, none⟩ = some (.pointer (some ⟨gr, 0, none⟩)) := (hb0.cell (block_lt_of_cell hb)).trans hb
  have HVV := Lib.hid (HV W0 hb0)
  obtain ⟨q, hq⟩ : ∃ q, q = w.heap.size := ⟨_, rfl⟩
  rw [← hq] at hr0
  have HR0 := Lib.hid hr0
  have HB0 := Lib.hid hb0
  have HW0 := Lib.hid hW0
  have HQ := Lib.hid hq
  clear hb HV hb0 hr0 hW0 hq
  go_enter Tryz.func27, Tryz.ntmps27
  go_upto_region 1 with (fail)
  rw [← HQ.out, ← HW0.out]
  go_wp2_with fail
  refine HVV.out.mono ?_
  rintro e w1 ⟨rfl, hb1⟩
  have hr1 := HR0.out.below hb1 HR0.out.lt
  have k0 : w1.cell? ⟨q, 0, none⟩ = some (.int .i64 0) := hr1.cell 0
  have k1 : w1.cell? ⟨q, 1, none⟩ = some (.string ⟨#[]⟩) := hr1.cell 1
  have k2 : w1.cell? ⟨q, 2, none⟩ = some (.slice none 0 0) := hr1.cell 2
  have f0 := hr1.free 0
  have f1 := hr1.free 1
  have f2 := hr1.free 2
  have HR1 := Lib.hid hr1
  have HB1 := Lib.hid (Below.and HB0.out hb1)
  clear hr1 hb1 c0 HVV
  go_wp2
  have hr2 := ((HR1.out.set 0 (.int .i64 k)).set 1 (.string S)).set 2 (.slice none 0 0)
  refine bodyPost_ret (results_cell_row rfl _ _ q 35 #[.int .i64 k, .string S, .slice none 0 0] (0, 0) _ rfl hr2 Tryz.underlying35 rfl (by kernel_rfl)) rfl ⟨rfl, ?_⟩
  exact ((HB1.out.setCell (p := ⟨q, 0, none⟩) (by rw [HQ.out]; exact Nat.le_refl _) _).setCell (p := ⟨q, 1, none⟩) (by rw [HQ.out]; exact Nat.le_refl _) _).setCell (p := ⟨q, 2, none⟩) (by rw [HQ.out]; exact Nat.le_refl _) _
/-- The last region's state. -/
def LastP (w : World) (g : Nat) (s : GF) (m : Option Addr) (a : Nat) (tl : Value) (e : Ending) (w' : World) : Prop :=
  e = .returned (.tuple #[]) ∧ ∃ gl V', GtAt w' g { s with tl := tl, un := .iface 109 (.pointer (some ⟨gl, 0, none⟩)), th := nextV 44 g } ∧ Row w' gl 150 (laC m (laF (lns a) gl) false 0 s.cl V') ∧ AhA w' V' (lns a) ∧ (∀ k, V'.ownBlock = some k → w.heap.size ≤ k ∧ k ≠ gl) ∧ w.heap.size ≤ gl ∧ But w w' (fun q => q = g)
set_option maxRecDepth 100000 in
set_option maxHeartbeats 6400000 in
theorem gtLasts_any {w : World} {g f a : Nat} {s : GF} {m : Option Addr} {fi lb : Array Value} (h : GtAt w g s) (hM : ∀ W, But w W (fun q => q = g) → Calls Tryz.prog 19 #[.pointer s.si] W fun e w' => e = .returned (.pointer m) ∧ W = w') (ha : s.at_ = (a : Int)) (h128 : a + 128 < 18446744073709551616) :
    Calls Tryz.prog 23 #[.pointer (some ⟨g, 0, none⟩), .func (.func f) fi lb] w (LastP w g s m a (.func (.func f) fi lb)) := by
  have mixed : Tryz.prog.follows .mixedOrders = true := by kernel_rfl
  have c8 : w.cell? ⟨g, 8, none⟩ = some s.tl := Row.cell h 8
  have f8 := Row.free h 8
  obtain ⟨W1, hW1⟩ : ∃ W1, W1 = w.setCell ⟨g, 8, none⟩ (.func (.func f) fi lb) := ⟨_, rfl⟩
  have hg1 : GtAt W1 g { s with tl := .func (.func f) fi lb } := by rw [hW1]; exact h.tell _
  have hb1 : But w W1 (fun q => q = g) := by rw [hW1]; exact gbut1 (But.refl w (fun q => q = g)) 8 _
  have hbd : But w W1.drew (fun q => q = g) := hb1.trans (But.of_below (drew_below W1) (fun q => q = g)) fun q hq => .inl hq
  have HM := Lib.hid (hM _ hbd)
  have HLN := Lib.hid fun W => laLines_any (w := W) h128
  have EM := Lib.hid (enters_of Tryz.func19 (by kernel_rfl) rfl)
  have EL := Lib.hid (enters_of Tryz.func43 (by kernel_rfl) rfl)
  have EN := Lib.hid (enters_of Tryz.func42 (by kernel_rfl) rfl)
  obtain ⟨si, hsi⟩ : ∃ x, x = s.si := ⟨_, rfl⟩
  obtain ⟨cl, hcl⟩ : ∃ x, x = s.cl := ⟨_, rfl⟩
  have HSS := Lib.hid (show ∀ W t, GtAt W g t → t.si = s.si → t.cl = s.cl → t.at_ = s.at_ → W.cell? ⟨g, 0, none⟩ = some (.pointer si) ∧ W.cell? ⟨g, 1, none⟩ = some (.int .i64 cl) ∧ W.cell? ⟨g, 7, none⟩ = some (.int .u64 (a : Int)) from fun W t h e1 e2 e3 => by
    rw [hsi, hcl, ← ha, ← e1, ← e2, ← e3]
    exact ⟨Row.cell h 0, Row.cell h 1, Row.cell h 7⟩)
  rw [← hsi] at HM
  have HCL := Lib.hid hcl
  have HG1 := Lib.hid hg1
  have HBD := Lib.hid hbd
  have HLT := Lib.hid (And.intro h.lt hg1.lt)
  clear h hM ha h128 hsi hcl hg1 hb1 hbd
  go_enter Tryz.func23, Tryz.ntmps23
  go_wp2_with fail
  (try rw [← hW1])
  refine wp_region_held_drew (S := fun W => W.cell? ⟨g, 0, none⟩ = some (.pointer si) ∧ W.cell? ⟨g, 1, none⟩ = some (.int .i64 cl) ∧ W.cell? ⟨g, 7, none⟩ = some (.int .u64 (a : Int))) (by kernel_rfl) (HSS.out _ _ (HG1.out.below (drew_below W1)) rfl rfl rfl) (fun hHeld => ?_)
  refine wpAnyH_take (i := 0) (oi := ⟨some 8, _, _, _, _, _⟩) (v := .pointer (some ⟨g, 0, none⟩)) rfl (by kernel_rfl) (by kernel_rfl) (by kernel_rfl) (fun _ _ _ h => h) (Or.inl ⟨by kernel_rfl, by intro WW hSw; obtain ⟨s0, s1, s2⟩ := hSw; go_simp⟩) (by assumption) ?_
  (try simp only [Act.put, List.setIfInBounds_toArray, List.set_cons_zero, List.set_cons_succ])
  refine wpAnyH_take (i := 1) (oi := ⟨some 9, _, _, _, _, _⟩) (v := .pointer (some ⟨g, 0, none⟩)) rfl (by kernel_rfl) (by kernel_rfl) (by kernel_rfl) (fun _ _ _ h => h) (Or.inl ⟨by kernel_rfl, by intro WW hSw; obtain ⟨s0, s1, s2⟩ := hSw; go_simp⟩) (by assumption) ?_
  (try simp only [Act.put, List.setIfInBounds_toArray, List.set_cons_zero, List.set_cons_succ])
  refine wpAnyH_take (i := 2) (oi := ⟨some 10, _, _, _, _, _⟩) (v := .pointer (some ⟨g, 0, none⟩)) rfl (by kernel_rfl) (by kernel_rfl) (by kernel_rfl) (fun _ _ _ h => h) (Or.inl ⟨by kernel_rfl, by intro WW hSw; obtain ⟨s0, s1, s2⟩ := hSw; go_simp⟩) (by assumption) ?_
  (try simp only [Act.put, List.setIfInBounds_toArray, List.set_cons_zero, List.set_cons_succ])
  refine wpAnyH_take (i := 3) (oi := ⟨some 11, _, _, _, _, _⟩) (v := .pointer (some ⟨g, 0, none⟩)) rfl (by kernel_rfl) (by kernel_rfl) (by kernel_rfl) (fun _ _ _ h => h) (Or.inl ⟨by kernel_rfl, by intro WW hSw; obtain ⟨s0, s1, s2⟩ := hSw; go_simp⟩) (by assumption) ?_
  (try simp only [Act.put, List.setIfInBounds_toArray, List.set_cons_zero, List.set_cons_succ])
  refine wpAnyH_take (i := 4) (oi := ⟨some 12, _, _, _, _, _⟩) (v := .pointer (some ⟨g, 0, none⟩)) rfl (by kernel_rfl) (by kernel_rfl) (by kernel_rfl) (fun _ _ _ h => h) (Or.inl ⟨by kernel_rfl, by intro WW hSw; obtain ⟨s0, s1, s2⟩ := hSw; go_simp⟩) (by assumption) ?_
  (try simp only [Act.put, List.setIfInBounds_toArray, List.set_cons_zero, List.set_cons_succ])
  refine wpAnyH_take (i := 5) (oi := ⟨some 13, _, _, _, _, _⟩) (v := .pointer si) rfl (by kernel_rfl) (by kernel_rfl) (by kernel_rfl) (fun _ _ _ h => h) (Or.inl ⟨by kernel_rfl, by intro WW hSw; obtain ⟨s0, s1, s2⟩ := hSw; go_simp⟩) (by assumption) ?_
  (try simp only [Act.put, List.setIfInBounds_toArray, List.set_cons_zero, List.set_cons_succ])
  refine wpAnyH_take (i := 7) (oi := ⟨some 15, _, _, _, _, _⟩) (v := .pointer (some ⟨g, 0, none⟩)) rfl (by kernel_rfl) (by kernel_rfl) (by kernel_rfl) (fun _ _ _ h => h) (Or.inl ⟨by kernel_rfl, by intro WW hSw; obtain ⟨s0, s1, s2⟩ := hSw; go_simp⟩) (by assumption) ?_
  (try simp only [Act.put, List.setIfInBounds_toArray, List.set_cons_zero, List.set_cons_succ])
  refine wpAnyH_take (i := 8) (oi := ⟨some 16, _, _, _, _, _⟩) (v := .pointer (some ⟨g, 0, none⟩)) rfl (by kernel_rfl) (by kernel_rfl) (by kernel_rfl) (fun _ _ _ h => h) (Or.inl ⟨by kernel_rfl, by intro WW hSw; obtain ⟨s0, s1, s2⟩ := hSw; go_simp⟩) (by assumption) ?_
  (try simp only [Act.put, List.setIfInBounds_toArray, List.set_cons_zero, List.set_cons_succ])
  refine wpAnyH_take (i := 9) (oi := ⟨some 17, _, _, _, _, _⟩) (v := .pointer (some ⟨g, 1, none⟩)) rfl (by kernel_rfl) (by kernel_rfl) (by kernel_rfl) (fun _ _ _ h => h) (Or.inl ⟨by kernel_rfl, by intro WW hSw; obtain ⟨s0, s1, s2⟩ := hSw; go_simp⟩) (by assumption) ?_
  (try simp only [Act.put, List.setIfInBounds_toArray, List.set_cons_zero, List.set_cons_succ])
  refine wpAnyH_take (i := 10) (oi := ⟨some 18, _, _, _, _, _⟩) (v := .int .i64 cl) rfl (by kernel_rfl) (by kernel_rfl) (by kernel_rfl) (fun _ _ _ h => h) (Or.inl ⟨by kernel_rfl, by intro WW hSw; obtain ⟨s0, s1, s2⟩ := hSw; go_simp⟩) (by assumption) ?_
  (try simp only [Act.put, List.setIfInBounds_toArray, List.set_cons_zero, List.set_cons_succ])
  refine wpAnyH_take (i := 11) (oi := ⟨some 19, _, _, _, _, _⟩) (v := .pointer (some ⟨g, 0, none⟩)) rfl (by kernel_rfl) (by kernel_rfl) (by kernel_rfl) (fun _ _ _ h => h) (Or.inl ⟨by kernel_rfl, by intro WW hSw; obtain ⟨s0, s1, s2⟩ := hSw; go_simp⟩) (by assumption) ?_
  (try simp only [Act.put, List.setIfInBounds_toArray, List.set_cons_zero, List.set_cons_succ])
  refine wpAnyH_take (i := 12) (oi := ⟨some 20, _, _, _, _, _⟩) (v := .pointer (some ⟨g, 0, none⟩)) rfl (by kernel_rfl) (by kernel_rfl) (by kernel_rfl) (fun _ _ _ h => h) (Or.inl ⟨by kernel_rfl, by intro WW hSw; obtain ⟨s0, s1, s2⟩ := hSw; go_simp⟩) (by assumption) ?_
  (try simp only [Act.put, List.setIfInBounds_toArray, List.set_cons_zero, List.set_cons_succ])
  refine wpAnyH_take (i := 13) (oi := ⟨some 21, _, _, _, _, _⟩) (v := .pointer (some ⟨g, 7, none⟩)) rfl (by kernel_rfl) (by kernel_rfl) (by kernel_rfl) (fun _ _ _ h => h) (Or.inl ⟨by kernel_rfl, by intro WW hSw; obtain ⟨s0, s1, s2⟩ := hSw; go_simp⟩) (by assumption) ?_
  (try simp only [Act.put, List.setIfInBounds_toArray, List.set_cons_zero, List.set_cons_succ])
  refine wpAnyH_take (i := 14) (oi := ⟨some 22, _, _, _, _, _⟩) (v := .int .u64 (a : Int)) rfl (by kernel_rfl) (by kernel_rfl) (by kernel_rfl) (fun _ _ _ h => h) (Or.inl ⟨by kernel_rfl, by intro WW hSw; obtain ⟨s0, s1, s2⟩ := hSw; go_simp⟩) (by assumption) ?_
  (try simp only [Act.put, List.setIfInBounds_toArray, List.set_cons_zero, List.set_cons_succ])
  refine wpAnyH_take (i := 18) (oi := ⟨some 26, _, _, _, _, _⟩) (v := .pointer (some ⟨g, 0, none⟩)) rfl (by kernel_rfl) (by kernel_rfl) (by kernel_rfl) (fun _ _ _ h => h) (Or.inl ⟨by kernel_rfl, by intro WW hSw; obtain ⟨s0, s1, s2⟩ := hSw; go_simp⟩) (by assumption) ?_
  (try simp only [Act.put, List.setIfInBounds_toArray, List.set_cons_zero, List.set_cons_succ])
  refine wpAnyH_take (i := 19) (oi := ⟨some 27, _, _, _, _, _⟩) (v := .func (.func 44) #[.pointer (some ⟨g, 0, none⟩)] #[]) rfl (by kernel_rfl) (by kernel_rfl) (by kernel_rfl) (fun _ _ _ h => h) (Or.inl ⟨by kernel_rfl, by intro WW hSw; obtain ⟨s0, s1, s2⟩ := hSw; go_simp⟩) (by assumption) ?_
  (try simp only [Act.put, List.setIfInBounds_toArray, List.set_cons_zero, List.set_cons_succ])
  refine wpAnyH_one (i := 6) (oi := ⟨_, _, _, _, _, _⟩) rfl (by kernel_rfl) (fun K hK => ?_)
  refine step_calls (by rfl) 19 EM.out [.tmp 13] _ rfl [.pointer si] rfl (HM.out) ?_
  rintro e w1 ⟨rfl, rfl⟩
  refine ⟨_, rfl, hK _ _ (HSS.out _ _ (HG1.out.below (drew_below W1)) rfl rfl rfl) (fun hHeld2 => ?_)⟩
  clear hK K
  (try simp only [Act.put, List.setIfInBounds_toArray, List.set_cons_zero, List.set_cons_succ])
  refine wpAnyH_one (i := 15) (oi := ⟨_, _, _, _, _, _⟩) rfl (by kernel_rfl) (fun K hK => ?_)
  refine step_calls (by rfl) 43 EL.out [.tmp 22] _ rfl [.int .u64 (a : Int)] rfl (HLN.out _) ?_
  rintro e w2 ⟨V, rfl, hV, hVk, hb2⟩
  have HG2 := Lib.hid ((HG1.out.below (drew_below W1)).below hb2)
  have HB2 := Lib.hid hb2
  have HN := Lib.hid (laNew_any (p := m) (c := cl) hV (by simp [lns]) (by simp [lns]))
  refine ⟨_, rfl, hK _ _ (HSS.out _ _ HG2.out rfl rfl rfl) (fun hHeld3 => ?_)⟩
  clear hK K hV hVk hb2
  (try simp only [Act.put, List.setIfInBounds_toArray, List.set_cons_zero, List.set_cons_succ])
  refine wpAnyH_one (i := 16) (oi := ⟨_, _, _, _, _, _⟩) rfl (by kernel_rfl) (fun K hK => ?_)
  refine step_calls (by rfl) 42 EN.out [.tmp 14, .tmp 18, .tmp 23] _ rfl [.pointer m, .int .i64 cl, V] rfl (HN.out) ?_
  rintro e w3 ⟨gl, V', rfl, hr3, ha3, hk3, hgl, hb3⟩
  have hg3 := HG2.out.below hb3
  have hbw : But w w3 (fun q => q = g) := (HBD.out.trans (But.of_below HB2.out (fun q => q = g)) fun q hq => .inl hq).trans (But.of_below hb3 (fun q => q = g)) fun q hq => .inl hq
  have hs2 : w.heap.size ≤ w2.heap.size := Nat.le_trans HBD.out.size HB2.out.size
  have hlt := HLT.out.1
  have hne : gl ≠ g := by omega
  have d3 : w3.cell? ⟨g, 3, none⟩ = some s.un := Row.cell hg3 3
  have f3 := Row.free hg3 3
  have hg4 := hg3.under (.iface 109 (.pointer (some ⟨gl, 0, none⟩)))
  obtain ⟨W4, hW4⟩ : ∃ W4, W4 = w3.setCell ⟨g, 3, none⟩ (.iface 109 (.pointer (some ⟨gl, 0, none⟩))) := ⟨_, rfl⟩
  rw [← hW4] at hg4
  have d4 : W4.cell? ⟨g, 4, none⟩ = some s.th := Row.cell hg4 4
  have f4 := Row.free hg4 4
  have hg5 := hg4.then_ (.func (.func 44) #[.pointer (some ⟨g, 0, none⟩)] #[])
  have HE := Lib.hid (show LastP w g s m a (.func (.func f) fi lb) (.returned (.tuple #[])) (W4.setCell ⟨g, 4, none⟩ (.func (.func 44) #[.pointer (some ⟨g, 0, none⟩)] #[])) from by
    have hb4 : But w3 W4 (fun q => q = g) := by rw [hW4]; exact gbut1 (But.refl w3 (fun q => q = g)) 3 _
    have hb5 := gbut1 hb4 4 (.func (.func 44) #[.pointer (some ⟨g, 0, none⟩)] #[])
    refine ⟨rfl, gl, V', hg5, ?_, ?_, fun k hk => ⟨Nat.le_trans hs2 (hk3 k hk).1, (hk3 k hk).2⟩, Nat.le_trans hs2 hgl, hbw.trans hb5 fun q hq => .inl hq⟩
    · rw [← HCL.out]
      exact hb5.row hr3 hne
    · exact ha3.same fun k hk => hb5.block k (ha3.lt (by simp [lns]) hk) (fun e => by have := (hk3 k hk).1; omega))
  have HS3 := Lib.hid (HSS.out _ _ hg3 rfl rfl rfl)
  have HS4 := Lib.hid (HSS.out _ _ hg4 rfl rfl rfl)
  have HS5 := Lib.hid (HSS.out _ _ hg5 rfl rfl rfl)
  refine ⟨_, rfl, hK _ _ HS3.out (fun hHeld4 => ?_)⟩
  clear hK K hr3 ha3 hk3 hgl hb3 hg3 hbw hs2 hlt hne hg4 hg5 HN HG2 HB2
  (try simp only [Act.put, List.setIfInBounds_toArray, List.set_cons_zero, List.set_cons_succ])
  refine wpAnyH_take (i := 17) (oi := ⟨some 25, _, _, _, _, _⟩) (v := .iface 109 (.pointer (some ⟨gl, 0, none⟩))) rfl (by kernel_rfl) (by kernel_rfl) (by kernel_rfl) (fun _ _ _ h => h) (Or.inl ⟨by kernel_rfl, by intro WW hSw; obtain ⟨s0, s1, s2⟩ := hSw; go_simp⟩) (by assumption) ?_
  (try simp only [Act.put, List.setIfInBounds_toArray, List.set_cons_zero, List.set_cons_succ])
  refine wpAnyH_take (i := 20) (oi := ⟨some 28, _, _, _, _, _⟩) (v := .pointer (some ⟨g, 0, none⟩)) rfl (by kernel_rfl) (by kernel_rfl) (by kernel_rfl) (fun _ _ _ h => h) (Or.inl ⟨by kernel_rfl, by intro WW hSw; obtain ⟨s0, s1, s2⟩ := hSw; go_simp⟩) (by assumption) ?_
  (try simp only [Act.put, List.setIfInBounds_toArray, List.set_cons_zero, List.set_cons_succ])
  refine wpAnyH_take (i := 21) (oi := ⟨some 29, _, _, _, _, _⟩) (v := .pointer (some ⟨g, 3, none⟩)) rfl (by kernel_rfl) (by kernel_rfl) (by kernel_rfl) (fun _ _ _ h => h) (Or.inl ⟨by kernel_rfl, by intro WW hSw; obtain ⟨s0, s1, s2⟩ := hSw; go_simp⟩) (by assumption) ?_
  (try simp only [Act.put, List.setIfInBounds_toArray, List.set_cons_zero, List.set_cons_succ])
  refine wpAnyH_one (i := 22) (oi := ⟨none, _, _, _, _, _⟩) rfl (by kernel_rfl) (fun K hK => ?_)
  refine step_store1 (by rfl) _ (.tmp 29) (.tmp 25) rfl g 3 (.iface 109 (.pointer (some ⟨gl, 0, none⟩))) _ rfl rfl rfl d3 f3 (by kernel_rfl) rfl ?_
  rw [← hW4]
  refine hK _ _ HS4.out (fun hHeld5 => ?_)
  clear hK K
  (try simp only [Act.put, List.setIfInBounds_toArray, List.set_cons_zero, List.set_cons_succ])
  refine wpAnyH_take (i := 23) (oi := ⟨some 30, _, _, _, _, _⟩) (v := .pointer (some ⟨g, 0, none⟩)) rfl (by kernel_rfl) (by kernel_rfl) (by kernel_rfl) (fun _ _ _ h => h) (Or.inl ⟨by kernel_rfl, by intro WW hSw; obtain ⟨s0, s1, s2⟩ := hSw; go_simp⟩) (by assumption) ?_
  (try simp only [Act.put, List.setIfInBounds_toArray, List.set_cons_zero, List.set_cons_succ])
  refine wpAnyH_take (i := 24) (oi := ⟨some 31, _, _, _, _, _⟩) (v := .pointer (some ⟨g, 4, none⟩)) rfl (by kernel_rfl) (by kernel_rfl) (by kernel_rfl) (fun _ _ _ h => h) (Or.inl ⟨by kernel_rfl, by intro WW hSw; obtain ⟨s0, s1, s2⟩ := hSw; go_simp⟩) (by assumption) ?_
  (try simp only [Act.put, List.setIfInBounds_toArray, List.set_cons_zero, List.set_cons_succ])
  refine wpAnyH_one (i := 25) (oi := ⟨none, _, _, _, _, _⟩) rfl (by kernel_rfl) (fun K hK => ?_)
  refine step_store1 (by rfl) _ (.tmp 31) (.tmp 27) rfl g 4 (.func (.func 44) #[.pointer (some ⟨g, 0, none⟩)] #[]) _ rfl rfl rfl d4 f4 (by kernel_rfl) rfl ?_
  refine hK _ _ HS5.out (fun hHeld6 => ?_)
  clear hK K
  (try simp only [Act.put, List.setIfInBounds_toArray, List.set_cons_zero, List.set_cons_succ])
  refine wpAnyH_done (by kernel_rfl) ?_ _
  clear hHeld hHeld2 hHeld3 hHeld4 hHeld5 hHeld6 HS3 HS4 HS5
  go_wp2
  go_end0
  exact HE.out
set_option maxRecDepth 100000 in
set_option maxHeartbeats 3200000 in
theorem gtLasted_N {w : World} {g gb : Nat} {s : GF} {rc : Int} {rv : ByteArray} (h : GtAt w g s) (ht : s.tl = .func (.func 24) #[] #[])
    (HT : Calls Tryz.prog 24 #[] w fun e w' => e = .returned (.agg #[.int .i64 rc, .string rv, .slice none 0 0]) ∧ Below w.heap.size w w') :
    Calls Tryz.prog 44 #[.pointer (some ⟨g, 0, none⟩), .int .i64 0] w fun e w' => e = .returned (.int .i64 0) ∧ GtAt w' g { s with d := true, rc := rc, rv := rv, rp := .slice none 0 0 } ∧ But w w' (fun q => q = g) := by
  have d8 : w.cell? ⟨g, 8, none⟩ = some s.tl := Row.cell h 8
  rw [ht] at d8
  have HT := Lib.hid HT
  have HG := Lib.hid h
  clear h ht
  go_enter Tryz.func44, Tryz.ntmps44
  go_wp2_with fail
  refine HT.out.mono ?_
  rintro e w1 ⟨rfl, hb⟩
  have hg1 := HG.out.below hb
  have e10 : w1.cell? ⟨g, 10, none⟩ = some (.bool s.d) := Row.cell hg1 10
  have e12 : w1.cell? ⟨g, 12, none⟩ = some (.int .i64 s.rc) := Row.cell hg1 12
  have e13 : w1.cell? ⟨g, 13, none⟩ = some (.string s.rv) := Row.cell hg1 13
  have e14 : w1.cell? ⟨g, 14, none⟩ = some s.rp := Row.cell hg1 14
  have f10 := Row.free hg1 10
  have f12 := Row.free hg1 12
  have f13 := Row.free hg1 13
  have f14 := Row.free hg1 14
  have HE := Lib.hid (show GtAt ((((w1.setCell ⟨g, 10, none⟩ (.bool true)).setCell ⟨g, 12, none⟩ (.int .i64 rc)).setCell ⟨g, 13, none⟩ (.string rv)).setCell ⟨g, 14, none⟩ (.slice none 0 0)) g { s with d := true, rc := rc, rv := rv, rp := .slice none 0 0 } ∧ But w ((((w1.setCell ⟨g, 10, none⟩ (.bool true)).setCell ⟨g, 12, none⟩ (.int .i64 rc)).setCell ⟨g, 13, none⟩ (.string rv)).setCell ⟨g, 14, none⟩ (.slice none 0 0)) (fun q => q = g) from
    ⟨Row.set (Row.set (Row.set (Row.set hg1 10 (.bool true)) 12 (.int .i64 rc)) 13 (.string rv)) 14 (.slice none 0 0), gbut1 (gbut1 (gbut1 (gbut1 (But.of_below hb (fun q => q = g)) 10 _) 12 _) 13 _) 14 _⟩)
  clear hg1 hb HT HG d8
  go_wp2
  go_ret
  exact ⟨rfl, HE.out⟩
set_option maxRecDepth 100000 in
set_option maxHeartbeats 3200000 in
theorem gtLasted_T {w : World} {g gb : Nat} {s : GF} {rc : Int} {rv : ByteArray} (h : GtAt w g s) (ht : s.tl = .func (.func 27) #[] #[.pointer (some ⟨gb, 0, none⟩)])
    (HT : Calls Tryz.prog 27 #[.pointer (some ⟨gb, 0, none⟩)] w fun e w' => e = .returned (.agg #[.int .i64 rc, .string rv, .slice none 0 0]) ∧ Below w.heap.size w w') :
    Calls Tryz.prog 44 #[.pointer (some ⟨g, 0, none⟩), .int .i64 0] w fun e w' => e = .returned (.int .i64 0) ∧ GtAt w' g { s with d := true, rc := rc, rv := rv, rp := .slice none 0 0 } ∧ But w w' (fun q => q = g) := by
  have d8 : w.cell? ⟨g, 8, none⟩ = some s.tl := Row.cell h 8
  rw [ht] at d8
  have HT := Lib.hid HT
  have HG := Lib.hid h
  clear h ht
  go_enter Tryz.func44, Tryz.ntmps44
  go_wp2_with fail
  refine HT.out.mono ?_
  rintro e w1 ⟨rfl, hb⟩
  have hg1 := HG.out.below hb
  have e10 : w1.cell? ⟨g, 10, none⟩ = some (.bool s.d) := Row.cell hg1 10
  have e12 : w1.cell? ⟨g, 12, none⟩ = some (.int .i64 s.rc) := Row.cell hg1 12
  have e13 : w1.cell? ⟨g, 13, none⟩ = some (.string s.rv) := Row.cell hg1 13
  have e14 : w1.cell? ⟨g, 14, none⟩ = some s.rp := Row.cell hg1 14
  have f10 := Row.free hg1 10
  have f12 := Row.free hg1 12
  have f13 := Row.free hg1 13
  have f14 := Row.free hg1 14
  have HE := Lib.hid (show GtAt ((((w1.setCell ⟨g, 10, none⟩ (.bool true)).setCell ⟨g, 12, none⟩ (.int .i64 rc)).setCell ⟨g, 13, none⟩ (.string rv)).setCell ⟨g, 14, none⟩ (.slice none 0 0)) g { s with d := true, rc := rc, rv := rv, rp := .slice none 0 0 } ∧ But w ((((w1.setCell ⟨g, 10, none⟩ (.bool true)).setCell ⟨g, 12, none⟩ (.int .i64 rc)).setCell ⟨g, 13, none⟩ (.string rv)).setCell ⟨g, 14, none⟩ (.slice none 0 0)) (fun q => q = g) from
    ⟨Row.set (Row.set (Row.set (Row.set hg1 10 (.bool true)) 12 (.int .i64 rc)) 13 (.string rv)) 14 (.slice none 0 0), gbut1 (gbut1 (gbut1 (gbut1 (But.of_below hb (fun q => q = g)) 10 _) 12 _) 13 _) 14 _⟩)
  clear hg1 hb HT HG d8
  go_wp2
  go_ret
  exact ⟨rfl, HE.out⟩
end Go.Proofs.YtpjlajkjknkbaaaGreatDoor
/- What stands behind a get's walk, and behind its look whether the leaf is as it was; no conditions. -/
namespace Go.Proofs.YtpjlajkjknkbaaaGreatDoor
open Go.RowKit
set_option linter.unusedVariables false
attribute [local go_sem] Oper.semAt_some
theorem LastP.up {w w2 : World} {g a : Nat} {s : GF} {m : Option Addr} {tl : Value} {e : Ending} {w' : World} (hb : But w w2 (fun q => q = g)) (h : LastP w2 g s m a tl e w') : LastP w g s m a tl e w' := by
  obtain ⟨he, gl, V', h1, h2, h3, h4, h5, h6⟩ := h
  exact ⟨he, gl, V', h1, h2, h3, fun k hk => ⟨Nat.le_trans hb.size (h4 k hk).1, (h4 k hk).2⟩, Nat.le_trans hb.size h5, hb.trans h6 fun q hq => .inl hq⟩
theorem fieldR0 (k : Int) (S : ByteArray) (V : Value) (w : World) : (Instr.field 35 (.agg #[.int .i64 k, .string S, V]) 0).run Tryz.prog w = .ok (.int .i64 k) w := by kernel_rfl
set_option maxRecDepth 100000 in
set_option maxHeartbeats 3200000 in
theorem gtAsked_yes {w : World} {g gb gq a : Nat} {s : GF} {m : Option Addr} {rv : ByteArray} (h : GtAt w g s) (hs : s.st = .pointer (some ⟨gq, 0, none⟩)) (ht : s.tl = .func (.func 27) #[] #[.pointer (some ⟨gb, 0, none⟩)])
    (HS : Calls Tryz.prog 74 #[.pointer (some ⟨gq, 0, none⟩)] w fun e w' => e = .returned (.bool true) ∧ Below w.heap.size w w')
    (HT : ∀ W, Below w.heap.size w W → Calls Tryz.prog 27 #[.pointer (some ⟨gb, 0, none⟩)] W fun e w' => e = .returned (.agg #[.int .i64 0, .string rv, .slice none 0 0]) ∧ Below W.heap.size W w')
    (hM : ∀ W, But w W (fun q => q = g) → Calls Tryz.prog 19 #[.pointer s.si] W fun e w' => e = .returned (.pointer m) ∧ W = w') (ha : s.at_ = (a : Int)) (h128 : a + 128 < 18446744073709551616) :
    Calls Tryz.prog 48 #[.pointer (some ⟨g, 0, none⟩), .int .i64 0] w fun e w' => e = .returned (.int .i64 0) ∧ LastP w g s m a s.tl (.returned (.tuple #[])) w' := by
  have c6 : w.cell? ⟨g, 6, none⟩ = some s.st := Row.cell h 6
  rw [hs] at c6
  have HS := Lib.hid HS
  have HTT := Lib.hid HT
  have HL := Lib.hid (show ∀ W, Below w.heap.size w W → Calls Tryz.prog 23 #[.pointer (some ⟨g, 0, none⟩), .func (.func 27) #[] #[.pointer (some ⟨gb, 0, none⟩)]] W (fun e w' => e = .returned (.tuple #[]) ∧ LastP w g s m a s.tl (.returned (.tuple #[])) w') from fun W hb => by
    have hbt := But.of_below hb (fun q => q = g)
    refine (gtLasts_any (h.below hb) (fun W2 hb2 => hM W2 (hbt.trans hb2 fun q hq => .inl hq)) ha h128).mono ?_
    intro e w' hp
    have he := hp.1
    subst he
    refine ⟨rfl, ?_⟩
    rw [ht]
    exact hp.up hbt)
  have HG := Lib.hid h
  have HTL := Lib.hid ht
  have qf := fun W => fieldR0 0 rv (.slice none 0 0) W
  clear h hs ht HT hM ha h128
  go_enter Tryz.func48, Tryz.ntmps48
  go_wp2_with fail
  refine HS.out.mono ?_
  rintro e w1 ⟨rfl, hb1⟩
  have c8 : w1.cell? ⟨g, 8, none⟩ = some s.tl := Row.cell (HG.out.below hb1) 8
  rw [HTL.out] at c8
  have HT1 := Lib.hid (HTT.out w1 hb1)
  have HB1 := Lib.hid hb1
  clear hb1 c6 HS
  go_wp2_with fail
  refine HT1.out.mono ?_
  rintro e w2 ⟨rfl, hb2⟩
  have hb12 := Below.and HB1.out hb2
  have c8' : w2.cell? ⟨g, 8, none⟩ = some s.tl := Row.cell (HG.out.below hb12) 8
  rw [HTL.out] at c8'
  have HL2 := Lib.hid (HL.out w2 hb12)
  clear hb2 hb12 c8 HT1 HTT HL
  go_wp2_with fail
  refine HL2.out.mono ?_
  rintro e w3 ⟨rfl, hp⟩
  have HP := Lib.hid hp
  clear hp HL2 c8'
  go_wp2
  go_ret
  exact ⟨rfl, HP.out⟩
end Go.Proofs.YtpjlajkjknkbaaaGreatDoor
/- What stands behind a get's walk: the leaf known, no value, or one; no conditions. -/
namespace Go.Proofs.YtpjlajkjknkbaaaGreatDoor
open Go.RowKit
set_option linter.unusedVariables false
attribute [local go_sem] Oper.semAt_some
set_option maxRecDepth 100000 in
set_option maxHeartbeats 6400000 in
theorem gtCame_none {w : World} {g gw a : Nat} {s : GF} {n : Nd} {m : Option Addr} (h : GtAt w g s) (hwk : s.wk = .pointer (some ⟨gw, 0, none⟩))
    (HA : Calls Tryz.prog 21 #[.pointer (some ⟨gw, 0, none⟩)] w fun e w' => e = .returned (.tuple #[.int .u64 (a : Int), n.V, .int .i64 0]) ∧ Below w.heap.size w w')
    (hf : n.find s.key = none) (hM : ∀ W, But w W (fun q => q = g) → Calls Tryz.prog 19 #[.pointer s.si] W fun e w' => e = .returned (.pointer m) ∧ W = w') (h128 : a + 128 < 18446744073709551616) :
    Calls Tryz.prog 16 #[.pointer (some ⟨g, 0, none⟩), .int .i64 0] w fun e w' => e = .returned (.int .i64 0) ∧ LastP w g { s with at_ := (a : Int) } m a (.func (.func 24) #[] #[]) (.returned (.tuple #[])) w' := by
  have mixed : Tryz.prog.follows .mixedOrders = true := by kernel_rfl
  have c5 : w.cell? ⟨g, 5, none⟩ = some s.wk := Row.cell h 5
  rw [hwk] at c5
  have HAA := Lib.hid HA
  have HG := Lib.hid h
  have EF := Lib.hid (enters_of Tryz.func22 (by kernel_rfl) rfl)
  obtain ⟨key, hkey⟩ : ∃ x, x = s.key := ⟨_, rfl⟩
  have HKEY := Lib.hid hkey
  have HFD := Lib.hid (show ∀ W, Calls Tryz.prog 22 #[n.V, .int .u64 key] W fun e w' => e = .returned (.tuple #[.int .i64 0, .bool false]) ∧ Below W.heap.size W w' from fun W => by
    have := nFind_any n key W
    rw [hkey, hf] at this
    rw [hkey]
    exact this)
  have HL := Lib.hid (show ∀ W, GtAt W g { s with at_ := (a : Int) } → But w W (fun q => q = g) → Calls Tryz.prog 23 #[.pointer (some ⟨g, 0, none⟩), .func (.func 24) #[] #[]] W (fun e w' => e = .returned (.tuple #[]) ∧ LastP w g { s with at_ := (a : Int) } m a (.func (.func 24) #[] #[]) (.returned (.tuple #[])) w') from fun W hg hbt => by
    refine (gtLasts_any hg (fun W2 hb2 => hM W2 (hbt.trans hb2 fun q hq => .inl hq)) rfl h128).mono ?_
    intro e w' hp
    have he := hp.1
    subst he
    exact ⟨rfl, hp.up hbt⟩)
  clear h hwk HA hf hM h128 hkey
  go_enter Tryz.func16, Tryz.ntmps16
  go_wp2_with fail
  refine HAA.out.mono ?_
  rintro e w1 ⟨rfl, hb1⟩
  have HB1 := Lib.hid hb1
  clear hb1 c5 HAA
  go_upto_region 4 with (first
    | ((with_reducible refine show_storeN ?_); refine wpList_store_row rfl _ _ _ rfl w1.heap.size n.cl rfl rfl (Row.new w1 69 zeroNd.cl.toArray) rfl ndI (cl_one _) ?_))
  obtain ⟨W2, hW2, hn2, hb2⟩ := store_nd w1 n
  rw [← hW2]
  have HB2 := Lib.hid (Below.and HB1.out hb2)
  obtain ⟨gn, hgn⟩ : ∃ x, x = w1.heap.size := ⟨_, rfl⟩
  rw [← hgn] at hn2 ⊢
  have hne : gn ≠ g := by have := HG.out.lt; have := HB1.out.size; omega
  have hg2 := HG.out.below HB2.out
  have d7 : W2.cell? ⟨g, 7, none⟩ = some (.int .u64 s.at_) := Row.cell hg2 7
  have f7 := Row.free hg2 7
  obtain ⟨W3, hW3⟩ : ∃ x, x = W2.setCell ⟨g, 7, none⟩ (.int .u64 (a : Int)) := ⟨_, rfl⟩
  have HG3 := Lib.hid (show GtAt W3 g { s with at_ := (a : Int) } from by rw [hW3]; exact hg2.ats _)
  have HN3 := Lib.hid (show NdAt W3 gn n from by rw [hW3]; exact Row.other hn2 (p := ⟨g, 7, none⟩) hne _)
  have HBT3 := Lib.hid (show But w W3 (fun q => q = g) from by rw [hW3]; exact gbut1 (But.of_below HB2.out (fun q => q = g)) 7 _)
  have HGN := Lib.hid (And.intro hne (show w.heap.size ≤ gn from by rw [hgn]; exact HB1.out.size))
  clear hW2 hn2 hb2 hgn hne hg2 HB1 HB2
  go_wp2_with fail
  (try rw [← hW3])
  clear d7 f7 hW3
  have HSR := Lib.hid (show ∀ W : World, (W.rangeAt gn 0 n.cl ∧ W.cell? ⟨g, 2, none⟩ = some (.int .u64 key)) → W.rangeAt gn 0 n.cl from fun W h => h.1)
  have HS5 := Lib.hid (show ∀ W : World, Below W3.heap.size W3 W → W.rangeAt gn 0 n.cl ∧ W.cell? ⟨g, 2, none⟩ = some (.int .u64 key) from fun W hb => ⟨ndR (HN3.out.below hb HN3.out.lt), by rw [HKEY.out]; exact Row.cell (HG3.out.below hb) 2⟩)
  refine wp_region_held_drew (S := fun W : World => W.rangeAt gn 0 n.cl ∧ W.cell? ⟨g, 2, none⟩ = some (.int .u64 key)) (by kernel_rfl) (HS5.out _ (drew_below W3)) (fun hHeld => ?_)
  refine wpAnyH_take (i := 0) (oi := ⟨some 28, _, _, _, _, _⟩) (v := .agg n.cl.toArray) rfl (by kernel_rfl) (by kernel_rfl) (by kernel_rfl) (fun _ _ _ h => h) (yieldsIf_load_mid (by rfl) _ _ rfl gn 0 rfl n.cl _ HSR.out Tryz.underlying69 rfl ndI) (by assumption) ?_
  (try simp only [Act.put, List.setIfInBounds_toArray, List.set_cons_zero, List.set_cons_succ])
  refine wpAnyH_take (i := 1) (oi := ⟨some 29, _, _, _, _, _⟩) (v := .pointer (some ⟨g, 0, none⟩)) rfl (by kernel_rfl) (by kernel_rfl) (by kernel_rfl) (fun _ _ _ h => h) (Or.inl ⟨by kernel_rfl, by intro WW hSw; obtain ⟨s0, s1⟩ := hSw; go_simp⟩) (by assumption) ?_
  (try simp only [Act.put, List.setIfInBounds_toArray, List.set_cons_zero, List.set_cons_succ])
  refine wpAnyH_take (i := 2) (oi := ⟨some 30, _, _, _, _, _⟩) (v := .pointer (some ⟨g, 0, none⟩)) rfl (by kernel_rfl) (by kernel_rfl) (by kernel_rfl) (fun _ _ _ h => h) (Or.inl ⟨by kernel_rfl, by intro WW hSw; obtain ⟨s0, s1⟩ := hSw; go_simp⟩) (by assumption) ?_
  (try simp only [Act.put, List.setIfInBounds_toArray, List.set_cons_zero, List.set_cons_succ])
  refine wpAnyH_take (i := 3) (oi := ⟨some 31, _, _, _, _, _⟩) (v := .pointer (some ⟨g, 2, none⟩)) rfl (by kernel_rfl) (by kernel_rfl) (by kernel_rfl) (fun _ _ _ h => h) (Or.inl ⟨by kernel_rfl, by intro WW hSw; obtain ⟨s0, s1⟩ := hSw; go_simp⟩) (by assumption) ?_
  (try simp only [Act.put, List.setIfInBounds_toArray, List.set_cons_zero, List.set_cons_succ])
  refine wpAnyH_take (i := 4) (oi := ⟨some 32, _, _, _, _, _⟩) (v := .int .u64 key) rfl (by kernel_rfl) (by kernel_rfl) (by kernel_rfl) (fun _ _ _ h => h) (Or.inl ⟨by kernel_rfl, by intro WW hSw; obtain ⟨s0, s1⟩ := hSw; go_simp⟩) (by assumption) ?_
  (try simp only [Act.put, List.setIfInBounds_toArray, List.set_cons_zero, List.set_cons_succ])
  refine wpAnyH_one (i := 5) (oi := ⟨_, _, _, _, _, _⟩) rfl (by kernel_rfl) (fun K hK => ?_)
  refine step_calls (by rfl) 22 EF.out [.tmp 28, .tmp 32] _ rfl [n.V, .int .u64 key] rfl (HFD.out _) ?_
  rintro e w5 ⟨rfl, hb5⟩
  have HB5 := Lib.hid (Below.and (drew_below W3) hb5)
  refine ⟨_, rfl, hK _ _ (HS5.out _ HB5.out) (fun hHeld2 => ?_)⟩
  clear hK K hb5
  (try simp only [Act.put, List.setIfInBounds_toArray, List.set_cons_zero, List.set_cons_succ])
  refine wpAnyH_take (i := 6) (oi := ⟨some 27, _, _, _, _, _⟩) (v := .tuple #[.int .i64 0, .bool false]) rfl (by kernel_rfl) (by kernel_rfl) (by kernel_rfl) (fun _ _ _ h => h) (Or.inl ⟨by kernel_rfl, by intro WW hSw; obtain ⟨s0, s1⟩ := hSw; go_simp⟩) (by assumption) ?_
  (try simp only [Act.put, List.setIfInBounds_toArray, List.set_cons_zero, List.set_cons_succ])
  refine wpAnyH_take (i := 7) (oi := ⟨some 34, _, _, _, _, _⟩) (v := .int .i64 0) rfl (by kernel_rfl) (by kernel_rfl) (by kernel_rfl) (fun _ _ _ h => h) (Or.inl ⟨by kernel_rfl, by intro WW hSw; obtain ⟨s0, s1⟩ := hSw; go_simp⟩) (by assumption) ?_
  (try simp only [Act.put, List.setIfInBounds_toArray, List.set_cons_zero, List.set_cons_succ])
  refine wpAnyH_take (i := 8) (oi := ⟨some 35, _, _, _, _, _⟩) (v := .bool false) rfl (by kernel_rfl) (by kernel_rfl) (by kernel_rfl) (fun _ _ _ h => h) (Or.inl ⟨by kernel_rfl, by intro WW hSw; obtain ⟨s0, s1⟩ := hSw; go_simp⟩) (by assumption) ?_
  (try simp only [Act.put, List.setIfInBounds_toArray, List.set_cons_zero, List.set_cons_succ])
  refine wpAnyH_take (i := 9) (oi := ⟨some 8, _, _, _, _, _⟩) (v := .int .i64 0) rfl (by kernel_rfl) (by kernel_rfl) (by kernel_rfl) (fun _ _ _ h => h) (Or.inl ⟨by kernel_rfl, by intro WW hSw; obtain ⟨s0, s1⟩ := hSw; go_simp⟩) (by assumption) ?_
  (try simp only [Act.put, List.setIfInBounds_toArray, List.set_cons_zero, List.set_cons_succ])
  refine wpAnyH_take (i := 10) (oi := ⟨some 9, _, _, _, _, _⟩) (v := .bool false) rfl (by kernel_rfl) (by kernel_rfl) (by kernel_rfl) (fun _ _ _ h => h) (Or.inl ⟨by kernel_rfl, by intro WW hSw; obtain ⟨s0, s1⟩ := hSw; go_simp⟩) (by assumption) ?_
  (try simp only [Act.put, List.setIfInBounds_toArray, List.set_cons_zero, List.set_cons_succ])
  refine wpAnyH_done (by kernel_rfl) ?_ _
  have HL5 := Lib.hid (HL.out w5 (HG3.out.below HB5.out) (HBT3.out.trans (But.of_below HB5.out (fun q => q = g)) fun q hq => .inl hq))
  clear hHeld hHeld2 HL HS5 HSR
  go_wp2_with fail
  refine HL5.out.mono ?_
  rintro e w6 ⟨rfl, hp⟩
  have HP := Lib.hid hp
  clear hp HL5
  go_wp2
  go_ret
  exact ⟨rfl, HP.out⟩
end Go.Proofs.YtpjlajkjknkbaaaGreatDoor
/- What stands behind a get's walk: the leaf known, its first key the one looked for; no conditions. -/
namespace Go.Proofs.YtpjlajkjknkbaaaGreatDoor
open Go.RowKit
set_option linter.unusedVariables false
attribute [local go_sem] Oper.semAt_some
/-- What a leaf with the key leaves: a read of its value, a look, what is told. -/
def FoundP (w : World) (g : Nat) (s : GF) (n : Nd) (m : Option Addr) (a b : Nat) (w' : World) : Prop :=
  ∃ gb gr gq, GtAt w' g { s with at_ := (a : Int), st := .pointer (some ⟨gq, 0, none⟩), tl := .func (.func 27) #[] #[.pointer (some ⟨gb, 0, none⟩)], un := .iface 81 (.pointer (some ⟨gr, 0, none⟩)), th := nextV 29 g } ∧
    RdAt w' gr gr b m 45 [] ⟨#[]⟩ false 0 (.slice none 0 0) ∧ Row w' gb 81 #[.pointer (some ⟨gr, 0, none⟩)] ∧ Row w' gq 118 (stC m (nextV 46 gq) false 0 a n.nx n.ct 0 0) ∧
    w.heap.size ≤ gb ∧ w.heap.size ≤ gr ∧ w.heap.size ≤ gq ∧ gb ≠ gr ∧ gq ≠ gb ∧ gq ≠ gr ∧ But w w' (fun q => q = g)
theorem step_allocR {ops : Array Oper} {o : Oper} {a : Act} {w : World} {K : Act → World → Prop} {Q : Exit → Act → World → Prop} {E : Prop} (hgd : o.guard = none) (d : Nat) (hd : o.dst = some d) (ho : o.op = .alloc 81)
    (h : ∀ g w', g = w.heap.size → Row w' g 81 #[.pointer none] → Below w.heap.size w w' → w.heap.size < w'.heap.size → K (a.put (some d) (.pointer (some ⟨g, 0, none⟩))) w') :
    if Region.wanted o (yielded ops a.tmps) = true then Oper.wp Tryz.prog o a w K Q else E := by
  have hw : Region.wanted o (yielded ops a.tmps) = true := by simp [Region.wanted, hgd]
  rw [if_pos hw]
  unfold Oper.wp
  have e : (execOp a.eval o).run Tryz.prog w = .ok (.value (.pointer (some ⟨w.heap.size, 0, none⟩))) (w.alloc (.cells #[.pointer none] 81)) := by
    unfold execOp
    simp only [ho]
    go_simp
  rw [e, Oper.upon_value, hd]
  exact h _ _ rfl (Row.new _ _ _) (alloc_below _ _) (by simp)
set_option maxRecDepth 100000 in
set_option maxHeartbeats 6400000 in
theorem gtCame_found {w : World} {g gw a b : Nat} {s : GF} {n : Nd} {m : Option Addr} (h : GtAt w g s) (hwk : s.wk = .pointer (some ⟨gw, 0, none⟩))
    (HA : Calls Tryz.prog 21 #[.pointer (some ⟨gw, 0, none⟩)] w fun e w' => e = .returned (.tuple #[.int .u64 (a : Int), n.V, .int .i64 0]) ∧ Below w.heap.size w w')
    (hf : n.find s.key = some 0) (hp : n.cl[13]? = some (.int .u64 (b : Int))) (hM : ∀ W, But w W (fun q => q = g) → Calls Tryz.prog 19 #[.pointer s.si] W fun e w' => e = .returned (.pointer m) ∧ W = w') :
    Calls Tryz.prog 16 #[.pointer (some ⟨g, 0, none⟩), .int .i64 0] w fun e w' => e = .returned (.int .i64 0) ∧ FoundP w g s n m a b w' := by
  have mixed : Tryz.prog.follows .mixedOrders = true := by kernel_rfl
  have c5 : w.cell? ⟨g, 5, none⟩ = some s.wk := Row.cell h 5
  rw [hwk] at c5
  have HAA := Lib.hid HA
  have HG := Lib.hid h
  have EF := Lib.hid (enters_of Tryz.func22 (by kernel_rfl) rfl)
  obtain ⟨key, hkey⟩ : ∃ x, x = s.key := ⟨_, rfl⟩
  have HKEY := Lib.hid hkey
  have HFD := Lib.hid (show ∀ W, Calls Tryz.prog 22 #[n.V, .int .u64 key] W fun e w' => e = .returned (.tuple #[.int .i64 0, .bool true]) ∧ Below W.heap.size W w' from fun W => by
    have := nFind_any n key W
    rw [hkey, hf] at this
    rw [hkey]
    exact this)
  obtain ⟨si, hsi⟩ : ∃ x, x = s.si := ⟨_, rfl⟩
  have HSI := Lib.hid hsi
  have HMM := Lib.hid (show ∀ W, But w W (fun q => q = g) → Calls Tryz.prog 19 #[.pointer si] W fun e w' => e = .returned (.pointer m) ∧ W = w' from by rw [hsi]; exact hM)
  have EM := Lib.hid (enters_of Tryz.func19 (by kernel_rfl) rfl)
  have EV := Lib.hid (enters_of Tryz.func25 (by kernel_rfl) rfl)
  have ES := Lib.hid (enters_of Tryz.func26 (by kernel_rfl) rfl)
  have HP13 := Lib.hid hp
  clear hsi
  clear h hwk HA hf hM hp hkey
  go_enter Tryz.func16, Tryz.ntmps16
  go_wp2_with fail
  refine HAA.out.mono ?_
  rintro e w1 ⟨rfl, hb1⟩
  have HB1 := Lib.hid hb1
  clear hb1 c5 HAA
  go_upto_region 4 with (first
    | ((with_reducible refine show_storeN ?_); refine wpList_store_row rfl _ _ _ rfl w1.heap.size n.cl rfl rfl (Row.new w1 69 zeroNd.cl.toArray) rfl ndI (cl_one _) ?_))
  obtain ⟨W2, hW2, hn2, hb2⟩ := store_nd w1 n
  rw [← hW2]
  have HB2 := Lib.hid (Below.and HB1.out hb2)
  obtain ⟨gn, hgn⟩ : ∃ x, x = w1.heap.size := ⟨_, rfl⟩
  rw [← hgn] at hn2 ⊢
  have hne : gn ≠ g := by have := HG.out.lt; have := HB1.out.size; omega
  have hg2 := HG.out.below HB2.out
  have d7 : W2.cell? ⟨g, 7, none⟩ = some (.int .u64 s.at_) := Row.cell hg2 7
  have f7 := Row.free hg2 7
  obtain ⟨W3, hW3⟩ : ∃ x, x = W2.setCell ⟨g, 7, none⟩ (.int .u64 (a : Int)) := ⟨_, rfl⟩
  have HG3 := Lib.hid (show GtAt W3 g { s with at_ := (a : Int) } from by rw [hW3]; exact hg2.ats _)
  have HN3 := Lib.hid (show NdAt W3 gn n from by rw [hW3]; exact Row.other hn2 (p := ⟨g, 7, none⟩) hne _)
  have HBT3 := Lib.hid (show But w W3 (fun q => q = g) from by rw [hW3]; exact gbut1 (But.of_below HB2.out (fun q => q = g)) 7 _)
  have HGN := Lib.hid (And.intro hne (show w.heap.size ≤ gn from by rw [hgn]; exact HB1.out.size))
  clear hW2 hn2 hb2 hgn hne hg2 HB1 HB2
  go_wp2_with fail
  (try rw [← hW3])
  clear d7 f7 hW3
  have HSR := Lib.hid (show ∀ W : World, (W.rangeAt gn 0 n.cl ∧ W.cell? ⟨g, 2, none⟩ = some (.int .u64 key)) → W.rangeAt gn 0 n.cl from fun W h => h.1)
  have HS5 := Lib.hid (show ∀ W : World, Below W3.heap.size W3 W → W.rangeAt gn 0 n.cl ∧ W.cell? ⟨g, 2, none⟩ = some (.int .u64 key) from fun W hb => ⟨ndR (HN3.out.below hb HN3.out.lt), by rw [HKEY.out]; exact Row.cell (HG3.out.below hb) 2⟩)
  refine wp_region_held_drew (S := fun W : World => W.rangeAt gn 0 n.cl ∧ W.cell? ⟨g, 2, none⟩ = some (.int .u64 key)) (by kernel_rfl) (HS5.out _ (drew_below W3)) (fun hHeld => ?_)
  refine wpAnyH_take (i := 0) (oi := ⟨some 28, _, _, _, _, _⟩) (v := .agg n.cl.toArray) rfl (by kernel_rfl) (by kernel_rfl) (by kernel_rfl) (fun _ _ _ h => h) (yieldsIf_load_mid (by rfl) _ _ rfl gn 0 rfl n.cl _ HSR.out Tryz.underlying69 rfl ndI) (by assumption) ?_
  (try simp only [Act.put, List.setIfInBounds_toArray, List.set_cons_zero, List.set_cons_succ])
  refine wpAnyH_take (i := 1) (oi := ⟨some 29, _, _, _, _, _⟩) (v := .pointer (some ⟨g, 0, none⟩)) rfl (by kernel_rfl) (by kernel_rfl) (by kernel_rfl) (fun _ _ _ h => h) (Or.inl ⟨by kernel_rfl, by intro WW hSw; obtain ⟨s0, s1⟩ := hSw; go_simp⟩) (by assumption) ?_
  (try simp only [Act.put, List.setIfInBounds_toArray, List.set_cons_zero, List.set_cons_succ])
  refine wpAnyH_take (i := 2) (oi := ⟨some 30, _, _, _, _, _⟩) (v := .pointer (some ⟨g, 0, none⟩)) rfl (by kernel_rfl) (by kernel_rfl) (by kernel_rfl) (fun _ _ _ h => h) (Or.inl ⟨by kernel_rfl, by intro WW hSw; obtain ⟨s0, s1⟩ := hSw; go_simp⟩) (by assumption) ?_
  (try simp only [Act.put, List.setIfInBounds_toArray, List.set_cons_zero, List.set_cons_succ])
  refine wpAnyH_take (i := 3) (oi := ⟨some 31, _, _, _, _, _⟩) (v := .pointer (some ⟨g, 2, none⟩)) rfl (by kernel_rfl) (by kernel_rfl) (by kernel_rfl) (fun _ _ _ h => h) (Or.inl ⟨by kernel_rfl, by intro WW hSw; obtain ⟨s0, s1⟩ := hSw; go_simp⟩) (by assumption) ?_
  (try simp only [Act.put, List.setIfInBounds_toArray, List.set_cons_zero, List.set_cons_succ])
  refine wpAnyH_take (i := 4) (oi := ⟨some 32, _, _, _, _, _⟩) (v := .int .u64 key) rfl (by kernel_rfl) (by kernel_rfl) (by kernel_rfl) (fun _ _ _ h => h) (Or.inl ⟨by kernel_rfl, by intro WW hSw; obtain ⟨s0, s1⟩ := hSw; go_simp⟩) (by assumption) ?_
  (try simp only [Act.put, List.setIfInBounds_toArray, List.set_cons_zero, List.set_cons_succ])
  refine wpAnyH_one (i := 5) (oi := ⟨_, _, _, _, _, _⟩) rfl (by kernel_rfl) (fun K hK => ?_)
  refine step_calls (by rfl) 22 EF.out [.tmp 28, .tmp 32] _ rfl [n.V, .int .u64 key] rfl (HFD.out _) ?_
  rintro e w5 ⟨rfl, hb5⟩
  have HB5 := Lib.hid (Below.and (drew_below W3) hb5)
  refine ⟨_, rfl, hK _ _ (HS5.out _ HB5.out) (fun hHeld2 => ?_)⟩
  clear hK K hb5
  (try simp only [Act.put, List.setIfInBounds_toArray, List.set_cons_zero, List.set_cons_succ])
  refine wpAnyH_take (i := 6) (oi := ⟨some 27, _, _, _, _, _⟩) (v := .tuple #[.int .i64 0, .bool true]) rfl (by kernel_rfl) (by kernel_rfl) (by kernel_rfl) (fun _ _ _ h => h) (Or.inl ⟨by kernel_rfl, by intro WW hSw; obtain ⟨s0, s1⟩ := hSw; go_simp⟩) (by assumption) ?_
  (try simp only [Act.put, List.setIfInBounds_toArray, List.set_cons_zero, List.set_cons_succ])
  refine wpAnyH_take (i := 7) (oi := ⟨some 34, _, _, _, _, _⟩) (v := .int .i64 0) rfl (by kernel_rfl) (by kernel_rfl) (by kernel_rfl) (fun _ _ _ h => h) (Or.inl ⟨by kernel_rfl, by intro WW hSw; obtain ⟨s0, s1⟩ := hSw; go_simp⟩) (by assumption) ?_
  (try simp only [Act.put, List.setIfInBounds_toArray, List.set_cons_zero, List.set_cons_succ])
  refine wpAnyH_take (i := 8) (oi := ⟨some 35, _, _, _, _, _⟩) (v := .bool true) rfl (by kernel_rfl) (by kernel_rfl) (by kernel_rfl) (fun _ _ _ h => h) (Or.inl ⟨by kernel_rfl, by intro WW hSw; obtain ⟨s0, s1⟩ := hSw; go_simp⟩) (by assumption) ?_
  (try simp only [Act.put, List.setIfInBounds_toArray, List.set_cons_zero, List.set_cons_succ])
  refine wpAnyH_take (i := 9) (oi := ⟨some 8, _, _, _, _, _⟩) (v := .int .i64 0) rfl (by kernel_rfl) (by kernel_rfl) (by kernel_rfl) (fun _ _ _ h => h) (Or.inl ⟨by kernel_rfl, by intro WW hSw; obtain ⟨s0, s1⟩ := hSw; go_simp⟩) (by assumption) ?_
  (try simp only [Act.put, List.setIfInBounds_toArray, List.set_cons_zero, List.set_cons_succ])
  refine wpAnyH_take (i := 10) (oi := ⟨some 9, _, _, _, _, _⟩) (v := .bool true) rfl (by kernel_rfl) (by kernel_rfl) (by kernel_rfl) (fun _ _ _ h => h) (Or.inl ⟨by kernel_rfl, by intro WW hSw; obtain ⟨s0, s1⟩ := hSw; go_simp⟩) (by assumption) ?_
  (try simp only [Act.put, List.setIfInBounds_toArray, List.set_cons_zero, List.set_cons_succ])
  refine wpAnyH_done (by kernel_rfl) ?_ _
  have HG5 := Lib.hid (HG3.out.below HB5.out)
  have HN5 := Lib.hid (HN3.out.below HB5.out HN3.out.lt)
  have HBT5 := Lib.hid (HBT3.out.trans (But.of_below HB5.out (fun q => q = g)) fun q hq => .inl hq)
  clear hHeld hHeld2 HS5 HSR HFD HB5 HG3 HN3 HBT3
  have HM5 := Lib.hid (show ∀ W, Below w5.heap.size w5 W → Calls Tryz.prog 19 #[.pointer si] W fun e w' => e = .returned (.pointer m) ∧ W = w' from fun W hb => HMM.out W (HBT5.out.trans (But.of_below hb (fun q => q = g)) fun q hq => .inl hq))
  have HS9 := Lib.hid (show ∀ W : World, Below w5.heap.size w5 W → W.cell? ⟨g, 0, none⟩ = some (.pointer si) ∧ W.cell? ⟨gn, 13, none⟩ = some (.int .u64 (b : Int)) from fun W hb => ⟨by rw [HSI.out]; exact Row.cell (HG5.out.below hb) 0, (Row.cell (HN5.out.below hb HN5.out.lt) 13).trans (by rw [List.getElem?_toArray]; exact HP13.out)⟩)
  go_wp2_with fail
  refine wp_region_held_drew (S := fun W : World => W.cell? ⟨g, 0, none⟩ = some (.pointer si) ∧ W.cell? ⟨gn, 13, none⟩ = some (.int .u64 (b : Int))) (by kernel_rfl) (HS9.out _ (drew_below w5)) (fun hHeld => ?_)
  refine wpAnyH_take (i := 0) (oi := ⟨some 40, _, _, _, _, _⟩) (v := .pointer (some ⟨g, 0, none⟩)) rfl (by kernel_rfl) (by kernel_rfl) (by kernel_rfl) (fun _ _ _ h => h) (Or.inl ⟨by kernel_rfl, by intro WW hSw; obtain ⟨s0, s1⟩ := hSw; go_simp⟩) (by assumption) ?_
  (try simp only [Act.put, List.setIfInBounds_toArray, List.set_cons_zero, List.set_cons_succ])
  refine wpAnyH_take (i := 1) (oi := ⟨some 41, _, _, _, _, _⟩) (v := .pointer (some ⟨g, 0, none⟩)) rfl (by kernel_rfl) (by kernel_rfl) (by kernel_rfl) (fun _ _ _ h => h) (Or.inl ⟨by kernel_rfl, by intro WW hSw; obtain ⟨s0, s1⟩ := hSw; go_simp⟩) (by assumption) ?_
  (try simp only [Act.put, List.setIfInBounds_toArray, List.set_cons_zero, List.set_cons_succ])
  refine wpAnyH_take (i := 2) (oi := ⟨some 42, _, _, _, _, _⟩) (v := .pointer (some ⟨g, 0, none⟩)) rfl (by kernel_rfl) (by kernel_rfl) (by kernel_rfl) (fun _ _ _ h => h) (Or.inl ⟨by kernel_rfl, by intro WW hSw; obtain ⟨s0, s1⟩ := hSw; go_simp⟩) (by assumption) ?_
  (try simp only [Act.put, List.setIfInBounds_toArray, List.set_cons_zero, List.set_cons_succ])
  refine wpAnyH_take (i := 3) (oi := ⟨some 43, _, _, _, _, _⟩) (v := .pointer si) rfl (by kernel_rfl) (by kernel_rfl) (by kernel_rfl) (fun _ _ _ h => h) (Or.inl ⟨by kernel_rfl, by intro WW hSw; obtain ⟨s0, s1⟩ := hSw; go_simp⟩) (by assumption) ?_
  (try simp only [Act.put, List.setIfInBounds_toArray, List.set_cons_zero, List.set_cons_succ])
  refine wpAnyH_take (i := 5) (oi := ⟨some 45, _, _, _, _, _⟩) (v := .int .i64 0) rfl (by kernel_rfl) (by kernel_rfl) (by kernel_rfl) (fun _ _ _ h => h) (Or.inl ⟨by kernel_rfl, by intro WW hSw; obtain ⟨s0, s1⟩ := hSw; go_simp⟩) (by assumption) ?_
  (try simp only [Act.put, List.setIfInBounds_toArray, List.set_cons_zero, List.set_cons_succ])
  refine wpAnyH_take (i := 6) (oi := ⟨some 46, _, _, _, _, _⟩) (v := .pointer (some ⟨gn, 13, none⟩)) rfl (by kernel_rfl) (by kernel_rfl) (by kernel_rfl) (fun _ _ _ h => h) (Or.inl ⟨by kernel_rfl, by intro WW hSw; obtain ⟨s0, s1⟩ := hSw; go_simp⟩) (by assumption) ?_
  (try simp only [Act.put, List.setIfInBounds_toArray, List.set_cons_zero, List.set_cons_succ])
  refine wpAnyH_take (i := 7) (oi := ⟨some 47, _, _, _, _, _⟩) (v := .pointer (some ⟨gn, 13, none⟩)) rfl (by kernel_rfl) (by kernel_rfl) (by kernel_rfl) (fun _ _ _ h => h) (Or.inl ⟨by kernel_rfl, by intro WW hSw; obtain ⟨s0, s1⟩ := hSw; go_simp⟩) (by assumption) ?_
  (try simp only [Act.put, List.setIfInBounds_toArray, List.set_cons_zero, List.set_cons_succ])
  refine wpAnyH_take (i := 8) (oi := ⟨some 48, _, _, _, _, _⟩) (v := .int .u64 (b : Int)) rfl (by kernel_rfl) (by kernel_rfl) (by kernel_rfl) (fun _ _ _ h => h) (Or.inl ⟨by kernel_rfl, by intro WW hSw; obtain ⟨s0, s1⟩ := hSw; go_simp⟩) (by assumption) ?_
  (try simp only [Act.put, List.setIfInBounds_toArray, List.set_cons_zero, List.set_cons_succ])
  have HB6 := Lib.hid (drew_below w5)
  refine wpAnyH_ready (rs := [4, 10]) (by kernel_rfl) (by simp) ?_
  refine AllReadyH.cons (o := ⟨some 44, _, _, _, _, _⟩) rfl (fun K hK => ?_) (AllReadyH.cons (o := ⟨some 10, _, _, _, _, _⟩) rfl (fun K hK => ?_) AllReadyH.nil)
  · refine step_calls (by rfl) 19 EM.out [.tmp 43] _ rfl [.pointer si] rfl (HM5.out _ HB6.out) ?_
    rintro e wx ⟨rfl, rfl⟩
    refine ⟨_, rfl, hK _ _ (HS9.out _ HB6.out) (fun hHeld2 => ?_)⟩
    clear hK K
    (try simp only [Act.put, List.setIfInBounds_toArray, List.set_cons_zero, List.set_cons_succ])
    refine wpAnyH_ready (rs := [9, 10]) (by kernel_rfl) (by simp) ?_
    refine AllReadyH.cons (o := ⟨some 49, _, _, _, _, _⟩) rfl (fun K hK => ?_) (AllReadyH.cons (o := ⟨some 10, _, _, _, _, _⟩) rfl (fun K hK => ?_) AllReadyH.nil)
    · refine step_calls (by rfl) 25 EV.out [.tmp 44, .tmp 48] _ rfl [.pointer m, .int .u64 (b : Int)] rfl (vNew_any m b) ?_
      rintro e wv ⟨rfl, hrd, hbv⟩
      obtain ⟨gr, hgr⟩ : ∃ x, x = (w5.drew).heap.size := ⟨_, rfl⟩
      rw [← hgr] at hrd ⊢
      have HRD := Lib.hid hrd
      have HGR := Lib.hid hgr
      have HBV := Lib.hid hbv
      refine ⟨_, rfl, hK _ _ (HS9.out _ (Below.and HB6.out hbv)) (fun hHeld4 => ?_)⟩
      clear hK K hrd hgr hbv
      (try simp only [Act.put, List.setIfInBounds_toArray, List.set_cons_zero, List.set_cons_succ])
      refine wpAnyH_one (i := 10) (oi := ⟨_, _, _, _, _, _⟩) rfl (by kernel_rfl) (fun K hK => ?_)
      refine step_allocR rfl 10 rfl rfl ?_
      rintro gb w7 hgb hrow hba hlta
      have hb6 := Below.and HB6.out HBV.out
      have hb7 := Below.and hb6 hba
      have hrd0 := HRD.out
      have hltr := hrd0.row.lt
      have h1 : w5.heap.size ≤ gb := by have := hb6.size; omega
      have h2 : w5.heap.size ≤ gr := by rw [HGR.out]; exact HB6.out.size
      have hne : gb ≠ gr := by omega
      have hrd := hrd0.below hba
      refine hK _ _ (HS9.out _ hb7) (fun hHeld3 => ?_)
      clear hK K hgb hba hlta hb6 hrd0 hltr HRD HGR HBV
      (try simp only [Act.put, List.setIfInBounds_toArray, List.set_cons_zero, List.set_cons_succ])
      have e0 : w7.cell? ⟨gb, 0, none⟩ = some (.pointer none) := hrow.cell 0
      have e0f := hrow.free 0
      obtain ⟨W8, hW8⟩ : ∃ x, x = w7.setCell ⟨gb, 0, none⟩ (.pointer (some ⟨gr, 0, none⟩)) := ⟨_, rfl⟩
      have hb8 : Below w5.heap.size w5 W8 := by rw [hW8]; exact hb7.setCell (p := ⟨gb, 0, none⟩) h1 _
      have HB8 := Lib.hid hb8
      have HRB8 := Lib.hid (show Row W8 gb 81 #[.pointer (some ⟨gr, 0, none⟩)] from by rw [hW8]; exact hrow.set 0 _)
      have HRD8 := Lib.hid (show RdAt W8 gr gr b m 45 [] ⟨#[]⟩ false 0 (.slice none 0 0) from ⟨by rw [hW8]; exact hrd.row.other (p := ⟨gb, 0, none⟩) (fun e => hne e.symm) _, World.ownsRow_nil _ _ _ _, Nat.le_refl _⟩)
      have HNE := Lib.hid (And.intro hne (And.intro h1 h2))
      clear hrow hrd hb7 h1 h2 hne hb8
      refine wpAnyH_one (i := 11) (oi := ⟨none, _, _, _, _, _⟩) rfl (by kernel_rfl) (fun K hK => ?_)
      refine step_store1 (by rfl) _ (.tmp 10) (.tmp 49) rfl gb 0 (.pointer (some ⟨gr, 0, none⟩)) _ rfl rfl rfl e0 e0f (by kernel_rfl) rfl ?_
      rw [← hW8]
      refine hK _ _ (HS9.out _ HB8.out) (fun hHeld5 => ?_)
      clear hK K e0 e0f hW8
      (try simp only [Act.put, List.setIfInBounds_toArray, List.set_cons_zero, List.set_cons_succ])
      refine wpAnyH_done (by kernel_rfl) ?_ _
      clear hHeld hHeld2 hHeld3 hHeld4 hHeld5
      have HSR := Lib.hid (show ∀ W : World, (W.rangeAt gn 0 n.cl ∧ W.cell? ⟨g, 0, none⟩ = some (.pointer si)) → W.rangeAt gn 0 n.cl from fun W h => h.1)
      have HS10 := Lib.hid (show ∀ W : World, Below w5.heap.size w5 W → W.rangeAt gn 0 n.cl ∧ W.cell? ⟨g, 0, none⟩ = some (.pointer si) from fun W hb => ⟨ndR (HN5.out.below hb HN5.out.lt), (HS9.out W hb).1⟩)
      have HB9 := Lib.hid (Below.and HB8.out (drew_below W8))
      go_wp2_with fail
      refine wp_region_held_drew (S := fun W : World => W.rangeAt gn 0 n.cl ∧ W.cell? ⟨g, 0, none⟩ = some (.pointer si)) (by kernel_rfl) (HS10.out _ HB9.out) (fun hHeld => ?_)
      refine wpAnyH_take (i := 0) (oi := ⟨some 50, _, _, _, _, _⟩) (v := .pointer (some ⟨g, 0, none⟩)) rfl (by kernel_rfl) (by kernel_rfl) (by kernel_rfl) (fun _ _ _ h => h) (Or.inl ⟨by kernel_rfl, by intro WW hSw; obtain ⟨s0, s1⟩ := hSw; go_simp⟩) (by assumption) ?_
      (try simp only [Act.put, List.setIfInBounds_toArray, List.set_cons_zero, List.set_cons_succ])
      refine wpAnyH_take (i := 1) (oi := ⟨some 51, _, _, _, _, _⟩) (v := .pointer (some ⟨g, 0, none⟩)) rfl (by kernel_rfl) (by kernel_rfl) (by kernel_rfl) (fun _ _ _ h => h) (Or.inl ⟨by kernel_rfl, by intro WW hSw; obtain ⟨s0, s1⟩ := hSw; go_simp⟩) (by assumption) ?_
      (try simp only [Act.put, List.setIfInBounds_toArray, List.set_cons_zero, List.set_cons_succ])
      refine wpAnyH_take (i := 2) (oi := ⟨some 52, _, _, _, _, _⟩) (v := .pointer (some ⟨g, 0, none⟩)) rfl (by kernel_rfl) (by kernel_rfl) (by kernel_rfl) (fun _ _ _ h => h) (Or.inl ⟨by kernel_rfl, by intro WW hSw; obtain ⟨s0, s1⟩ := hSw; go_simp⟩) (by assumption) ?_
      (try simp only [Act.put, List.setIfInBounds_toArray, List.set_cons_zero, List.set_cons_succ])
      refine wpAnyH_take (i := 3) (oi := ⟨some 53, _, _, _, _, _⟩) (v := .pointer (some ⟨g, 0, none⟩)) rfl (by kernel_rfl) (by kernel_rfl) (by kernel_rfl) (fun _ _ _ h => h) (Or.inl ⟨by kernel_rfl, by intro WW hSw; obtain ⟨s0, s1⟩ := hSw; go_simp⟩) (by assumption) ?_
      (try simp only [Act.put, List.setIfInBounds_toArray, List.set_cons_zero, List.set_cons_succ])
      refine wpAnyH_take (i := 4) (oi := ⟨some 54, _, _, _, _, _⟩) (v := .pointer si) rfl (by kernel_rfl) (by kernel_rfl) (by kernel_rfl) (fun _ _ _ h => h) (Or.inl ⟨by kernel_rfl, by intro WW hSw; obtain ⟨s0, s1⟩ := hSw; go_simp⟩) (by assumption) ?_
      (try simp only [Act.put, List.setIfInBounds_toArray, List.set_cons_zero, List.set_cons_succ])
      refine wpAnyH_take (i := 6) (oi := ⟨some 56, _, _, _, _, _⟩) (v := .int .u64 (a : Int)) rfl (by kernel_rfl) (by kernel_rfl) (by kernel_rfl) (fun _ _ _ h => h) (Or.inl ⟨by kernel_rfl, by intro WW hSw; obtain ⟨s0, s1⟩ := hSw; go_simp⟩) (by assumption) ?_
      (try simp only [Act.put, List.setIfInBounds_toArray, List.set_cons_zero, List.set_cons_succ])
      refine wpAnyH_take (i := 7) (oi := ⟨some 57, _, _, _, _, _⟩) (v := .agg n.cl.toArray) rfl (by kernel_rfl) (by kernel_rfl) (by kernel_rfl) (fun _ _ _ h => h) (yieldsIf_load_mid (by rfl) _ _ rfl gn 0 rfl n.cl _ HSR.out Tryz.underlying69 rfl ndI) (by assumption) ?_
      (try simp only [Act.put, List.setIfInBounds_toArray, List.set_cons_zero, List.set_cons_succ])
      refine wpAnyH_one (i := 5) (oi := ⟨_, _, _, _, _, _⟩) rfl (by kernel_rfl) (fun K hK => ?_)
      refine step_calls (by rfl) 19 EM.out [.tmp 54] _ rfl [.pointer si] rfl (HM5.out _ HB9.out) ?_
      rintro e wx ⟨rfl, rfl⟩
      refine ⟨_, rfl, hK _ _ (HS10.out _ HB9.out) (fun hHeld2 => ?_)⟩
      clear hK K
      (try simp only [Act.put, List.setIfInBounds_toArray, List.set_cons_zero, List.set_cons_succ])
      refine wpAnyH_one (i := 8) (oi := ⟨_, _, _, _, _, _⟩) rfl (by kernel_rfl) (fun K hK => ?_)
      refine step_calls (by rfl) 26 ES.out [.tmp 55, .tmp 56, .tmp 57] _ rfl [.pointer m, .int .u64 (a : Int), n.V] rfl (stNew_any m a n W8.drew) ?_
      rintro e wq ⟨gq, rfl, hrq, hgq, hbq⟩
      have hbq5 := Below.and HB9.out hbq
      have hgq5 := HG5.out.below hbq5
      have d6 : wq.cell? ⟨g, 6, none⟩ = some s.st := Row.cell hgq5 6
      have f6 := Row.free hgq5 6
      obtain ⟨W10, hW10⟩ : ∃ x, x = wq.setCell ⟨g, 6, none⟩ (.pointer (some ⟨gq, 0, none⟩)) := ⟨_, rfl⟩
      have hg10 : GtAt W10 g { s with at_ := (a : Int), st := .pointer (some ⟨gq, 0, none⟩) } := by rw [hW10]; exact hgq5.still _
      have hltg := HG5.out.lt
      have hs8 : W8.heap.size ≤ gq := hgq
      have hlt8b := HRB8.out.lt
      have hlt8r := HRD8.out.row.lt
      have hsz8 := HB8.out.size
      have hnq : gq ≠ g := by omega
      have hngb : gb ≠ g := by have := HNE.out.2.1; omega
      have hngr : gr ≠ g := by have := HNE.out.2.2; omega
      have HF := Lib.hid (show Row W10 gq 118 (stC m (nextV 46 gq) false 0 a n.nx n.ct 0 0) ∧ Row W10 gb 81 #[.pointer (some ⟨gr, 0, none⟩)] ∧ RdAt W10 gr gr b m 45 [] ⟨#[]⟩ false 0 (.slice none 0 0) ∧ But w W10 (fun q => q = g) ∧ w.heap.size ≤ gb ∧ w.heap.size ≤ gr ∧ w.heap.size ≤ gq ∧ gb ≠ gr ∧ gq ≠ gb ∧ gq ≠ gr ∧ gq ≠ g from by
        have hb8q := Below.and (drew_below W8) hbq
        have hs5 := HBT5.out.size
        refine ⟨by rw [hW10]; exact hrq.other (p := ⟨g, 6, none⟩) hnq _, by rw [hW10]; exact (HRB8.out.below hb8q HRB8.out.lt).other (p := ⟨g, 6, none⟩) hngb _, ⟨by rw [hW10]; exact (HRD8.out.row.below hb8q HRD8.out.row.lt).other (p := ⟨g, 6, none⟩) hngr _, World.ownsRow_nil _ _ _ _, Nat.le_refl _⟩, by rw [hW10]; exact gbut1 (HBT5.out.trans (But.of_below hbq5 (fun q => q = g)) fun q hq => .inl hq) 6 _, by have := HNE.out.2.1; omega, by have := HNE.out.2.2; omega, by omega, HNE.out.1, by omega, by omega, hnq⟩)
      have HG10 := Lib.hid hg10
      have HSQ := Lib.hid (HS10.out wq hbq5)
      have HSW := Lib.hid (show W10.rangeAt gn 0 n.cl ∧ W10.cell? ⟨g, 0, none⟩ = some (.pointer si) from ⟨by rw [hW10]; exact ndR ((HN5.out.below hbq5 HN5.out.lt).other (p := ⟨g, 6, none⟩) HGN.out.1 _), by rw [HSI.out]; exact Row.cell hg10 0⟩)
      refine ⟨_, rfl, hK _ _ HSQ.out (fun hHeld3 => ?_)⟩
      clear hK K hrq hgq hbq hbq5 hgq5 hg10 hltg hs8 hlt8b hlt8r hsz8 hnq hngb hngr
      (try simp only [Act.put, List.setIfInBounds_toArray, List.set_cons_zero, List.set_cons_succ])
      refine wpAnyH_take (i := 9) (oi := ⟨some 59, _, _, _, _, _⟩) (v := .pointer (some ⟨g, 0, none⟩)) rfl (by kernel_rfl) (by kernel_rfl) (by kernel_rfl) (fun _ _ _ h => h) (Or.inl ⟨by kernel_rfl, by intro WW hSw; obtain ⟨s0, s1⟩ := hSw; go_simp⟩) (by assumption) ?_
      (try simp only [Act.put, List.setIfInBounds_toArray, List.set_cons_zero, List.set_cons_succ])
      refine wpAnyH_take (i := 10) (oi := ⟨some 60, _, _, _, _, _⟩) (v := .pointer (some ⟨g, 6, none⟩)) rfl (by kernel_rfl) (by kernel_rfl) (by kernel_rfl) (fun _ _ _ h => h) (Or.inl ⟨by kernel_rfl, by intro WW hSw; obtain ⟨s0, s1⟩ := hSw; go_simp⟩) (by assumption) ?_
      (try simp only [Act.put, List.setIfInBounds_toArray, List.set_cons_zero, List.set_cons_succ])
      refine wpAnyH_one (i := 11) (oi := ⟨none, _, _, _, _, _⟩) rfl (by kernel_rfl) (fun K hK => ?_)
      refine step_store1 (by rfl) _ (.tmp 60) (.tmp 58) rfl g 6 (.pointer (some ⟨gq, 0, none⟩)) _ rfl rfl rfl d6 f6 (by kernel_rfl) rfl ?_
      rw [← hW10]
      refine hK _ _ HSW.out (fun hHeld4 => ?_)
      clear hK K d6 f6 hW10
      (try simp only [Act.put, List.setIfInBounds_toArray, List.set_cons_zero, List.set_cons_succ])
      refine wpAnyH_done (by kernel_rfl) ?_ _
      clear hHeld hHeld2 hHeld3 hHeld4 HSW HSQ HS10 HSR HS9 HM5
      have k8 : W10.cell? ⟨g, 8, none⟩ = some s.tl := Row.cell HG10.out 8
      have k3 : W10.cell? ⟨g, 3, none⟩ = some s.un := Row.cell HG10.out 3
      have k4 : W10.cell? ⟨g, 4, none⟩ = some s.th := Row.cell HG10.out 4
      have kb : W10.cell? ⟨gb, 0, none⟩ = some (.pointer (some ⟨gr, 0, none⟩)) := HF.out.2.1.cell 0
      have f8 := Row.free HG10.out 8
      have f3 := Row.free HG10.out 3
      have f4 := Row.free HG10.out 4
      have hngb : gb ≠ g := by have := HNE.out.2.1; have := HG5.out.lt; omega
      have HE := Lib.hid (show FoundP w g s n m a b (((W10.setCell ⟨g, 8, none⟩ (.func (.func 27) #[] #[.pointer (some ⟨gb, 0, none⟩)])).setCell ⟨g, 3, none⟩ (.iface 81 (.pointer (some ⟨gr, 0, none⟩)))).setCell ⟨g, 4, none⟩ (.func (.func 29) #[.pointer (some ⟨g, 0, none⟩)] #[])) from by
        obtain ⟨f1, f2, f3, f4, f5, f6, f7, f8, f9, f10, hngq⟩ := HF.out
        have hg := HG5.out.lt
        have hngr : gr ≠ g := by have := HNE.out.2.2; omega
        exact ⟨gb, gr, gq, Row.set (Row.set (Row.set HG10.out 8 (.func (.func 27) #[] #[.pointer (some ⟨gb, 0, none⟩)])) 3 (.iface 81 (.pointer (some ⟨gr, 0, none⟩)))) 4 (.func (.func 29) #[.pointer (some ⟨g, 0, none⟩)] #[]),
          ⟨((f3.row.other (p := ⟨g, 8, none⟩) hngr _).other (p := ⟨g, 3, none⟩) hngr _).other (p := ⟨g, 4, none⟩) hngr _, World.ownsRow_nil _ _ _ _, Nat.le_refl _⟩,
          ((f2.other (p := ⟨g, 8, none⟩) hngb _).other (p := ⟨g, 3, none⟩) hngb _).other (p := ⟨g, 4, none⟩) hngb _,
          ((f1.other (p := ⟨g, 8, none⟩) hngq _).other (p := ⟨g, 3, none⟩) hngq _).other (p := ⟨g, 4, none⟩) hngq _, f5, f6, f7, f8, f9, f10, gbut1 (gbut1 (gbut1 f4 8 _) 3 _) 4 _⟩)
      clear HF HG10 HRB8 HRD8 HNE HG5 HN5 HBT5
      go_wp2
      go_ret
      exact ⟨rfl, HE.out⟩
    · refine step_allocR rfl 10 rfl rfl ?_
      rintro gb wa hgb hra hba hlta
      have HRA := Lib.hid hra
      have HGB := Lib.hid hgb
      have HBA := Lib.hid (Below.and HB6.out hba)
      have HLTA := Lib.hid hlta
      refine hK _ _ (HS9.out _ HBA.out) (fun hHeld3 => ?_)
      clear hK K hra hgb hba hlta
      (try simp only [Act.put, List.setIfInBounds_toArray, List.set_cons_zero, List.set_cons_succ])
      refine wpAnyH_one (i := 9) (oi := ⟨_, _, _, _, _, _⟩) rfl (by kernel_rfl) (fun K hK => ?_)
      refine step_calls (by rfl) 25 EV.out [.tmp 44, .tmp 48] _ rfl [.pointer m, .int .u64 (b : Int)] rfl (vNew_any m b) ?_
      rintro e wv ⟨rfl, hrd, hbv⟩
      obtain ⟨gr, hgr⟩ : ∃ x, x = (wa).heap.size := ⟨_, rfl⟩
      rw [← hgr] at hrd ⊢
      have HRD := Lib.hid hrd
      have HGR := Lib.hid hgr
      have HBV := Lib.hid hbv
      refine ⟨_, rfl, hK _ _ (HS9.out _ (Below.and HBA.out hbv)) (fun hHeld4 => ?_)⟩
      clear hK K hrd hgr hbv
      (try simp only [Act.put, List.setIfInBounds_toArray, List.set_cons_zero, List.set_cons_succ])
      have hb7 := Below.and HBA.out HBV.out
      obtain ⟨w7, hw7⟩ : ∃ x, x = wv := ⟨_, rfl⟩
      rw [← hw7] at hb7 ⊢
      have hrow : Row w7 gb 81 #[.pointer none] := by rw [hw7]; exact HRA.out.below HBV.out HRA.out.lt
      have hrd : RdAt w7 gr gr b m 45 [] ⟨#[]⟩ false 0 (.slice none 0 0) := by rw [hw7]; exact HRD.out
      have h1 : w5.heap.size ≤ gb := by rw [HGB.out]; exact HB6.out.size
      have h2 : w5.heap.size ≤ gr := by rw [HGR.out]; exact HBA.out.size
      have hne : gb ≠ gr := by have := HRA.out.lt; have := HGR.out; omega
      clear hw7 HRA HGB HBA HLTA HRD HGR HBV
      have e0 : w7.cell? ⟨gb, 0, none⟩ = some (.pointer none) := hrow.cell 0
      have e0f := hrow.free 0
      obtain ⟨W8, hW8⟩ : ∃ x, x = w7.setCell ⟨gb, 0, none⟩ (.pointer (some ⟨gr, 0, none⟩)) := ⟨_, rfl⟩
      have hb8 : Below w5.heap.size w5 W8 := by rw [hW8]; exact hb7.setCell (p := ⟨gb, 0, none⟩) h1 _
      have HB8 := Lib.hid hb8
      have HRB8 := Lib.hid (show Row W8 gb 81 #[.pointer (some ⟨gr, 0, none⟩)] from by rw [hW8]; exact hrow.set 0 _)
      have HRD8 := Lib.hid (show RdAt W8 gr gr b m 45 [] ⟨#[]⟩ false 0 (.slice none 0 0) from ⟨by rw [hW8]; exact hrd.row.other (p := ⟨gb, 0, none⟩) (fun e => hne e.symm) _, World.ownsRow_nil _ _ _ _, Nat.le_refl _⟩)
      have HNE := Lib.hid (And.intro hne (And.intro h1 h2))
      clear hrow hrd hb7 h1 h2 hne hb8
      refine wpAnyH_one (i := 11) (oi := ⟨none, _, _, _, _, _⟩) rfl (by kernel_rfl) (fun K hK => ?_)
      refine step_store1 (by rfl) _ (.tmp 10) (.tmp 49) rfl gb 0 (.pointer (some ⟨gr, 0, none⟩)) _ rfl rfl rfl e0 e0f (by kernel_rfl) rfl ?_
      rw [← hW8]
      refine hK _ _ (HS9.out _ HB8.out) (fun hHeld5 => ?_)
      clear hK K e0 e0f hW8
      (try simp only [Act.put, List.setIfInBounds_toArray, List.set_cons_zero, List.set_cons_succ])
      refine wpAnyH_done (by kernel_rfl) ?_ _
      clear hHeld hHeld2 hHeld3 hHeld4 hHeld5
      have HSR := Lib.hid (show ∀ W : World, (W.rangeAt gn 0 n.cl ∧ W.cell? ⟨g, 0, none⟩ = some (.pointer si)) → W.rangeAt gn 0 n.cl from fun W h => h.1)
      have HS10 := Lib.hid (show ∀ W : World, Below w5.heap.size w5 W → W.rangeAt gn 0 n.cl ∧ W.cell? ⟨g, 0, none⟩ = some (.pointer si) from fun W hb => ⟨ndR (HN5.out.below hb HN5.out.lt), (HS9.out W hb).1⟩)
      have HB9 := Lib.hid (Below.and HB8.out (drew_below W8))
      go_wp2_with fail
      refine wp_region_held_drew (S := fun W : World => W.rangeAt gn 0 n.cl ∧ W.cell? ⟨g, 0, none⟩ = some (.pointer si)) (by kernel_rfl) (HS10.out _ HB9.out) (fun hHeld => ?_)
      refine wpAnyH_take (i := 0) (oi := ⟨some 50, _, _, _, _, _⟩) (v := .pointer (some ⟨g, 0, none⟩)) rfl (by kernel_rfl) (by kernel_rfl) (by kernel_rfl) (fun _ _ _ h => h) (Or.inl ⟨by kernel_rfl, by intro WW hSw; obtain ⟨s0, s1⟩ := hSw; go_simp⟩) (by assumption) ?_
      (try simp only [Act.put, List.setIfInBounds_toArray, List.set_cons_zero, List.set_cons_succ])
      refine wpAnyH_take (i := 1) (oi := ⟨some 51, _, _, _, _, _⟩) (v := .pointer (some ⟨g, 0, none⟩)) rfl (by kernel_rfl) (by kernel_rfl) (by kernel_rfl) (fun _ _ _ h => h) (Or.inl ⟨by kernel_rfl, by intro WW hSw; obtain ⟨s0, s1⟩ := hSw; go_simp⟩) (by assumption) ?_
      (try simp only [Act.put, List.setIfInBounds_toArray, List.set_cons_zero, List.set_cons_succ])
      refine wpAnyH_take (i := 2) (oi := ⟨some 52, _, _, _, _, _⟩) (v := .pointer (some ⟨g, 0, none⟩)) rfl (by kernel_rfl) (by kernel_rfl) (by kernel_rfl) (fun _ _ _ h => h) (Or.inl ⟨by kernel_rfl, by intro WW hSw; obtain ⟨s0, s1⟩ := hSw; go_simp⟩) (by assumption) ?_
      (try simp only [Act.put, List.setIfInBounds_toArray, List.set_cons_zero, List.set_cons_succ])
      refine wpAnyH_take (i := 3) (oi := ⟨some 53, _, _, _, _, _⟩) (v := .pointer (some ⟨g, 0, none⟩)) rfl (by kernel_rfl) (by kernel_rfl) (by kernel_rfl) (fun _ _ _ h => h) (Or.inl ⟨by kernel_rfl, by intro WW hSw; obtain ⟨s0, s1⟩ := hSw; go_simp⟩) (by assumption) ?_
      (try simp only [Act.put, List.setIfInBounds_toArray, List.set_cons_zero, List.set_cons_succ])
      refine wpAnyH_take (i := 4) (oi := ⟨some 54, _, _, _, _, _⟩) (v := .pointer si) rfl (by kernel_rfl) (by kernel_rfl) (by kernel_rfl) (fun _ _ _ h => h) (Or.inl ⟨by kernel_rfl, by intro WW hSw; obtain ⟨s0, s1⟩ := hSw; go_simp⟩) (by assumption) ?_
      (try simp only [Act.put, List.setIfInBounds_toArray, List.set_cons_zero, List.set_cons_succ])
      refine wpAnyH_take (i := 6) (oi := ⟨some 56, _, _, _, _, _⟩) (v := .int .u64 (a : Int)) rfl (by kernel_rfl) (by kernel_rfl) (by kernel_rfl) (fun _ _ _ h => h) (Or.inl ⟨by kernel_rfl, by intro WW hSw; obtain ⟨s0, s1⟩ := hSw; go_simp⟩) (by assumption) ?_
      (try simp only [Act.put, List.setIfInBounds_toArray, List.set_cons_zero, List.set_cons_succ])
      refine wpAnyH_take (i := 7) (oi := ⟨some 57, _, _, _, _, _⟩) (v := .agg n.cl.toArray) rfl (by kernel_rfl) (by kernel_rfl) (by kernel_rfl) (fun _ _ _ h => h) (yieldsIf_load_mid (by rfl) _ _ rfl gn 0 rfl n.cl _ HSR.out Tryz.underlying69 rfl ndI) (by assumption) ?_
      (try simp only [Act.put, List.setIfInBounds_toArray, List.set_cons_zero, List.set_cons_succ])
      refine wpAnyH_one (i := 5) (oi := ⟨_, _, _, _, _, _⟩) rfl (by kernel_rfl) (fun K hK => ?_)
      refine step_calls (by rfl) 19 EM.out [.tmp 54] _ rfl [.pointer si] rfl (HM5.out _ HB9.out) ?_
      rintro e wx ⟨rfl, rfl⟩
      refine ⟨_, rfl, hK _ _ (HS10.out _ HB9.out) (fun hHeld2 => ?_)⟩
      clear hK K
      (try simp only [Act.put, List.setIfInBounds_toArray, List.set_cons_zero, List.set_cons_succ])
      refine wpAnyH_one (i := 8) (oi := ⟨_, _, _, _, _, _⟩) rfl (by kernel_rfl) (fun K hK => ?_)
      refine step_calls (by rfl) 26 ES.out [.tmp 55, .tmp 56, .tmp 57] _ rfl [.pointer m, .int .u64 (a : Int), n.V] rfl (stNew_any m a n W8.drew) ?_
      rintro e wq ⟨gq, rfl, hrq, hgq, hbq⟩
      have hbq5 := Below.and HB9.out hbq
      have hgq5 := HG5.out.below hbq5
      have d6 : wq.cell? ⟨g, 6, none⟩ = some s.st := Row.cell hgq5 6
      have f6 := Row.free hgq5 6
      obtain ⟨W10, hW10⟩ : ∃ x, x = wq.setCell ⟨g, 6, none⟩ (.pointer (some ⟨gq, 0, none⟩)) := ⟨_, rfl⟩
      have hg10 : GtAt W10 g { s with at_ := (a : Int), st := .pointer (some ⟨gq, 0, none⟩) } := by rw [hW10]; exact hgq5.still _
      have hltg := HG5.out.lt
      have hs8 : W8.heap.size ≤ gq := hgq
      have hlt8b := HRB8.out.lt
      have hlt8r := HRD8.out.row.lt
      have hsz8 := HB8.out.size
      have hnq : gq ≠ g := by omega
      have hngb : gb ≠ g := by have := HNE.out.2.1; omega
      have hngr : gr ≠ g := by have := HNE.out.2.2; omega
      have HF := Lib.hid (show Row W10 gq 118 (stC m (nextV 46 gq) false 0 a n.nx n.ct 0 0) ∧ Row W10 gb 81 #[.pointer (some ⟨gr, 0, none⟩)] ∧ RdAt W10 gr gr b m 45 [] ⟨#[]⟩ false 0 (.slice none 0 0) ∧ But w W10 (fun q => q = g) ∧ w.heap.size ≤ gb ∧ w.heap.size ≤ gr ∧ w.heap.size ≤ gq ∧ gb ≠ gr ∧ gq ≠ gb ∧ gq ≠ gr ∧ gq ≠ g from by
        have hb8q := Below.and (drew_below W8) hbq
        have hs5 := HBT5.out.size
        refine ⟨by rw [hW10]; exact hrq.other (p := ⟨g, 6, none⟩) hnq _, by rw [hW10]; exact (HRB8.out.below hb8q HRB8.out.lt).other (p := ⟨g, 6, none⟩) hngb _, ⟨by rw [hW10]; exact (HRD8.out.row.below hb8q HRD8.out.row.lt).other (p := ⟨g, 6, none⟩) hngr _, World.ownsRow_nil _ _ _ _, Nat.le_refl _⟩, by rw [hW10]; exact gbut1 (HBT5.out.trans (But.of_below hbq5 (fun q => q = g)) fun q hq => .inl hq) 6 _, by have := HNE.out.2.1; omega, by have := HNE.out.2.2; omega, by omega, HNE.out.1, by omega, by omega, hnq⟩)
      have HG10 := Lib.hid hg10
      have HSQ := Lib.hid (HS10.out wq hbq5)
      have HSW := Lib.hid (show W10.rangeAt gn 0 n.cl ∧ W10.cell? ⟨g, 0, none⟩ = some (.pointer si) from ⟨by rw [hW10]; exact ndR ((HN5.out.below hbq5 HN5.out.lt).other (p := ⟨g, 6, none⟩) HGN.out.1 _), by rw [HSI.out]; exact Row.cell hg10 0⟩)
      refine ⟨_, rfl, hK _ _ HSQ.out (fun hHeld3 => ?_)⟩
      clear hK K hrq hgq hbq hbq5 hgq5 hg10 hltg hs8 hlt8b hlt8r hsz8 hnq hngb hngr
      (try simp only [Act.put, List.setIfInBounds_toArray, List.set_cons_zero, List.set_cons_succ])
      refine wpAnyH_take (i := 9) (oi := ⟨some 59, _, _, _, _, _⟩) (v := .pointer (some ⟨g, 0, none⟩)) rfl (by kernel_rfl) (by kernel_rfl) (by kernel_rfl) (fun _ _ _ h => h) (Or.inl ⟨by kernel_rfl, by intro WW hSw; obtain ⟨s0, s1⟩ := hSw; go_simp⟩) (by assumption) ?_
      (try simp only [Act.put, List.setIfInBounds_toArray, List.set_cons_zero, List.set_cons_succ])
      refine wpAnyH_take (i := 10) (oi := ⟨some 60, _, _, _, _, _⟩) (v := .pointer (some ⟨g, 6, none⟩)) rfl (by kernel_rfl) (by kernel_rfl) (by kernel_rfl) (fun _ _ _ h => h) (Or.inl ⟨by kernel_rfl, by intro WW hSw; obtain ⟨s0, s1⟩ := hSw; go_simp⟩) (by assumption) ?_
      (try simp only [Act.put, List.setIfInBounds_toArray, List.set_cons_zero, List.set_cons_succ])
      refine wpAnyH_one (i := 11) (oi := ⟨none, _, _, _, _, _⟩) rfl (by kernel_rfl) (fun K hK => ?_)
      refine step_store1 (by rfl) _ (.tmp 60) (.tmp 58) rfl g 6 (.pointer (some ⟨gq, 0, none⟩)) _ rfl rfl rfl d6 f6 (by kernel_rfl) rfl ?_
      rw [← hW10]
      refine hK _ _ HSW.out (fun hHeld4 => ?_)
      clear hK K d6 f6 hW10
      (try simp only [Act.put, List.setIfInBounds_toArray, List.set_cons_zero, List.set_cons_succ])
      refine wpAnyH_done (by kernel_rfl) ?_ _
      clear hHeld hHeld2 hHeld3 hHeld4 HSW HSQ HS10 HSR HS9 HM5
      have k8 : W10.cell? ⟨g, 8, none⟩ = some s.tl := Row.cell HG10.out 8
      have k3 : W10.cell? ⟨g, 3, none⟩ = some s.un := Row.cell HG10.out 3
      have k4 : W10.cell? ⟨g, 4, none⟩ = some s.th := Row.cell HG10.out 4
      have kb : W10.cell? ⟨gb, 0, none⟩ = some (.pointer (some ⟨gr, 0, none⟩)) := HF.out.2.1.cell 0
      have f8 := Row.free HG10.out 8
      have f3 := Row.free HG10.out 3
      have f4 := Row.free HG10.out 4
      have hngb : gb ≠ g := by have := HNE.out.2.1; have := HG5.out.lt; omega
      have HE := Lib.hid (show FoundP w g s n m a b (((W10.setCell ⟨g, 8, none⟩ (.func (.func 27) #[] #[.pointer (some ⟨gb, 0, none⟩)])).setCell ⟨g, 3, none⟩ (.iface 81 (.pointer (some ⟨gr, 0, none⟩)))).setCell ⟨g, 4, none⟩ (.func (.func 29) #[.pointer (some ⟨g, 0, none⟩)] #[])) from by
        obtain ⟨f1, f2, f3, f4, f5, f6, f7, f8, f9, f10, hngq⟩ := HF.out
        have hg := HG5.out.lt
        have hngr : gr ≠ g := by have := HNE.out.2.2; omega
        exact ⟨gb, gr, gq, Row.set (Row.set (Row.set HG10.out 8 (.func (.func 27) #[] #[.pointer (some ⟨gb, 0, none⟩)])) 3 (.iface 81 (.pointer (some ⟨gr, 0, none⟩)))) 4 (.func (.func 29) #[.pointer (some ⟨g, 0, none⟩)] #[]),
          ⟨((f3.row.other (p := ⟨g, 8, none⟩) hngr _).other (p := ⟨g, 3, none⟩) hngr _).other (p := ⟨g, 4, none⟩) hngr _, World.ownsRow_nil _ _ _ _, Nat.le_refl _⟩,
          ((f2.other (p := ⟨g, 8, none⟩) hngb _).other (p := ⟨g, 3, none⟩) hngb _).other (p := ⟨g, 4, none⟩) hngb _,
          ((f1.other (p := ⟨g, 8, none⟩) hngq _).other (p := ⟨g, 3, none⟩) hngq _).other (p := ⟨g, 4, none⟩) hngq _, f5, f6, f7, f8, f9, f10, gbut1 (gbut1 (gbut1 f4 8 _) 3 _) 4 _⟩)
      clear HF HG10 HRB8 HRD8 HNE HG5 HN5 HBT5
      go_wp2
      go_ret
      exact ⟨rfl, HE.out⟩
  · refine step_allocR rfl 10 rfl rfl ?_
    rintro gb wa hgb hra hba hlta
    have HRA := Lib.hid hra
    have HGB := Lib.hid hgb
    have HBA := Lib.hid (Below.and HB6.out hba)
    have HLTA := Lib.hid hlta
    refine hK _ _ (HS9.out _ HBA.out) (fun hHeld3 => ?_)
    clear hK K hra hgb hba hlta
    (try simp only [Act.put, List.setIfInBounds_toArray, List.set_cons_zero, List.set_cons_succ])
    refine wpAnyH_one (i := 4) (oi := ⟨_, _, _, _, _, _⟩) rfl (by kernel_rfl) (fun K hK => ?_)
    refine step_calls (by rfl) 19 EM.out [.tmp 43] _ rfl [.pointer si] rfl (HM5.out _ HBA.out) ?_
    rintro e wx ⟨rfl, rfl⟩
    refine ⟨_, rfl, hK _ _ (HS9.out _ HBA.out) (fun hHeld2 => ?_)⟩
    clear hK K
    (try simp only [Act.put, List.setIfInBounds_toArray, List.set_cons_zero, List.set_cons_succ])
    refine wpAnyH_one (i := 9) (oi := ⟨_, _, _, _, _, _⟩) rfl (by kernel_rfl) (fun K hK => ?_)
    refine step_calls (by rfl) 25 EV.out [.tmp 44, .tmp 48] _ rfl [.pointer m, .int .u64 (b : Int)] rfl (vNew_any m b) ?_
    rintro e wv ⟨rfl, hrd, hbv⟩
    obtain ⟨gr, hgr⟩ : ∃ x, x = (wa).heap.size := ⟨_, rfl⟩
    rw [← hgr] at hrd ⊢
    have HRD := Lib.hid hrd
    have HGR := Lib.hid hgr
    have HBV := Lib.hid hbv
    refine ⟨_, rfl, hK _ _ (HS9.out _ (Below.and HBA.out hbv)) (fun hHeld4 => ?_)⟩
    clear hK K hrd hgr hbv
    (try simp only [Act.put, List.setIfInBounds_toArray, List.set_cons_zero, List.set_cons_succ])
    have hb7 := Below.and HBA.out HBV.out
    obtain ⟨w7, hw7⟩ : ∃ x, x = wv := ⟨_, rfl⟩
    rw [← hw7] at hb7 ⊢
    have hrow : Row w7 gb 81 #[.pointer none] := by rw [hw7]; exact HRA.out.below HBV.out HRA.out.lt
    have hrd : RdAt w7 gr gr b m 45 [] ⟨#[]⟩ false 0 (.slice none 0 0) := by rw [hw7]; exact HRD.out
    have h1 : w5.heap.size ≤ gb := by rw [HGB.out]; exact HB6.out.size
    have h2 : w5.heap.size ≤ gr := by rw [HGR.out]; exact HBA.out.size
    have hne : gb ≠ gr := by have := HRA.out.lt; have := HGR.out; omega
    clear hw7 HRA HGB HBA HLTA HRD HGR HBV
    have e0 : w7.cell? ⟨gb, 0, none⟩ = some (.pointer none) := hrow.cell 0
    have e0f := hrow.free 0
    obtain ⟨W8, hW8⟩ : ∃ x, x = w7.setCell ⟨gb, 0, none⟩ (.pointer (some ⟨gr, 0, none⟩)) := ⟨_, rfl⟩
    have hb8 : Below w5.heap.size w5 W8 := by rw [hW8]; exact hb7.setCell (p := ⟨gb, 0, none⟩) h1 _
    have HB8 := Lib.hid hb8
    have HRB8 := Lib.hid (show Row W8 gb 81 #[.pointer (some ⟨gr, 0, none⟩)] from by rw [hW8]; exact hrow.set 0 _)
    have HRD8 := Lib.hid (show RdAt W8 gr gr b m 45 [] ⟨#[]⟩ false 0 (.slice none 0 0) from ⟨by rw [hW8]; exact hrd.row.other (p := ⟨gb, 0, none⟩) (fun e => hne e.symm) _, World.ownsRow_nil _ _ _ _, Nat.le_refl _⟩)
    have HNE := Lib.hid (And.intro hne (And.intro h1 h2))
    clear hrow hrd hb7 h1 h2 hne hb8
    refine wpAnyH_one (i := 11) (oi := ⟨none, _, _, _, _, _⟩) rfl (by kernel_rfl) (fun K hK => ?_)
    refine step_store1 (by rfl) _ (.tmp 10) (.tmp 49) rfl gb 0 (.pointer (some ⟨gr, 0, none⟩)) _ rfl rfl rfl e0 e0f (by kernel_rfl) rfl ?_
    rw [← hW8]
    refine hK _ _ (HS9.out _ HB8.out) (fun hHeld5 => ?_)
    clear hK K e0 e0f hW8
    (try simp only [Act.put, List.setIfInBounds_toArray, List.set_cons_zero, List.set_cons_succ])
    refine wpAnyH_done (by kernel_rfl) ?_ _
    clear hHeld hHeld2 hHeld3 hHeld4 hHeld5
    have HSR := Lib.hid (show ∀ W : World, (W.rangeAt gn 0 n.cl ∧ W.cell? ⟨g, 0, none⟩ = some (.pointer si)) → W.rangeAt gn 0 n.cl from fun W h => h.1)
    have HS10 := Lib.hid (show ∀ W : World, Below w5.heap.size w5 W → W.rangeAt gn 0 n.cl ∧ W.cell? ⟨g, 0, none⟩ = some (.pointer si) from fun W hb => ⟨ndR (HN5.out.below hb HN5.out.lt), (HS9.out W hb).1⟩)
    have HB9 := Lib.hid (Below.and HB8.out (drew_below W8))
    go_wp2_with fail
    refine wp_region_held_drew (S := fun W : World => W.rangeAt gn 0 n.cl ∧ W.cell? ⟨g, 0, none⟩ = some (.pointer si)) (by kernel_rfl) (HS10.out _ HB9.out) (fun hHeld => ?_)
    refine wpAnyH_take (i := 0) (oi := ⟨some 50, _, _, _, _, _⟩) (v := .pointer (some ⟨g, 0, none⟩)) rfl (by kernel_rfl) (by kernel_rfl) (by kernel_rfl) (fun _ _ _ h => h) (Or.inl ⟨by kernel_rfl, by intro WW hSw; obtain ⟨s0, s1⟩ := hSw; go_simp⟩) (by assumption) ?_
    (try simp only [Act.put, List.setIfInBounds_toArray, List.set_cons_zero, List.set_cons_succ])
    refine wpAnyH_take (i := 1) (oi := ⟨some 51, _, _, _, _, _⟩) (v := .pointer (some ⟨g, 0, none⟩)) rfl (by kernel_rfl) (by kernel_rfl) (by kernel_rfl) (fun _ _ _ h => h) (Or.inl ⟨by kernel_rfl, by intro WW hSw; obtain ⟨s0, s1⟩ := hSw; go_simp⟩) (by assumption) ?_
    (try simp only [Act.put, List.setIfInBounds_toArray, List.set_cons_zero, List.set_cons_succ])
    refine wpAnyH_take (i := 2) (oi := ⟨some 52, _, _, _, _, _⟩) (v := .pointer (some ⟨g, 0, none⟩)) rfl (by kernel_rfl) (by kernel_rfl) (by kernel_rfl) (fun _ _ _ h => h) (Or.inl ⟨by kernel_rfl, by intro WW hSw; obtain ⟨s0, s1⟩ := hSw; go_simp⟩) (by assumption) ?_
    (try simp only [Act.put, List.setIfInBounds_toArray, List.set_cons_zero, List.set_cons_succ])
    refine wpAnyH_take (i := 3) (oi := ⟨some 53, _, _, _, _, _⟩) (v := .pointer (some ⟨g, 0, none⟩)) rfl (by kernel_rfl) (by kernel_rfl) (by kernel_rfl) (fun _ _ _ h => h) (Or.inl ⟨by kernel_rfl, by intro WW hSw; obtain ⟨s0, s1⟩ := hSw; go_simp⟩) (by assumption) ?_
    (try simp only [Act.put, List.setIfInBounds_toArray, List.set_cons_zero, List.set_cons_succ])
    refine wpAnyH_take (i := 4) (oi := ⟨some 54, _, _, _, _, _⟩) (v := .pointer si) rfl (by kernel_rfl) (by kernel_rfl) (by kernel_rfl) (fun _ _ _ h => h) (Or.inl ⟨by kernel_rfl, by intro WW hSw; obtain ⟨s0, s1⟩ := hSw; go_simp⟩) (by assumption) ?_
    (try simp only [Act.put, List.setIfInBounds_toArray, List.set_cons_zero, List.set_cons_succ])
    refine wpAnyH_take (i := 6) (oi := ⟨some 56, _, _, _, _, _⟩) (v := .int .u64 (a : Int)) rfl (by kernel_rfl) (by kernel_rfl) (by kernel_rfl) (fun _ _ _ h => h) (Or.inl ⟨by kernel_rfl, by intro WW hSw; obtain ⟨s0, s1⟩ := hSw; go_simp⟩) (by assumption) ?_
    (try simp only [Act.put, List.setIfInBounds_toArray, List.set_cons_zero, List.set_cons_succ])
    refine wpAnyH_take (i := 7) (oi := ⟨some 57, _, _, _, _, _⟩) (v := .agg n.cl.toArray) rfl (by kernel_rfl) (by kernel_rfl) (by kernel_rfl) (fun _ _ _ h => h) (yieldsIf_load_mid (by rfl) _ _ rfl gn 0 rfl n.cl _ HSR.out Tryz.underlying69 rfl ndI) (by assumption) ?_
    (try simp only [Act.put, List.setIfInBounds_toArray, List.set_cons_zero, List.set_cons_succ])
    refine wpAnyH_one (i := 5) (oi := ⟨_, _, _, _, _, _⟩) rfl (by kernel_rfl) (fun K hK => ?_)
    refine step_calls (by rfl) 19 EM.out [.tmp 54] _ rfl [.pointer si] rfl (HM5.out _ HB9.out) ?_
    rintro e wx ⟨rfl, rfl⟩
    refine ⟨_, rfl, hK _ _ (HS10.out _ HB9.out) (fun hHeld2 => ?_)⟩
    clear hK K
    (try simp only [Act.put, List.setIfInBounds_toArray, List.set_cons_zero, List.set_cons_succ])
    refine wpAnyH_one (i := 8) (oi := ⟨_, _, _, _, _, _⟩) rfl (by kernel_rfl) (fun K hK => ?_)
    refine step_calls (by rfl) 26 ES.out [.tmp 55, .tmp 56, .tmp 57] _ rfl [.pointer m, .int .u64 (a : Int), n.V] rfl (stNew_any m a n W8.drew) ?_
    rintro e wq ⟨gq, rfl, hrq, hgq, hbq⟩
    have hbq5 := Below.and HB9.out hbq
    have hgq5 := HG5.out.below hbq5
    have d6 : wq.cell? ⟨g, 6, none⟩ = some s.st := Row.cell hgq5 6
    have f6 := Row.free hgq5 6
    obtain ⟨W10, hW10⟩ : ∃ x, x = wq.setCell ⟨g, 6, none⟩ (.pointer (some ⟨gq, 0, none⟩)) := ⟨_, rfl⟩
    have hg10 : GtAt W10 g { s with at_ := (a : Int), st := .pointer (some ⟨gq, 0, none⟩) } := by rw [hW10]; exact hgq5.still _
    have hltg := HG5.out.lt
    have hs8 : W8.heap.size ≤ gq := hgq
    have hlt8b := HRB8.out.lt
    have hlt8r := HRD8.out.row.lt
    have hsz8 := HB8.out.size
    have hnq : gq ≠ g := by omega
    have hngb : gb ≠ g := by have := HNE.out.2.1; omega
    have hngr : gr ≠ g := by have := HNE.out.2.2; omega
    have HF := Lib.hid (show Row W10 gq 118 (stC m (nextV 46 gq) false 0 a n.nx n.ct 0 0) ∧ Row W10 gb 81 #[.pointer (some ⟨gr, 0, none⟩)] ∧ RdAt W10 gr gr b m 45 [] ⟨#[]⟩ false 0 (.slice none 0 0) ∧ But w W10 (fun q => q = g) ∧ w.heap.size ≤ gb ∧ w.heap.size ≤ gr ∧ w.heap.size ≤ gq ∧ gb ≠ gr ∧ gq ≠ gb ∧ gq ≠ gr ∧ gq ≠ g from by
      have hb8q := Below.and (drew_below W8) hbq
      have hs5 := HBT5.out.size
      refine ⟨by rw [hW10]; exact hrq.other (p := ⟨g, 6, none⟩) hnq _, by rw [hW10]; exact (HRB8.out.below hb8q HRB8.out.lt).other (p := ⟨g, 6, none⟩) hngb _, ⟨by rw [hW10]; exact (HRD8.out.row.below hb8q HRD8.out.row.lt).other (p := ⟨g, 6, none⟩) hngr _, World.ownsRow_nil _ _ _ _, Nat.le_refl _⟩, by rw [hW10]; exact gbut1 (HBT5.out.trans (But.of_below hbq5 (fun q => q = g)) fun q hq => .inl hq) 6 _, by have := HNE.out.2.1; omega, by have := HNE.out.2.2; omega, by omega, HNE.out.1, by omega, by omega, hnq⟩)
    have HG10 := Lib.hid hg10
    have HSQ := Lib.hid (HS10.out wq hbq5)
    have HSW := Lib.hid (show W10.rangeAt gn 0 n.cl ∧ W10.cell? ⟨g, 0, none⟩ = some (.pointer si) from ⟨by rw [hW10]; exact ndR ((HN5.out.below hbq5 HN5.out.lt).other (p := ⟨g, 6, none⟩) HGN.out.1 _), by rw [HSI.out]; exact Row.cell hg10 0⟩)
    refine ⟨_, rfl, hK _ _ HSQ.out (fun hHeld3 => ?_)⟩
    clear hK K hrq hgq hbq hbq5 hgq5 hg10 hltg hs8 hlt8b hlt8r hsz8 hnq hngb hngr
    (try simp only [Act.put, List.setIfInBounds_toArray, List.set_cons_zero, List.set_cons_succ])
    refine wpAnyH_take (i := 9) (oi := ⟨some 59, _, _, _, _, _⟩) (v := .pointer (some ⟨g, 0, none⟩)) rfl (by kernel_rfl) (by kernel_rfl) (by kernel_rfl) (fun _ _ _ h => h) (Or.inl ⟨by kernel_rfl, by intro WW hSw; obtain ⟨s0, s1⟩ := hSw; go_simp⟩) (by assumption) ?_
    (try simp only [Act.put, List.setIfInBounds_toArray, List.set_cons_zero, List.set_cons_succ])
    refine wpAnyH_take (i := 10) (oi := ⟨some 60, _, _, _, _, _⟩) (v := .pointer (some ⟨g, 6, none⟩)) rfl (by kernel_rfl) (by kernel_rfl) (by kernel_rfl) (fun _ _ _ h => h) (Or.inl ⟨by kernel_rfl, by intro WW hSw; obtain ⟨s0, s1⟩ := hSw; go_simp⟩) (by assumption) ?_
    (try simp only [Act.put, List.setIfInBounds_toArray, List.set_cons_zero, List.set_cons_succ])
    refine wpAnyH_one (i := 11) (oi := ⟨none, _, _, _, _, _⟩) rfl (by kernel_rfl) (fun K hK => ?_)
    refine step_store1 (by rfl) _ (.tmp 60) (.tmp 58) rfl g 6 (.pointer (some ⟨gq, 0, none⟩)) _ rfl rfl rfl d6 f6 (by kernel_rfl) rfl ?_
    rw [← hW10]
    refine hK _ _ HSW.out (fun hHeld4 => ?_)
    clear hK K d6 f6 hW10
    (try simp only [Act.put, List.setIfInBounds_toArray, List.set_cons_zero, List.set_cons_succ])
    refine wpAnyH_done (by kernel_rfl) ?_ _
    clear hHeld hHeld2 hHeld3 hHeld4 HSW HSQ HS10 HSR HS9 HM5
    have k8 : W10.cell? ⟨g, 8, none⟩ = some s.tl := Row.cell HG10.out 8
    have k3 : W10.cell? ⟨g, 3, none⟩ = some s.un := Row.cell HG10.out 3
    have k4 : W10.cell? ⟨g, 4, none⟩ = some s.th := Row.cell HG10.out 4
    have kb : W10.cell? ⟨gb, 0, none⟩ = some (.pointer (some ⟨gr, 0, none⟩)) := HF.out.2.1.cell 0
    have f8 := Row.free HG10.out 8
    have f3 := Row.free HG10.out 3
    have f4 := Row.free HG10.out 4
    have hngb : gb ≠ g := by have := HNE.out.2.1; have := HG5.out.lt; omega
    have HE := Lib.hid (show FoundP w g s n m a b (((W10.setCell ⟨g, 8, none⟩ (.func (.func 27) #[] #[.pointer (some ⟨gb, 0, none⟩)])).setCell ⟨g, 3, none⟩ (.iface 81 (.pointer (some ⟨gr, 0, none⟩)))).setCell ⟨g, 4, none⟩ (.func (.func 29) #[.pointer (some ⟨g, 0, none⟩)] #[])) from by
      obtain ⟨f1, f2, f3, f4, f5, f6, f7, f8, f9, f10, hngq⟩ := HF.out
      have hg := HG5.out.lt
      have hngr : gr ≠ g := by have := HNE.out.2.2; omega
      exact ⟨gb, gr, gq, Row.set (Row.set (Row.set HG10.out 8 (.func (.func 27) #[] #[.pointer (some ⟨gb, 0, none⟩)])) 3 (.iface 81 (.pointer (some ⟨gr, 0, none⟩)))) 4 (.func (.func 29) #[.pointer (some ⟨g, 0, none⟩)] #[]),
        ⟨((f3.row.other (p := ⟨g, 8, none⟩) hngr _).other (p := ⟨g, 3, none⟩) hngr _).other (p := ⟨g, 4, none⟩) hngr _, World.ownsRow_nil _ _ _ _, Nat.le_refl _⟩,
        ((f2.other (p := ⟨g, 8, none⟩) hngb _).other (p := ⟨g, 3, none⟩) hngb _).other (p := ⟨g, 4, none⟩) hngb _,
        ((f1.other (p := ⟨g, 8, none⟩) hngq _).other (p := ⟨g, 3, none⟩) hngq _).other (p := ⟨g, 4, none⟩) hngq _, f5, f6, f7, f8, f9, f10, gbut1 (gbut1 (gbut1 f4 8 _) 3 _) 4 _⟩)
    clear HF HG10 HRB8 HRD8 HNE HG5 HN5 HBT5
    go_wp2
    go_ret
    exact ⟨rfl, HE.out⟩
end Go.Proofs.YtpjlajkjknkbaaaGreatDoor
/- The law's counts: how many primitives a step does; a get's whole, of any machine of so many steps; no conditions. -/
namespace Go.Proofs.YtpjlajkjknkbaaaGreatDoor
open Go.RowKit
set_option linter.unusedVariables false
attribute [local go_sem] Oper.semAt_some
/-- What Stats says of a memory. -/
def StatsIs (w : World) (gm : Nat) (s : St) : Prop := Calls Tryz.prog 57 #[.pointer (some ⟨gm, 0, none⟩)] w fun e w' => e = .returned (.agg #[wv s.ld, wv s.st, wv s.fl, wv s.fe]) ∧ Below w.heap.size w w'
def totS (s : St) : Nat := s.ld + s.st + s.fl + s.fe
set_option maxRecDepth 100000 in
set_option maxHeartbeats 3200000 in
theorem did15_any {w : World} {gm : Nat} {s : St} (h : StatsIs w gm s) (hs : totS s < 9223372036854775808) :
    Calls Tryz.prog 33 #[.pointer (some ⟨gm, 0, none⟩)] w fun e w' => e = .returned (.tuple #[.int .u64 (totS s : Int), .int .u64 (s.st : Int)]) ∧ Below w.heap.size w w' := by
  have mixed : Tryz.prog.follows .mixedOrders = true := by kernel_rfl
  have H := Lib.hid h
  unfold StatsIs at H
  unfold totS at hs ⊢
  unfold wv at H
  obtain ⟨a, ha⟩ : ∃ a, a = s.ld := ⟨_, rfl⟩
  obtain ⟨b, hb⟩ : ∃ b, b = s.st := ⟨_, rfl⟩
  obtain ⟨c, hc⟩ : ∃ c, c = s.fl := ⟨_, rfl⟩
  obtain ⟨d, hd⟩ : ∃ d, d = s.fe := ⟨_, rfl⟩
  rw [← ha, ← hb, ← hc, ← hd] at H hs ⊢
  clear ha hb hc hd h
  obtain ⟨x1, h1⟩ : ∃ x : Nat, x = a + b := ⟨_, rfl⟩
  obtain ⟨x2, h2⟩ : ∃ x : Nat, x = x1 + c := ⟨_, rfl⟩
  obtain ⟨x3, h3⟩ : ∃ x : Nat, x = x2 + d := ⟨_, rfl⟩
  have e1 : IntKind.u64.wrap ((a : Int) + (b : Int)) = (x1 : Int) := by rw [IntKind.wrap_u64]; omega
  have e2 : IntKind.u64.wrap ((x1 : Int) + (c : Int)) = (x2 : Int) := by rw [IntKind.wrap_u64]; omega
  have e3 : IntKind.u64.wrap ((x2 : Int) + (d : Int)) = (x3 : Int) := by rw [IntKind.wrap_u64]; omega
  rw [show a + b + c + d = x3 by omega]
  clear h1 h2 h3 hs
  go_enter Tryz.func33, Tryz.ntmps33
  go_wp2_with fail
  refine H.out.mono ?_
  rintro e w1 ⟨rfl, hb1⟩
  obtain ⟨W2, hW2⟩ : ∃ W2, W2 = w1.alloc (.cells #[.int .u64 (a : Int), .int .u64 (b : Int), .int .u64 (c : Int), .int .u64 (d : Int)] 135) := ⟨_, rfl⟩
  have hr2 : Row W2 w1.heap.size 135 #[.int .u64 (a : Int), .int .u64 (b : Int), .int .u64 (c : Int), .int .u64 (d : Int)] := by rw [hW2]; exact Row.new _ _ _
  have HB2 := Lib.hid (show Below w.heap.size w W2 from by rw [hW2]; exact Below.and hb1 (alloc_below _ _))
  obtain ⟨q, hq⟩ : ∃ q, q = w1.heap.size := ⟨_, rfl⟩
  rw [← hq] at hr2
  have k0 : W2.cell? ⟨q, 0, none⟩ = some (.int .u64 (a : Int)) := hr2.cell 0
  have k1 : W2.cell? ⟨q, 1, none⟩ = some (.int .u64 (b : Int)) := hr2.cell 1
  have k2 : W2.cell? ⟨q, 2, none⟩ = some (.int .u64 (c : Int)) := hr2.cell 2
  have k3 : W2.cell? ⟨q, 3, none⟩ = some (.int .u64 (d : Int)) := hr2.cell 3
  have ca := fun p : LowBy W2 => p.cell k0
  have cb := fun p : LowBy W2 => p.cell k1
  have cc := fun p : LowBy W2 => p.cell k2
  have cd := fun p : LowBy W2 => p.cell k3
  clear hr2 hb1 k0 k1 k2 k3 H
  go_wp2_with fail
  rw [← hq, ← hW2]
  clear hq hW2
  refine wp_region_quiet_low (by assumption) (by kernel_rfl) ?_
  repeat (go_big_quiet_step (fail))
  refine wpQuiet_nil ?_
  intro _ hw'
  obtain ⟨p, hw''⟩ := hw'
  subst hw''
  have HF := Lib.hid (Below.and HB2.out p.low)
  clear ca cb cc cd HB2
  go_wp2
  go_ret2
  exact ⟨rfl, HF.out⟩
set_option maxRecDepth 100000 in
set_option maxHeartbeats 3200000 in
theorem whole15_any {w : World} {gm gg N most : Nat} (I : Nat → World → Prop) (hN : 1 ≤ N) (hm : N ≤ most) (hm2 : most ≤ 1000000) (h0 : I 0 w)
    (HS : ∀ i W, i < N → I i W → Calls Tryz.prog 18 #[.pointer (some ⟨gm, 0, none⟩), .pointer (some ⟨gg, 0, none⟩)] W fun e w' => e = .returned (.tuple #[.bool (decide (i + 1 = N)), .bool true]) ∧ I (i + 1) w') :
    Calls Tryz.prog 14 #[.pointer (some ⟨gm, 0, none⟩), .pointer (some ⟨gg, 0, none⟩), .int .i64 (most : Int)] w fun e w' => e = .returned (.int .i64 (N : Int)) ∧ I N w' := by
  have H0 := Lib.hid h0
  have HSS := Lib.hid HS
  clear h0 HS
  go_enter Tryz.func14, Tryz.ntmps14
  go_wp2_with fail
  go_loopw [7] (fun iv wr => ∃ i : Nat, i < N ∧ iv = .int .i64 ((i : Int) + 1) ∧ I i wr) (fun iv _ => N + 2 - (intOf iv).toNat)
  case atStart => exact ⟨0, by omega, rfl, H0.out⟩
  case round =>
    rename World => wr
    obtain ⟨i, hi, rfl, hI⟩ := hrel
    obtain ⟨D, hD⟩ : ∃ D, D = decide (i + 1 = N) := ⟨_, rfl⟩
    have HS1 := Lib.hid (HSS.out i wr hi hI)
    rw [← hD] at HS1
    have HDD := Lib.hid hD
    have him : (i : Int) + 1 ≤ (most : Int) := by omega
    clear hI hD H0
    cases D with
    | false =>
      have hne : i + 1 ≠ N := by have := HDD.out; simpa using this.symm
      go_wp2_with fail
      refine HS1.out.mono ?_
      rintro e w1 ⟨rfl, hI1⟩
      have HI1 := Lib.hid hI1
      clear hI1 HS1
      go_wp2
      exact ⟨⟨i + 1, by omega, by go_num, HI1.out⟩, by simp [intOf]; omega⟩
    | true =>
      have hT : i + 1 = N := by have := HDD.out; simpa using this.symm
      go_wp2_with fail
      refine HS1.out.mono ?_
      rintro e w1 ⟨rfl, hI1⟩
      have HI1 := Lib.hid hI1
      clear hI1 HS1
      go_wp2
      go_ret
      subst hT
      exact ⟨by congr 2, HI1.out⟩
end Go.Proofs.YtpjlajkjknkbaaaGreatDoor
/- GetNil, walked, but for the chapter's rows; conditions: those hold. -/
namespace Go.Proofs.YtpjlajkjknkbaaaGreatDoor
open Go.RowKit
set_option linter.unusedVariables false
attribute [local go_sem] Oper.semAt_some
set_option maxRecDepth 100000 in
set_option maxHeartbeats 3200000 in
theorem getNil_of (w : World) (HK : ∀ W, Below w.heap.size w W → Calls Tryz.prog 9 #[] W fun e w' => e = .returned (.bool true) ∧ Below W.heap.size W w') :
    Calls Tryz.prog 3 #[] w fun e w' => e = .returned (.bool true) ∧ Below w.heap.size w w' := by
  have HKK := Lib.hid HK
  obtain ⟨W1, hW1⟩ : ∃ W1, W1 = w.alloc (.cells (GF.zero none 0 0).cells.toArray 37) := ⟨_, rfl⟩
  have HB1 := Lib.hid (show Below w.heap.size w W1 by rw [hW1]; exact alloc_below _ _)
  have HZ1 := Lib.hid (show GtAt W1 w.heap.size (GF.zero none 0 0) from by rw [hW1]; exact Row.new _ _ _)
  have HW1 := Lib.hid hW1
  clear HK hW1
  go_enter Tryz.func3, Tryz.ntmps3
  go_upto_region 3 with (fail)
  have HWW := HW1.out
  unfold GF.zero GF.cells at HWW
  rw [← HWW]
  clear HWW
  obtain ⟨gz, hgz⟩ : ∃ gz, gz = w.heap.size := ⟨_, rfl⟩
  rw [← hgz] at HZ1 ⊢
  have HGZ := Lib.hid hgz
  clear hgz HW1
  go_wp2_with fail
  refine (gtNew_any (w := W1) (x := none) (m := none) (cl := 0) (key := 1) (fun W _ => siMem_nil W)).mono ?_
  rintro e w2 ⟨g, gw, rfl, hg, hgw, hne, hk, hgt, hb2⟩
  have HB2 := Lib.hid (Below.and HB1.out hb2)
  have HZ2 := Lib.hid (HZ1.out.below hb2)
  have HST := Lib.hid (gtStep_nosite hne hk hgt)
  have HGE := Lib.hid (show w.heap.size < g ∧ w.heap.size < gw from by have := HZ1.out.lt; have := HGZ.out; omega)
  clear hg hgw hne hk hgt hb2
  go_wp2_with fail
  refine (gtStep_nil _).mono ?_
  rintro e w' ⟨rfl, rfl⟩
  go_wp2_with fail
  refine (gtStep_zero HZ2.out rfl).mono ?_
  rintro e w' ⟨rfl, rfl⟩
  go_wp2_with fail
  refine HST.out.mono ?_
  rintro e w3 ⟨rfl, hb3⟩
  have HZ3 := Lib.hid (HZ2.out.but hb3 (fun e => by have := HGZ.out; have := HGE.out; omega))
  have HB3 := Lib.hid (show Below w.heap.size w w3 from HB2.out.trans (hb3.below HB2.out.size fun k hk => by have := HGE.out; omega))
  clear hb3 HST
  go_wp2_with fail
  refine (gtTries_nil _).mono ?_
  rintro e w' ⟨rfl, rfl⟩
  go_wp2_with fail
  refine (show Calls Tryz.prog 6 #[.pointer (some ⟨gz, 0, none⟩)] w3 (fun e w' => e = .returned (.int .i64 0) ∧ w3 = w') from gtTries_any HZ3.out).mono ?_
  rintro e w' ⟨rfl, rfl⟩
  go_wp2_with fail
  refine (gtResp_nil _).mono ?_
  rintro e w4 ⟨rfl, hb4⟩
  have HB4 := Lib.hid (Below.and HB3.out hb4)
  have HZ4 := Lib.hid (HZ3.out.below hb4)
  clear hb4
  go_wp2_with fail
  refine (rSameResp_same 0 ⟨#[]⟩ w4).mono ?_
  rintro e w5 ⟨rfl, hb5⟩
  have HB5 := Lib.hid (Below.and HB4.out hb5)
  have HZ5 := Lib.hid (HZ4.out.below hb5)
  clear hb5
  go_wp2_with fail
  refine (show Calls Tryz.prog 8 #[.pointer (some ⟨gz, 0, none⟩)] w5 (fun e w' => e = .returned (rsV 0 ⟨#[]⟩) ∧ Below w5.heap.size w5 w') from gtResp_any HZ5.out rfl).mono ?_
  rintro e w6 ⟨rfl, hb6⟩
  have HB6 := Lib.hid (Below.and HB5.out hb6)
  clear hb6
  go_wp2_with fail
  refine (rSameResp_same 0 ⟨#[]⟩ w6).mono ?_
  rintro e w7 ⟨rfl, hb7⟩
  have HB7 := Lib.hid (Below.and HB6.out hb7)
  have HKW := Lib.hid (HKK.out w7 HB7.out)
  clear hb7 HKK
  go_wp2_with fail
  refine HKW.out.mono ?_
  rintro e w8 ⟨rfl, hb8⟩
  have HB8 := Lib.hid (Below.and HB7.out hb8)
  clear hb8
  go_wp2_with fail
  go_ret
  exact ⟨rfl, HB8.out⟩
end Go.Proofs.YtpjlajkjknkbaaaGreatDoor
