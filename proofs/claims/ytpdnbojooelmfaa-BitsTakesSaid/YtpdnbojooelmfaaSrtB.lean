/- order2Ordered, medianOrdered, medianAdjacentOrdered, choosePivotOrdered: they turn nothing but a counter of their own, and hand back places that they were given. -/
import Derived.Test.YtpdnbojooelmfaaSrtA
namespace Go.Proofs.Ytpdnbojooelmfaa
open Go.RowKit
set_option linter.unusedVariables false
/-- The counter of exchanges, whatever it says. -/
def Bx (w : World) (cb : Nat) : Prop := ∃ v : Int, Row w cb 3 #[.int .i64 v]
def Ord2 (w : World) (cb a b : Nat) (e : Ending) (w' : World) : Prop := (∃ x y : Nat, e = .returned (.tuple #[.int .i64 (x : Int), .int .i64 (y : Int)]) ∧ (x = a ∧ y = b ∨ x = b ∧ y = a)) ∧ Bx w' cb ∧ But w w' (fun k => k = cb)
theorem Bx.of_drw {w w' : World} {cb : Nat} (h : Bx w cb) (hb : Drw w w') : Bx w' cb := by
  obtain ⟨v, h⟩ := h
  exact ⟨v, h.below hb.below h.lt⟩
theorem Bx.lt {w : World} {cb : Nat} (h : Bx w cb) : cb < w.heap.size := by
  obtain ⟨v, h⟩ := h
  exact h.lt
/-- A box turns; the slice stays. -/
theorem SwA.box {w0 w w' : World} {h off z n : Nat} {d : Array Nat} (s : SwA w0 w h off z n d) {cb : Nat} (hne : cb ≠ h) (hlo : w0.heap.size ≤ cb) (hb : But w w' (fun k => k = cb)) : SwA w0 w' h off z n d := by
  obtain ⟨⟨cur, hr, h1⟩, h2, h3⟩ := s
  exact ⟨⟨cur, hb.row hr (fun e => hne e.symm), h1⟩, h2, h3.trans hb (fun k hk => .inr (by rw [hk]; exact hlo))⟩
theorem SwA.stays {w w' : World} {h off z n : Nat} {d : Array Nat} (s : SwA w w h off z n d) {cb : Nat} (hne : cb ≠ h) (hb : But w w' (fun k => k = cb)) : SwA w' w' h off z n d := by
  obtain ⟨⟨cur, hr, h1⟩, h2, h3⟩ := s
  exact ⟨⟨cur, hb.row hr (fun e => hne e.symm), h1⟩, h2, But.refl _ _⟩
set_option maxRecDepth 100000 in
set_option maxHeartbeats 2000000 in
theorem order2_any {w : World} {h off z cap n : Nat} {d : Array Nat} (hA : SwA w w h off z n d) {cb : Nat} (hB : Bx w cb) {a b : Nat} (ha : a < n) (hb : b < n) :
    Calls Try.prog 59 #[.slice (some ⟨h, off, none⟩) n cap, .int .i64 (a : Int), .int .i64 (b : Int), .pointer (some ⟨cb, 0, none⟩)] w (Ord2 w cb a b) := by
  obtain ⟨v, hr⟩ := hB
  have c0 := hr.cell 0
  have f0 := hr.free 0
  simp only [List.getElem?_toArray, List.getElem?_cons_zero] at c0
  have ca := hA.cell ha
  have cb' := hA.cell hb
  have HR := Lib.hid hr
  clear hr hA
  by_cases hc : d[b]! < d[a]!
  · have hcc : decide (d[b]! < d[a]!) = true := decide_eq_true hc
    generalize d[a]! = x at *
    generalize d[b]! = y at *
    have HE : Hid (∀ q (u : Int), Ord2 w cb a b (.returned (.tuple #[.int .i64 (b : Int), .int .i64 (a : Int)])) ((w.drewN q).setCell ⟨cb, 0, none⟩ (.int .i64 u))) := Lib.hid (fun q u => ⟨⟨b, a, rfl, .inr ⟨rfl, rfl⟩⟩, ⟨u, (HR.out.below (drewN_below w q) HR.out.lt).set 0 _⟩, But.set (fp := fun k => k = cb) (But.of_below (drewN_below w q) _) (p := ⟨cb, 0, none⟩) rfl _⟩)
    go_enter Try.func59, Try.ntmps59
    go_wp2
    go_quiet ((go_at_call 48; exact Calls.quiet_of_same (cmpLess_any _ _ _)))
    go_wp2
    go_ret2
    exact HE.out _ _
  · have hcc : decide (d[b]! < d[a]!) = false := decide_eq_false hc
    generalize d[a]! = x at *
    generalize d[b]! = y at *
    have HE : Hid (∀ q, Ord2 w cb a b (.returned (.tuple #[.int .i64 (a : Int), .int .i64 (b : Int)])) (w.drewN q)) := Lib.hid (fun q => ⟨⟨a, b, rfl, .inl ⟨rfl, rfl⟩⟩, ⟨v, HR.out.below (drewN_below w q) HR.out.lt⟩, But.of_below (drewN_below w q) _⟩)
    go_enter Try.func59, Try.ntmps59
    go_wp2
    go_quiet ((go_at_call 48; exact Calls.quiet_of_same (cmpLess_any _ _ _)))
    go_wp2
    go_ret2
    exact HE.out _
def OneOf (w : World) (cb : Nat) (P : Nat → Prop) (e : Ending) (w' : World) : Prop := (∃ r : Nat, e = .returned (.int .i64 (r : Int)) ∧ P r) ∧ Bx w' cb ∧ But w w' (fun k => k = cb)
set_option maxRecDepth 100000 in
set_option maxHeartbeats 2000000 in
theorem median_any {w : World} {h off z cap n : Nat} {d : Array Nat} (hA : SwA w w h off z n d) {cb : Nat} (hne : cb ≠ h) (hB : Bx w cb) {a b c : Nat} (ha : a < n) (hb : b < n) (hc : c < n) :
    Calls Try.prog 57 #[.slice (some ⟨h, off, none⟩) n cap, .int .i64 (a : Int), .int .i64 (b : Int), .int .i64 (c : Int), .pointer (some ⟨cb, 0, none⟩)] w (OneOf w cb fun r => r = a ∨ r = b ∨ r = c) := by
  have HA := Lib.hid hA
  have HB := Lib.hid hB
  clear hA hB
  go_enter Try.func57, Try.ntmps57
  go_wp2_with fail
  refine (order2_any HA.out HB.out ha hb).mono ?_
  rintro e w1 ⟨⟨a1, b1, rfl, h1⟩, hB1, hb1⟩
  have HA1 := Lib.hid (HA.out.stays hne hb1)
  have HB1 := Lib.hid hB1
  have HU1 := Lib.hid hb1
  have ha1 : a1 < n := by omega
  have hb1' : b1 < n := by omega
  clear hB1 hb1
  go_wp2_with fail
  refine (order2_any HA1.out HB1.out hb1' hc).mono ?_
  rintro e w2 ⟨⟨b2, c2, rfl, h2⟩, hB2, hb2⟩
  have HA2 := Lib.hid (HA1.out.stays hne hb2)
  have HB2 := Lib.hid hB2
  have HU2 := Lib.hid (HU1.out.trans hb2 (fun k hk => .inl hk))
  have hb2' : b2 < n := by omega
  clear hB2 hb2
  go_wp2_with fail
  refine (order2_any HA2.out HB2.out ha1 hb2').mono ?_
  rintro e w3 ⟨⟨a3, b3, rfl, h3⟩, hB3, hb3⟩
  have HE : Hid (OneOf w cb (fun r => r = a ∨ r = b ∨ r = c) (.returned (.int .i64 (b3 : Int))) w3) := Lib.hid ⟨⟨b3, rfl, by omega⟩, hB3, HU2.out.trans hb3 (fun k hk => .inl hk)⟩
  clear hB3 hb3 h1 h2 h3
  go_wp2
  go_ret
  exact HE.out
set_option maxRecDepth 100000 in
set_option maxHeartbeats 2000000 in
theorem medAdj_any {w : World} {h off z cap n : Nat} {d : Array Nat} (hA : SwA w w h off z n d) {cb : Nat} (hne : cb ≠ h) (hB : Bx w cb) {a : Nat} (ha1 : 1 ≤ a) (ha : a + 1 < n) (hn : n ≤ 1000000000) :
    Calls Try.prog 56 #[.slice (some ⟨h, off, none⟩) n cap, .int .i64 (a : Int), .pointer (some ⟨cb, 0, none⟩)] w (OneOf w cb fun r => a - 1 ≤ r ∧ r ≤ a + 1) := by
  have H := median_any (cap := cap) hA hne hB (a := a - 1) (b := a) (c := a + 1) (by omega) (by omega) ha
  rw [show ((a - 1 : Nat) : Int) = (a : Int) - 1 from by omega, show ((a + 1 : Nat) : Int) = (a : Int) + 1 from by omega] at H
  have H := Lib.hid H
  have HP : Hid (∀ r, r = a - 1 ∨ r = a ∨ r = a + 1 → a - 1 ≤ r ∧ r ≤ a + 1) := Lib.hid (by omega)
  clear hA hB
  go_enter Try.func56, Try.ntmps56
  go_wp2_with fail
  refine H.out.mono ?_
  rintro e w1 ⟨⟨r, rfl, h1⟩, hB1, hb1⟩
  have HE : Hid (OneOf w cb (fun r => a - 1 ≤ r ∧ r ≤ a + 1) (.returned (.int .i64 (r : Int))) w1) := Lib.hid ⟨⟨r, rfl, HP.out r h1⟩, hB1, hb1⟩
  clear hB1 hb1 h1
  go_wp2
  go_ret
  exact HE.out
def PivEnd (w : World) (a b : Nat) (e : Ending) (w' : World) : Prop := (∃ (p : Nat) (t : Int), e = .returned (.tuple #[.int .i64 (p : Int), .int .i64 t]) ∧ a ≤ p ∧ p < b ∧ (t = 0 ∨ t = 1 ∨ t = 2)) ∧ Below w.heap.size w w'
theorem box_new (w : World) : Bx (w.alloc (.cells #[.int .i64 0] 3)) w.heap.size := ⟨0, Row.new w _ _⟩
theorem but_box {w0 w w' : World} {cb : Nat} (h : Below w0.heap.size w0 w) (hlo : w0.heap.size ≤ cb) (hb : But w w' (fun k => k = cb)) : Below w0.heap.size w0 w' :=
  h.trans (hb.below h.size (fun k hk => by rw [hk]; exact hlo))
end Go.Proofs.Ytpdnbojooelmfaa
