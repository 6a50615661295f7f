/- Texts of this claim, packed: SrtB, SrtC, SrtE. -/
import Derived.Test.YtgclbeagifoifaaPc10
import Derived.Test.YtgclbeagifoifaaPc11
/- order2Ordered, medianOrdered, medianAdjacentOrdered, choosePivotOrdered: they turn nothing but a counter of their own, and hand back places that they were given. -/
namespace Go.Proofs.Ytgclbeagifoifaa
open Go.RowKit
set_option linter.unusedVariables false
/-- The counter of exchanges, whatever it says. -/
def Bx (w : World) (cb : Nat) : Prop := ∃ v : Int, Row w cb 3 #[.int .i64 v]
def Ord2 (w : World) (cb a b : Nat) (e : Ending) (w' : World) : Prop := (∃ x y : Nat, e = .returned (.tuple #[.int .i64 (x : Int), .int .i64 (y : Int)]) ∧ (x = a ∧ y = b ∨ x = b ∧ y = a)) ∧ Bx w' cb ∧ But w w' (fun k => k = cb)
theorem Bx.of_drw {w w' : World} {cb : Nat} (h : Bx w cb) (hb : Drw w w') : Bx w' cb := by
  obtain ⟨v, h⟩ := h
  exact ⟨v, h.below hb.below h.lt⟩
theorem Bx.lt {w : World} {cb : Nat} (h : Bx w cb) : cb < w.heap.size := by
  obtain ⟨v, h⟩ := h
  exact h.lt
/-- A box turns; the slice stays. -/
theorem SwA.box {w0 w w' : World} {h off z n : Nat} {d : Array Nat} (s : SwA w0 w h off z n d) {cb : Nat} (hne : cb ≠ h) (hlo : w0.heap.size ≤ cb) (hb : But w w' (fun k => k = cb)) : SwA w0 w' h off z n d := by
  obtain ⟨⟨cur, hr, h1⟩, h2, h3⟩ := s
  exact ⟨⟨cur, hb.row hr (fun e => hne e.symm), h1⟩, h2, h3.trans hb (fun k hk => .inr (by rw [hk]; exact hlo))⟩
theorem SwA.stays {w w' : World} {h off z n : Nat} {d : Array Nat} (s : SwA w w h off z n d) {cb : Nat} (hne : cb ≠ h) (hb : But w w' (fun k => k = cb)) : SwA w' w' h off z n d := by
  obtain ⟨⟨cur, hr, h1⟩, h2, h3⟩ := s
  exact ⟨⟨cur, hb.row hr (fun e => hne e.symm), h1⟩, h2, But.refl _ _⟩
set_option maxRecDepth 100000 in
set_option maxHeartbeats 2000000 in
theorem order2_any {w : World} {h off z cap n : Nat} {d : Array Nat} (hA : SwA w w h off z n d) {cb : Nat} (hB : Bx w cb) {a b : Nat} (ha : a < n) (hb : b < n) :
    Calls Try.prog 65 #[.slice (some ⟨h, off, none⟩) n cap, .int .i64 (a : Int), .int .i64 (b : Int), .pointer (some ⟨cb, 0, none⟩)] w (Ord2 w cb a b) := by
  obtain ⟨v, hr⟩ := hB
  have c0 := hr.cell 0
  have f0 := hr.free 0
  simp only [List.getElem?_toArray, List.getElem?_cons_zero] at c0
  have ca := hA.cell ha
  have cb' := hA.cell hb
  have HR := Lib.hid hr
  clear hr hA
  by_cases hc : d[b]! < d[a]!
  · have hcc : decide (d[b]! < d[a]!) = true := decide_eq_true hc
    generalize d[a]! = x at *
    generalize d[b]! = y at *
    have HE : Hid (∀ q (u : Int), Ord2 w cb a b (.returned (.tuple #[.int .i64 (b : Int), .int .i64 (a : Int)])) ((w.drewN q).setCell ⟨cb, 0, none⟩ (.int .i64 u))) := Lib.hid (fun q u => ⟨⟨b, a, rfl, .inr ⟨rfl, rfl⟩⟩, ⟨u, (HR.out.below (drewN_below w q) HR.out.lt).set 0 _⟩, But.set (fp := fun k => k = cb) (But.of_below (drewN_below w q) _) (p := ⟨cb, 0, none⟩) rfl _⟩)
    go_enter Try.func65, Try.ntmps65
    go_wp2
    go_quiet ((go_at_call 54; exact Calls.quiet_of_same (cmpLess_any _ _ _)))
    go_wp2
    go_ret2
    exact HE.out _ _
  · have hcc : decide (d[b]! < d[a]!) = false := decide_eq_false hc
    generalize d[a]! = x at *
    generalize d[b]! = y at *
    have HE : Hid (∀ q, Ord2 w cb a b (.returned (.tuple #[.int .i64 (a : Int), .int .i64 (b : Int)])) (w.drewN q)) := Lib.hid (fun q => ⟨⟨a, b, rfl, .inl ⟨rfl, rfl⟩⟩, ⟨v, HR.out.below (drewN_below w q) HR.out.lt⟩, But.of_below (drewN_below w q) _⟩)
    go_enter Try.func65, Try.ntmps65
    go_wp2
    go_quiet ((go_at_call 54; exact Calls.quiet_of_same (cmpLess_any _ _ _)))
    go_wp2
    go_ret2
    exact HE.out _
def OneOf (w : World) (cb : Nat) (P : Nat → Prop) (e : Ending) (w' : World) : Prop := (∃ r : Nat, e = .returned (.int .i64 (r : Int)) ∧ P r) ∧ Bx w' cb ∧ But w w' (fun k => k = cb)
set_option maxRecDepth 100000 in
set_option maxHeartbeats 2000000 in
theorem median_any {w : World} {h off z cap n : Nat} {d : Array Nat} (hA : SwA w w h off z n d) {cb : Nat} (hne : cb ≠ h) (hB : Bx w cb) {a b c : Nat} (ha : a < n) (hb : b < n) (hc : c < n) :
    Calls Try.prog 63 #[.slice (some ⟨h, off, none⟩) n cap, .int .i64 (a : Int), .int .i64 (b : Int), .int .i64 (c : Int), .pointer (some ⟨cb, 0, none⟩)] w (OneOf w cb fun r => r = a ∨ r = b ∨ r = c) := by
  have HA := Lib.hid hA
  have HB := Lib.hid hB
  clear hA hB
  go_enter Try.func63, Try.ntmps63
  go_wp2_with fail
  refine (order2_any HA.out HB.out ha hb).mono ?_
  rintro e w1 ⟨⟨a1, b1, rfl, h1⟩, hB1, hb1⟩
  have HA1 := Lib.hid (HA.out.stays hne hb1)
  have HB1 := Lib.hid hB1
  have HU1 := Lib.hid hb1
  have ha1 : a1 < n := by omega
  have hb1' : b1 < n := by omega
  clear hB1 hb1
  go_wp2_with fail
  refine (order2_any HA1.out HB1.out hb1' hc).mono ?_
  rintro e w2 ⟨⟨b2, c2, rfl, h2⟩, hB2, hb2⟩
  have HA2 := Lib.hid (HA1.out.stays hne hb2)
  have HB2 := Lib.hid hB2
  have HU2 := Lib.hid (HU1.out.trans hb2 (fun k hk => .inl hk))
  have hb2' : b2 < n := by omega
  clear hB2 hb2
  go_wp2_with fail
  refine (order2_any HA2.out HB2.out ha1 hb2').mono ?_
  rintro e w3 ⟨⟨a3, b3, rfl, h3⟩, hB3, hb3⟩
  have HE : Hid (OneOf w cb (fun r => r = a ∨ r = b ∨ r = c) (.returned (.int .i64 (b3 : Int))) w3) := Lib.hid ⟨⟨b3, rfl, by omega⟩, hB3, HU2.out.trans hb3 (fun k hk => .inl hk)⟩
  clear hB3 hb3 h1 h2 h3
  go_wp2
  go_ret
  exact HE.out
set_option maxRecDepth 100000 in
set_option maxHeartbeats 2000000 in
theorem medAdj_any {w : World} {h off z cap n : Nat} {d : Array Nat} (hA : SwA w w h off z n d) {cb : Nat} (hne : cb ≠ h) (hB : Bx w cb) {a : Nat} (ha1 : 1 ≤ a) (ha : a + 1 < n) (hn : n ≤ 1000000000) :
    Calls Try.prog 62 #[.slice (some ⟨h, off, none⟩) n cap, .int .i64 (a : Int), .pointer (some ⟨cb, 0, none⟩)] w (OneOf w cb fun r => a - 1 ≤ r ∧ r ≤ a + 1) := by
  have H := median_any (cap := cap) hA hne hB (a := a - 1) (b := a) (c := a + 1) (by omega) (by omega) ha
  rw [show ((a - 1 : Nat) : Int) = (a : Int) - 1 from by omega, show ((a + 1 : Nat) : Int) = (a : Int) + 1 from by omega] at H
  have H := Lib.hid H
  have HP : Hid (∀ r, r = a - 1 ∨ r = a ∨ r = a + 1 → a - 1 ≤ r ∧ r ≤ a + 1) := Lib.hid (by omega)
  clear hA hB
  go_enter Try.func62, Try.ntmps62
  go_wp2_with fail
  refine H.out.mono ?_
  rintro e w1 ⟨⟨r, rfl, h1⟩, hB1, hb1⟩
  have HE : Hid (OneOf w cb (fun r => a - 1 ≤ r ∧ r ≤ a + 1) (.returned (.int .i64 (r : Int))) w1) := Lib.hid ⟨⟨r, rfl, HP.out r h1⟩, hB1, hb1⟩
  clear hB1 hb1 h1
  go_wp2
  go_ret
  exact HE.out
def PivEnd (w : World) (a b : Nat) (e : Ending) (w' : World) : Prop := (∃ (p : Nat) (t : Int), e = .returned (.tuple #[.int .i64 (p : Int), .int .i64 t]) ∧ a ≤ p ∧ p < b ∧ (t = 0 ∨ t = 1 ∨ t = 2)) ∧ Below w.heap.size w w'
theorem box_new (w : World) : Bx (w.alloc (.cells #[.int .i64 0] 3)) w.heap.size := ⟨0, Row.new w _ _⟩
theorem but_box {w0 w w' : World} {cb : Nat} (h : Below w0.heap.size w0 w) (hlo : w0.heap.size ≤ cb) (hb : But w w' (fun k => k = cb)) : Below w0.heap.size w0 w' :=
  h.trans (hb.below h.size (fun k hk => by rw [hk]; exact hlo))
end Go.Proofs.Ytgclbeagifoifaa
/- choosePivotOrdered. -/
namespace Go.Proofs.Ytgclbeagifoifaa
open Go.RowKit
set_option linter.unusedVariables false
set_option maxRecDepth 100000 in
set_option maxHeartbeats 4000000 in
theorem choosePiv_any {w : World} {h off z cap n : Nat} {d : Array Nat} (hA : SwA w w h off z n d) (hn : n ≤ 1000000000) {a L : Nat} (hL : 8 ≤ L) (hb : a + L ≤ n) :
    Calls Try.prog 51 #[.slice (some ⟨h, off, none⟩) n cap, .int .i64 (a : Int), .int .i64 ((a + L : Nat) : Int)] w (PivEnd w a (a + L)) := by
  have hh := hA.lt
  have HA0 := Lib.hid (hA.below (alloc_below w (.cells #[.int .i64 0] 3))).here
  have HB0 := Lib.hid (box_new w)
  have HU0 := Lib.hid (alloc_below w (.cells #[.int .i64 0] 3))
  have hne : w.heap.size ≠ h := by omega
  have hl : (((a + L : Nat) : Int)) - (a : Int) = (L : Int) := by omega
  have hl4 : (L : Int) / 4 = ((L / 4 : Nat) : Int) := by omega
  obtain ⟨q, hq⟩ : ∃ q, q = L / 4 := ⟨_, rfl⟩
  rw [← hq] at hl4
  have q1 : 4 * q ≤ L := by omega
  have q2 : L < 4 * q + 4 := by omega
  have HPE : Hid (∀ (p : Nat) (t : Int) (W : World), a ≤ p → p < a + L → (t = 0 ∨ t = 1 ∨ t = 2) → Below w.heap.size w W → PivEnd w a (a + L) (.returned (.tuple #[.int .i64 (p : Int), .int .i64 t])) W) := Lib.hid (fun p t W h1 h2 h3 h4 => ⟨⟨p, t, rfl, h1, h2, h3⟩, h4⟩)
  obtain ⟨B, hB⟩ : ∃ B, B = a + L := ⟨_, rfl⟩
  rw [← hB] at hl HPE ⊢
  have hLz : 8 ≤ (L : Int) := by omega
  have b1 : B ≤ a + L := by omega
  have b2 : a + L ≤ B := by omega
  clear hA hq hB
  by_cases h50 : 50 ≤ L
  · have h50z : decide (50 ≤ (L : Int)) = true := by simp; omega
    go_enter Try.func51, Try.ntmps51
    go_wp2_with fail
    have H1 := medAdj_any (cap := cap) HA0.out hne HB0.out (a := a + q * 1) (by omega) (by omega) hn
    rw [show ((a + q * 1 : Nat) : Int) = (a : Int) + (q : Int) from by omega] at H1
    with_reducible refine H1.mono ?_
    clear H1
    rintro e w1 ⟨⟨r1, rfl, h1⟩, hB1, hb1⟩
    have HA1 := Lib.hid (HA0.out.stays hne hb1)
    have HB1 := Lib.hid hB1
    have HU1 := Lib.hid (but_box HU0.out (Nat.le_refl _) hb1)
    clear hB1 hb1
    go_wp2_with fail
    have H2 := medAdj_any (cap := cap) HA1.out hne HB1.out (a := a + q * 2) (by omega) (by omega) hn
    rw [show ((a + q * 2 : Nat) : Int) = (a : Int) + (q : Int) * 2 from by omega] at H2
    with_reducible refine H2.mono ?_
    clear H2
    rintro e w2 ⟨⟨r2, rfl, h2⟩, hB2, hb2⟩
    have HA2 := Lib.hid (HA1.out.stays hne hb2)
    have HB2 := Lib.hid hB2
    have HU2 := Lib.hid (but_box HU1.out (Nat.le_refl _) hb2)
    clear hB2 hb2
    go_wp2_with fail
    have H3 := medAdj_any (cap := cap) HA2.out hne HB2.out (a := a + q * 3) (by omega) (by omega) hn
    rw [show ((a + q * 3 : Nat) : Int) = (a : Int) + (q : Int) * 3 from by omega] at H3
    with_reducible refine H3.mono ?_
    clear H3
    rintro e w3 ⟨⟨r3, rfl, h3⟩, hB3, hb3⟩
    have HA3 := Lib.hid (HA2.out.stays hne hb3)
    have HB3 := Lib.hid hB3
    have HU3 := Lib.hid (but_box HU2.out (Nat.le_refl _) hb3)
    clear hB3 hb3
    go_wp2_with fail
    refine (median_any (cap := cap) HA3.out hne HB3.out (a := r1) (b := r2) (c := r3) (by omega) (by omega) (by omega)).mono ?_
    rintro e w4 ⟨⟨r4, rfl, h4⟩, ⟨v, hv⟩, hb4⟩
    have hp1 : a ≤ r4 := by omega
    have hp2 : r4 < B := by omega
    have HU4 := Lib.hid (but_box HU3.out (Nat.le_refl _) hb4)
    have c0 := hv.cell 0
    simp only [List.getElem?_toArray, List.getElem?_cons_zero] at c0
    clear hv hb4 h1 h2 h3 h4
    by_cases v0 : v = 0
    · subst v0
      go_wp2
      go_ret2
      exact HPE.out _ _ _ hp1 hp2 (by omega) HU4.out
    · have v0b : (v == 0) = false := by simpa using v0
      by_cases v12 : v = 12
      · subst v12
        go_wp2
        go_ret2
        exact HPE.out _ _ _ hp1 hp2 (by omega) HU4.out
      · have v12b : (v == 12) = false := by simpa using v12
        go_wp2
        go_ret2
        exact HPE.out _ _ _ hp1 hp2 (by omega) HU4.out
  · have h50z : decide (50 ≤ (L : Int)) = false := by simp; omega
    go_enter Try.func51, Try.ntmps51
    go_wp2_with fail
    have H1 := median_any (cap := cap) HA0.out hne HB0.out (a := a + q * 1) (b := a + q * 2) (c := a + q * 3) (by omega) (by omega) (by omega)
    rw [show ((a + q * 1 : Nat) : Int) = (a : Int) + (q : Int) from by omega, show ((a + q * 2 : Nat) : Int) = (a : Int) + (q : Int) * 2 from by omega, show ((a + q * 3 : Nat) : Int) = (a : Int) + (q : Int) * 3 from by omega] at H1
    with_reducible refine H1.mono ?_
    clear H1
    rintro e w4 ⟨⟨r4, rfl, h4⟩, ⟨v, hv⟩, hb4⟩
    have hp1 : a ≤ r4 := by omega
    have hp2 : r4 < B := by omega
    have HU4 := Lib.hid (but_box HU0.out (Nat.le_refl _) hb4)
    have c0 := hv.cell 0
    simp only [List.getElem?_toArray, List.getElem?_cons_zero] at c0
    clear hv hb4 h4
    by_cases v0 : v = 0
    · subst v0
      go_wp2
      go_ret2
      exact HPE.out _ _ _ hp1 hp2 (by omega) HU4.out
    · have v0b : (v == 0) = false := by simpa using v0
      by_cases v12 : v = 12
      · subst v12
        go_wp2
        go_ret2
        exact HPE.out _ _ _ hp1 hp2 (by omega) HU4.out
      · have v12b : (v == 12) = false := by simpa using v12
        go_wp2
        go_ret2
        exact HPE.out _ _ _ hp1 hp2 (by omega) HU4.out
end Go.Proofs.Ytgclbeagifoifaa
/- heapSortOrdered: it computes what the library's plain function says. -/
namespace Go.Proofs.Ytgclbeagifoifaa
open Go.RowKit
set_option linter.unusedVariables false
def HbInv (w0 : World) (h off z n H a : Nat) (r : Array Nat) (k : Nat) (s9 : Value) (wr : World) : Prop := ∃ d : Array Nat, s9 = .int .i64 ((k : Int) - 1) ∧ k ≤ (H - 1) / 2 + 1 ∧ SwA w0 wr h off z n d ∧ Sort.heapBuild ltN H a k d = r
def HpInv (w0 : World) (h off z n H a : Nat) (r : Array Nat) (k : Nat) (s10 : Value) (wr : World) : Prop := ∃ d : Array Nat, s10 = .int .i64 ((k : Int) - 1) ∧ k ≤ H ∧ SwA w0 wr h off z n d ∧ Sort.heapPop ltN a k d = r
set_option maxRecDepth 100000 in
set_option maxHeartbeats 4000000 in
theorem heapSort_any {w : World} {h off z cap n : Nat} {d : Array Nat} (hA : SwA w w h off z n d) (hn : n ≤ 1000000000) {a b : Nat} (hab : a < b) (hb : b ≤ n) :
    Calls Try.prog 49 #[.slice (some ⟨h, off, none⟩) n cap, .int .i64 (a : Int), .int .i64 (b : Int)] w (SortEnd w h off z n (Sort.heapSort ltN d a b)) := by
  obtain ⟨H, hH⟩ : ∃ H, H = b - a := ⟨_, rfl⟩
  have hl : (b : Int) - (a : Int) = (H : Int) := by omega
  have hH1 : 1 ≤ H := by omega
  have haH : a + H ≤ n := by omega
  obtain ⟨r1, hr1⟩ : ∃ r1, r1 = Sort.heapBuild ltN H a ((H - 1) / 2 + 1) d := ⟨_, rfl⟩
  obtain ⟨r, hd⟩ : ∃ r, r = Sort.heapSort ltN d a b := ⟨_, rfl⟩
  have HD : Hid (Sort.heapPop ltN a H r1 = r) := Lib.hid (by rw [hd, hr1, hH]; rfl)
  rw [← hd]
  have HR1 := Lib.hid hr1
  have H0 := Lib.hid hA
  have hq : ((H : Int) - 1) / 2 = (((H - 1) / 2 + 1 : Nat) : Int) - 1 := by omega
  have HQ := Lib.hid hq
  clear hA hd hr1 hH hq
  go_enter Try.func49, Try.ntmps49
  go_wp2
  go_loopg [9] ((H - 1) / 2 + 1) (fun k s9 wr => HbInv w h off z n H a r1 k s9 wr)
  case atStart => exact ⟨d, by rw [HQ.out], Nat.le_refl _, H0.out, HR1.out.symm⟩
  case round =>
    obtain ⟨dk, hs, hk, hS, hU⟩ := hrel
    have HS := Lib.hid hS
    have HU := Lib.hid hU
    clear hS hU
    cases gk with
    | zero =>
      rw [show ((0 : Nat) : Int) - 1 = -1 from rfl] at hs
      subst hs
      have HU0 : Hid (dk = r1) := Lib.hid HU.out
      go_wp2
      go_loopg [10] H (fun k s10 wr2 => HpInv w h off z n H a r k s10 wr2)
      case atStart => exact ⟨dk, rfl, Nat.le_refl _, HS.out, by rw [HU0.out]; exact HD.out⟩
      case round =>
        obtain ⟨dj, hs2, hk2, hS2, hU2⟩ := hrel
        have HS2 := Lib.hid hS2
        have HU2 := Lib.hid hU2
        clear hS2 hU2
        cases gk with
        | zero =>
          rw [show ((0 : Nat) : Int) - 1 = -1 from rfl] at hs2
          subst hs2
          have HE := Lib.hid (show SortEnd w h off z n r (.returned (.tuple #[])) wr from ⟨rfl, by rw [← HU2.out]; exact HS2.out⟩)
          go_wp2
          go_end0
          exact HE.out
        | succ j =>
          rw [show ((j + 1 : Nat) : Int) - 1 = (j : Int) from by omega] at hs2
          subst hs2
          have han : a < n := by omega
          have hjn : a + j < n := by omega
          have ca := HS2.out.cell han
          have cj := HS2.out.cell hjn
          have fa := HS2.out.free a
          have fj := HS2.out.free (a + j)
          have HSW : Hid (∀ W, (∃ q, W = (((wr.setCell ⟨h, off + a, none⟩ (.int .u64 (dj[a + j]! : Int))).setCell ⟨h, off + (a + j), none⟩ (.int .u64 (dj[a]! : Int))).drewN q)) → SwA w W h off z n (Sort.swp dj a (a + j))) := Lib.hid (fun W hW => HS2.out.swp2 han hjn hW)
          generalize dj[a]! = x at *
          generalize dj[a + j]! = y at *
          obtain ⟨v', hy'⟩ := cell?_setCell_some (w := wr) (p := ⟨h, off + a, none⟩) (x := .int .u64 (y : Int)) (q := ⟨h, off + (a + j), none⟩) cj
          go_wp2
          go_region
          go_wp2_with fail
          have HS3 := Lib.hid (HSW.out _ ⟨1, rfl⟩)
          have HSI := sift_any (cap := cap) HS3.out.here hn (lo := 0) (hi := j) (first := a) (by omega) (by omega)
          rw [show ((0 : Nat) : Int) = 0 from rfl] at HSI
          refine HSI.mono ?_
          rintro e w1 ⟨rfl, hE⟩
          have HE := Lib.hid (HS3.out.then hE)
          clear hE HSI
          go_wp2
          go_roundg j
          case measure => omega
          case rel => exact ⟨_, rfl, by omega, HE.out, HU2.out⟩
    | succ j =>
      rw [show ((j + 1 : Nat) : Int) - 1 = (j : Int) from by omega] at hs
      subst hs
      have HSI := Lib.hid (sift_any (cap := cap) HS.out.here hn (lo := j) (hi := H) (first := a) (by omega) haH)
      go_wp2_with fail
      refine HSI.out.mono ?_
      rintro e w1 ⟨rfl, hE⟩
      have HE := Lib.hid (HS.out.then hE)
      clear hE
      go_wp2
      go_roundg j
      case measure => omega
      case rel => exact ⟨_, rfl, by omega, HE.out, HU.out⟩
end Go.Proofs.Ytgclbeagifoifaa
