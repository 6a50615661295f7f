/- Texts of this claim, packed: SrtA, SrtB, SrtC, SrtD, SrtE. -/
import Derived.Test.YtedefebdfcgjeaaGreatDoorPk07
import Derived.Sort.AssemblyPlain
import Derived.Deep.RegionWith
import Derived.Deep.LoopGhost
import Derived.BigQuiet
import Derived.Deep.QuietTactic
import Derived.CellFam
import Derived.BigCall
import Derived.BigGuard
import Derived.BigRegion
import Derived.IntWalk
/- A slice of words in the midst of a sort: what it reads as, and that nothing else turns; cmp.Less, insertionSortOrdered; of at most 10^9 elements. -/
namespace Go.Proofs.YtedefebdfcgjeaaGreatDoor
open Go.RowKit
set_option linter.unusedVariables false
def ltN (x y : Nat) : Bool := decide (x < y)
theorem swo_ltN : Sort.SWO ltN := ⟨fun x => by simp [ltN], fun x y z h1 h2 => by simp only [ltN, decide_eq_true_eq] at *; omega, fun x y z h1 h2 => by simp only [ltN, decide_eq_false_iff_not] at *; omega⟩
theorem insI_go {a j : Nat} {d : Array Nat} (hj : a < j) (hl : d[j]! < d[j - 1]!) : Sort.insInner ltN a j d = Sort.insInner ltN a (j - 1) (Sort.swp d j (j - 1)) := by
  obtain ⟨k, rfl⟩ : ∃ k, j = k + 1 := ⟨j - 1, by omega⟩
  rw [Sort.insInner, if_pos]
  · rfl
  · simp only [Nat.add_sub_cancel] at hl
    simp [ltN, hj, hl]
theorem insI_stop {a j : Nat} {d : Array Nat} (h : j ≤ a ∨ ¬ d[j]! < d[j - 1]!) : Sort.insInner ltN a j d = d := by
  cases j with
  | zero => rfl
  | succ k =>
    rw [Sort.insInner, if_neg]
    simp only [Nat.add_sub_cancel] at h
    rcases h with h | h
    · simp; omega
    · simp [ltN, h]
theorem insO_go {a b i : Nat} {d : Array Nat} (h : i < b) : Sort.insOuter ltN a b i d = Sort.insOuter ltN a b (i + 1) (Sort.insInner ltN a i d) := by rw [Sort.insOuter, if_pos h]
theorem insO_stop {a b i : Nat} {d : Array Nat} (h : ¬ i < b) : Sort.insOuter ltN a b i d = d := by rw [Sort.insOuter, if_neg h]

/-- Draws alone. -/
def Drw (w w' : World) : Prop := ∃ q, w' = w.drewN q
theorem Drw.below {w w' : World} (h : Drw w w') : Below w.heap.size w w' := by
  obtain ⟨q, rfl⟩ := h
  exact drewN_below w q
/-- The block h is of z words; those from off on read as the array d, of n elements; nothing else has turned. -/
def SwA (w0 w : World) (h off z n : Nat) (d : Array Nat) : Prop :=
  (∃ cur, Row w h 40 cur ∧ cur.size = z ∧ off + n ≤ z ∧ ∀ i, i < n → cur[off + i]? = some (.int .u64 (d[i]! : Int))) ∧ d.size = n ∧ But w0 w (fun k => k = h)
theorem SwA.drew {w0 w w' : World} {h off z n : Nat} {d : Array Nat} (s : SwA w0 w h off z n d) (hb : Drw w w') : SwA w0 w' h off z n d := by
  obtain ⟨⟨cur, hr, h1⟩, h2, h3⟩ := s
  exact ⟨⟨cur, hr.below hb.below hr.lt, h1⟩, h2, h3.trans (But.of_below hb.below (fun k => k = h)) (fun k hk => .inl hk)⟩
theorem SwA.below {w0 w w' : World} {h off z n : Nat} {d : Array Nat} (s : SwA w0 w h off z n d) (hb : Below w.heap.size w w') : SwA w0 w' h off z n d := by
  obtain ⟨⟨cur, hr, h1⟩, h2, h3⟩ := s
  exact ⟨⟨cur, hr.below hb hr.lt, h1⟩, h2, h3.trans (But.of_below hb (fun k => k = h)) (fun k hk => .inl hk)⟩
theorem SwA.lt {w0 w : World} {h off z n : Nat} {d : Array Nat} (s : SwA w0 w h off z n d) : h < w.heap.size := by
  obtain ⟨⟨cur, hr, h1⟩, h2, h3⟩ := s
  exact hr.lt
/-- As it stands, from here on. -/
theorem SwA.here {w0 w : World} {h off z n : Nat} {d : Array Nat} (s : SwA w0 w h off z n d) : SwA w w h off z n d := ⟨s.1, s.2.1, But.refl _ _⟩
theorem SwA.then {w0 w w' : World} {h off z n : Nat} {d d' : Array Nat} (s : SwA w0 w h off z n d) (s' : SwA w w' h off z n d') : SwA w0 w' h off z n d' :=
  ⟨s'.1, s'.2.1, s.2.2.trans s'.2.2 (fun k hk => .inl hk)⟩
theorem SwA.cell {w0 w : World} {h off z n : Nat} {d : Array Nat} (s : SwA w0 w h off z n d) {i : Nat} (hi : i < n) : w.cell? ⟨h, off + i, none⟩ = some (.int .u64 (d[i]! : Int)) := by
  obtain ⟨⟨cur, hr, h1, h2, h3⟩, _⟩ := s
  rw [hr.cell]
  exact h3 i hi
theorem SwA.free {w0 w : World} {h off z n : Nat} {d : Array Nat} (s : SwA w0 w h off z n d) (i : Nat) : w.frozen? ⟨h, off + i, none⟩ = false := by
  obtain ⟨⟨cur, hr, h1⟩, _⟩ := s
  exact hr.free _
theorem SwA.set {w0 w : World} {h off z n : Nat} {d : Array Nat} (s : SwA w0 w h off z n d) {i : Nat} (hi : i < n) (x : Nat) : SwA w0 (w.setCell ⟨h, off + i, none⟩ (.int .u64 (x : Int))) h off z n (d.setIfInBounds i x) := by
  obtain ⟨⟨cur, hr, h1, h2, h3⟩, hn, hb⟩ := s
  refine ⟨⟨_, hr.set _ _, by simpa using h1, h2, ?_⟩, by simpa using hn, hb.set rfl _⟩
  intro j hj
  rw [Array.getElem?_setIfInBounds]
  by_cases e : off + i = off + j
  · obtain rfl : i = j := by omega
    rw [if_pos rfl, if_pos (by omega)]
    rw [getElem!_pos _ _ (by simpa using (show i < d.size by omega))]
    simp
  · have e' : i ≠ j := fun h => e (by rw [h])
    rw [if_neg e, h3 j hj]
    congr 3
    rw [getElem!_pos d j (by omega), getElem!_pos (d.setIfInBounds i x) j (by simpa using (show j < d.size by omega)), Array.getElem_setIfInBounds_ne (by omega) e']
theorem SwA.swp2 {w0 w w' : World} {h off z n : Nat} {d : Array Nat} (s : SwA w0 w h off z n d) {i j : Nat} (hi : i < n) (hj : j < n) (hw : ∃ q, w' = (((w.setCell ⟨h, off + i, none⟩ (.int .u64 (d[j]! : Int))).setCell ⟨h, off + j, none⟩ (.int .u64 (d[i]! : Int))).drewN q)) : SwA w0 w' h off z n (Sort.swp d i j) := by
  obtain ⟨q, rfl⟩ := hw
  exact ((s.set hi _).set hj _).drew ⟨q, rfl⟩
theorem cmpLess_any (x y : Nat) (w : World) : Calls Tryz.prog 108 #[.int .u64 (x : Int), .int .u64 (y : Int)] w fun e w' => e = .returned (.bool (decide (x < y))) ∧ w' = w := by
  go_enter Tryz.func108, Tryz.ntmps108
  go_wp2
  go_ret
  exact ⟨rfl, rfl⟩
def SortEnd (w0 : World) (h off z n : Nat) (d : Array Nat) (e : Ending) (w' : World) : Prop := e = .returned (.tuple #[]) ∧ SwA w0 w' h off z n d
def InsO (w0 : World) (h off z n a b : Nat) (r : Array Nat) (v : Value) (wr : World) : Prop := ∃ (i : Nat) (d : Array Nat), v = .int .i64 (i : Int) ∧ i ≤ b + 1 ∧ a < i ∧ SwA w0 wr h off z n d ∧ Sort.insOuter ltN a b i d = r
def InsI (w0 : World) (h off z n a i : Nat) (r : Array Nat) (v : Value) (wr : World) : Prop := ∃ (j : Nat) (d : Array Nat), v = .int .i64 (j : Int) ∧ a ≤ j ∧ j ≤ i ∧ SwA w0 wr h off z n d ∧ Sort.insInner ltN a j d = r
set_option maxRecDepth 100000 in
set_option maxHeartbeats 4000000 in
theorem insSort_any {w : World} {h off z cap n : Nat} {d : Array Nat} (hA : SwA w w h off z n d) (hl : n ≤ 1000000001) {a b : Nat} (hab : a ≤ b) (hb : b ≤ n) :
    Calls Tryz.prog 102 #[.slice (some ⟨h, off, none⟩) n cap, .int .i64 (a : Int), .int .i64 (b : Int)] w (SortEnd w h off z n (Sort.insertionSort ltN d a b)) := by
  have H0 := Lib.hid hA
  clear hA
  obtain ⟨r, hd⟩ : ∃ r, r = Sort.insertionSort ltN d a b := ⟨_, rfl⟩
  rw [← hd]
  have HD := Lib.hid hd
  clear hd
  go_enter Tryz.func102, Tryz.ntmps102
  go_wp2
  go_loopw [6] (fun v wr => InsO w h off z n a b r v wr) (fun v _ => b + 1 - (intOf v).toNat)
  case atStart => exact ⟨a + 1, d, by go_num, by omega, by omega, H0.out, HD.out.symm⟩
  case round =>
    obtain ⟨i, d1, rfl, hib, hai, hS, hU⟩ := hrel
    rename World => wr
    by_cases h1 : i < b
    · have HU := Lib.hid hU
      have HS := Lib.hid hS
      clear hU hS
      obtain ⟨r1, hr1⟩ : ∃ r1, r1 = Sort.insInner ltN a i d1 := ⟨_, rfl⟩
      have HR1 := Lib.hid hr1
      clear hr1
      go_wp2
      go_loopw [7] (fun v wr2 => InsI w h off z n a i r1 v wr2) (fun v _ => (intOf v).toNat)
      case atStart => exact ⟨i, d1, rfl, by omega, by omega, HS.out, HR1.out.symm⟩
      case round =>
        obtain ⟨j, d2, rfl, haj, hji, hS2, hU2⟩ := hrel
        rename World => wr2
        have hjn : j < n := by omega
        have hOut : ∀ W, SwA w W h off z n d2 → Sort.insInner ltN a j d2 = d2 → InsO w h off z n a b r (.int .i64 ((i : Int) + 1)) W := by
          intro W hW e
          refine ⟨i + 1, d2, by go_num, by omega, by omega, hW, ?_⟩
          rw [← HU.out, insO_go h1, ← HR1.out, ← hU2, e]
        have HO := Lib.hid hOut
        have HS2 := Lib.hid hS2
        have HU2 := Lib.hid hU2
        clear hOut hU2
        by_cases haj' : a < j
        · have hg : decide ((a : Int) < (j : Int)) = true := by simpa using haj'
          have cj := hS2.cell (i := j) hjn
          have ck := hS2.cell (i := j - 1) (by omega)
          have fj := hS2.free j
          have fk := hS2.free (j - 1)
          have hk : (j : Int) - 1 = ((j - 1 : Nat) : Int) := by omega
          have hSW : ∀ q, SwA w (((wr2.drewN q).setCell ⟨h, off + j, none⟩ (.int .u64 (d2[j - 1]! : Int))).setCell ⟨h, off + (j - 1), none⟩ (.int .u64 (d2[j]! : Int))) h off z n (Sort.swp d2 j (j - 1)) := fun q => SwA.swp2 (HS2.out.drew ⟨q, rfl⟩) hjn (by omega) ⟨0, rfl⟩
          have HSW := Lib.hid hSW
          have HK := Lib.hid hk
          clear hS2 hSW hk
          by_cases hc : d2[j]! < d2[j - 1]!
          · have HR := Lib.hid (insI_go haj' hc)
            have hcc : decide (d2[j]! < d2[j - 1]!) = true := decide_eq_true hc
            clear hc
            generalize d2[j]! = x at *
            generalize d2[j - 1]! = y at *
            obtain ⟨v', hy'⟩ := cell?_setCell_some (w := wr2) (p := ⟨h, off + j, none⟩) (x := .int .u64 y) (q := ⟨h, off + (j - 1), none⟩) ck
            go_wp2
            go_quiet ((go_at_call 108; exact Calls.quiet_of_same (cmpLess_any _ _ _)))
            go_wp2
            go_region
            all_goals (try go_wp2)
            all_goals go_roundw
            case rel => exact ⟨j - 1, _, by rw [HK.out], by omega, by omega, HSW.out _, by rw [← HR.out, HU2.out]⟩
            case measure => simp [intOf]; omega
          · have hcc : decide (d2[j]! < d2[j - 1]!) = false := decide_eq_false hc
            have HR := Lib.hid (insI_stop (a := a) (Or.inr hc))
            clear hc
            generalize d2[j]! = x at *
            generalize d2[j - 1]! = y at *
            go_wp2
            go_quiet ((go_at_call 108; exact Calls.quiet_of_same (cmpLess_any _ _ _)))
            have HF := Lib.hid (HO.out _ (HS2.out.drew ⟨nq, rfl⟩) HR.out)
            go_wp2
            go_roundw
            case rel => exact HF.out
            case measure => simp [intOf]; omega
        · have hg : decide ((a : Int) < (j : Int)) = false := by simpa using haj'
          have HR := Lib.hid (insI_stop (a := a) (d := d2) (Or.inl (show j ≤ a by omega)))
          clear hS2
          go_wp2
          go_quiet (fail)
          have HF := Lib.hid (HO.out _ (HS2.out.drew ⟨nq, rfl⟩) HR.out)
          go_wp2
          go_roundw
          case rel => exact HF.out
          case measure => simp [intOf]; omega
    · have HE := Lib.hid (show SortEnd w h off z n r (.returned (.tuple #[])) wr from ⟨rfl, by rw [← hU, insO_stop h1]; exact hS⟩)
      clear hU hS
      go_wp2
      go_end0
      exact HE.out
set_option maxRecDepth 100000 in
set_option maxHeartbeats 1000000 in
theorem insSort_none {w : World} {ad : Option Addr} {cap : Nat} :
    Calls Tryz.prog 102 #[.slice ad 0 cap, .int .i64 0, .int .i64 0] w fun e w' => e = .returned (.tuple #[]) ∧ w = w' := by
  go_enter Tryz.func102, Tryz.ntmps102
  go_wp2
  go_loop [6] (fun v => v = .int .i64 1) (fun _ => 0)
  case atStart => rfl
  case round =>
    subst hrel
    go_wp2
    go_end0
    exact ⟨rfl, rfl⟩
end Go.Proofs.YtedefebdfcgjeaaGreatDoor
/- order2Ordered, medianOrdered, medianAdjacentOrdered, choosePivotOrdered: they turn nothing but a counter of their own, and hand back places that they were given. -/
namespace Go.Proofs.YtedefebdfcgjeaaGreatDoor
open Go.RowKit
set_option linter.unusedVariables false
/-- The counter of exchanges, whatever it says. -/
def Bx (w : World) (cb : Nat) : Prop := ∃ v : Int, Row w cb 3 #[.int .i64 v]
def Ord2 (w : World) (cb a b : Nat) (e : Ending) (w' : World) : Prop := (∃ x y : Nat, e = .returned (.tuple #[.int .i64 (x : Int), .int .i64 (y : Int)]) ∧ (x = a ∧ y = b ∨ x = b ∧ y = a)) ∧ Bx w' cb ∧ But w w' (fun k => k = cb)
theorem Bx.of_drw {w w' : World} {cb : Nat} (h : Bx w cb) (hb : Drw w w') : Bx w' cb := by
  obtain ⟨v, h⟩ := h
  exact ⟨v, h.below hb.below h.lt⟩
theorem Bx.lt {w : World} {cb : Nat} (h : Bx w cb) : cb < w.heap.size := by
  obtain ⟨v, h⟩ := h
  exact h.lt
/-- A box turns; the slice stays. -/
theorem SwA.box {w0 w w' : World} {h off z n : Nat} {d : Array Nat} (s : SwA w0 w h off z n d) {cb : Nat} (hne : cb ≠ h) (hlo : w0.heap.size ≤ cb) (hb : But w w' (fun k => k = cb)) : SwA w0 w' h off z n d := by
  obtain ⟨⟨cur, hr, h1⟩, h2, h3⟩ := s
  exact ⟨⟨cur, hb.row hr (fun e => hne e.symm), h1⟩, h2, h3.trans hb (fun k hk => .inr (by rw [hk]; exact hlo))⟩
theorem SwA.stays {w w' : World} {h off z n : Nat} {d : Array Nat} (s : SwA w w h off z n d) {cb : Nat} (hne : cb ≠ h) (hb : But w w' (fun k => k = cb)) : SwA w' w' h off z n d := by
  obtain ⟨⟨cur, hr, h1⟩, h2, h3⟩ := s
  exact ⟨⟨cur, hb.row hr (fun e => hne e.symm), h1⟩, h2, But.refl _ _⟩
set_option maxRecDepth 100000 in
set_option maxHeartbeats 2000000 in
theorem order2_any {w : World} {h off z cap n : Nat} {d : Array Nat} (hA : SwA w w h off z n d) {cb : Nat} (hB : Bx w cb) {a b : Nat} (ha : a < n) (hb : b < n) :
    Calls Tryz.prog 129 #[.slice (some ⟨h, off, none⟩) n cap, .int .i64 (a : Int), .int .i64 (b : Int), .pointer (some ⟨cb, 0, none⟩)] w (Ord2 w cb a b) := by
  obtain ⟨v, hr⟩ := hB
  have c0 := hr.cell 0
  have f0 := hr.free 0
  simp only [List.getElem?_toArray, List.getElem?_cons_zero] at c0
  have ca := hA.cell ha
  have cb' := hA.cell hb
  have HR := Lib.hid hr
  clear hr hA
  by_cases hc : d[b]! < d[a]!
  · have hcc : decide (d[b]! < d[a]!) = true := decide_eq_true hc
    generalize d[a]! = x at *
    generalize d[b]! = y at *
    have HE : Hid (∀ q (u : Int), Ord2 w cb a b (.returned (.tuple #[.int .i64 (b : Int), .int .i64 (a : Int)])) ((w.drewN q).setCell ⟨cb, 0, none⟩ (.int .i64 u))) := Lib.hid (fun q u => ⟨⟨b, a, rfl, .inr ⟨rfl, rfl⟩⟩, ⟨u, (HR.out.below (drewN_below w q) HR.out.lt).set 0 _⟩, But.set (fp := fun k => k = cb) (But.of_below (drewN_below w q) _) (p := ⟨cb, 0, none⟩) rfl _⟩)
    go_enter Tryz.func129, Tryz.ntmps129
    go_wp2
    go_quiet ((go_at_call 108; exact Calls.quiet_of_same (cmpLess_any _ _ _)))
    go_wp2
    go_ret2
    exact HE.out _ _
  · have hcc : decide (d[b]! < d[a]!) = false := decide_eq_false hc
    generalize d[a]! = x at *
    generalize d[b]! = y at *
    have HE : Hid (∀ q, Ord2 w cb a b (.returned (.tuple #[.int .i64 (a : Int), .int .i64 (b : Int)])) (w.drewN q)) := Lib.hid (fun q => ⟨⟨a, b, rfl, .inl ⟨rfl, rfl⟩⟩, ⟨v, HR.out.below (drewN_below w q) HR.out.lt⟩, But.of_below (drewN_below w q) _⟩)
    go_enter Tryz.func129, Tryz.ntmps129
    go_wp2
    go_quiet ((go_at_call 108; exact Calls.quiet_of_same (cmpLess_any _ _ _)))
    go_wp2
    go_ret2
    exact HE.out _
def OneOf (w : World) (cb : Nat) (P : Nat → Prop) (e : Ending) (w' : World) : Prop := (∃ r : Nat, e = .returned (.int .i64 (r : Int)) ∧ P r) ∧ Bx w' cb ∧ But w w' (fun k => k = cb)
set_option maxRecDepth 100000 in
set_option maxHeartbeats 2000000 in
theorem median_any {w : World} {h off z cap n : Nat} {d : Array Nat} (hA : SwA w w h off z n d) {cb : Nat} (hne : cb ≠ h) (hB : Bx w cb) {a b c : Nat} (ha : a < n) (hb : b < n) (hc : c < n) :
    Calls Tryz.prog 122 #[.slice (some ⟨h, off, none⟩) n cap, .int .i64 (a : Int), .int .i64 (b : Int), .int .i64 (c : Int), .pointer (some ⟨cb, 0, none⟩)] w (OneOf w cb fun r => r = a ∨ r = b ∨ r = c) := by
  have HA := Lib.hid hA
  have HB := Lib.hid hB
  clear hA hB
  go_enter Tryz.func122, Tryz.ntmps122
  go_wp2_with fail
  refine (order2_any HA.out HB.out ha hb).mono ?_
  rintro e w1 ⟨⟨a1, b1, rfl, h1⟩, hB1, hb1⟩
  have HA1 := Lib.hid (HA.out.stays hne hb1)
  have HB1 := Lib.hid hB1
  have HU1 := Lib.hid hb1
  have ha1 : a1 < n := by omega
  have hb1' : b1 < n := by omega
  clear hB1 hb1
  go_wp2_with fail
  refine (order2_any HA1.out HB1.out hb1' hc).mono ?_
  rintro e w2 ⟨⟨b2, c2, rfl, h2⟩, hB2, hb2⟩
  have HA2 := Lib.hid (HA1.out.stays hne hb2)
  have HB2 := Lib.hid hB2
  have HU2 := Lib.hid (HU1.out.trans hb2 (fun k hk => .inl hk))
  have hb2' : b2 < n := by omega
  clear hB2 hb2
  go_wp2_with fail
  refine (order2_any HA2.out HB2.out ha1 hb2').mono ?_
  rintro e w3 ⟨⟨a3, b3, rfl, h3⟩, hB3, hb3⟩
  have HE : Hid (OneOf w cb (fun r => r = a ∨ r = b ∨ r = c) (.returned (.int .i64 (b3 : Int))) w3) := Lib.hid ⟨⟨b3, rfl, by omega⟩, hB3, HU2.out.trans hb3 (fun k hk => .inl hk)⟩
  clear hB3 hb3 h1 h2 h3
  go_wp2
  go_ret
  exact HE.out
set_option maxRecDepth 100000 in
set_option maxHeartbeats 2000000 in
theorem medAdj_any {w : World} {h off z cap n : Nat} {d : Array Nat} (hA : SwA w w h off z n d) {cb : Nat} (hne : cb ≠ h) (hB : Bx w cb) {a : Nat} (ha1 : 1 ≤ a) (ha : a + 1 < n) (hn : n ≤ 1000000000) :
    Calls Tryz.prog 121 #[.slice (some ⟨h, off, none⟩) n cap, .int .i64 (a : Int), .pointer (some ⟨cb, 0, none⟩)] w (OneOf w cb fun r => a - 1 ≤ r ∧ r ≤ a + 1) := by
  have H := median_any (cap := cap) hA hne hB (a := a - 1) (b := a) (c := a + 1) (by omega) (by omega) ha
  rw [show ((a - 1 : Nat) : Int) = (a : Int) - 1 from by omega, show ((a + 1 : Nat) : Int) = (a : Int) + 1 from by omega] at H
  have H := Lib.hid H
  have HP : Hid (∀ r, r = a - 1 ∨ r = a ∨ r = a + 1 → a - 1 ≤ r ∧ r ≤ a + 1) := Lib.hid (by omega)
  clear hA hB
  go_enter Tryz.func121, Tryz.ntmps121
  go_wp2_with fail
  refine H.out.mono ?_
  rintro e w1 ⟨⟨r, rfl, h1⟩, hB1, hb1⟩
  have HE : Hid (OneOf w cb (fun r => a - 1 ≤ r ∧ r ≤ a + 1) (.returned (.int .i64 (r : Int))) w1) := Lib.hid ⟨⟨r, rfl, HP.out r h1⟩, hB1, hb1⟩
  clear hB1 hb1 h1
  go_wp2
  go_ret
  exact HE.out
def PivEnd (w : World) (a b : Nat) (e : Ending) (w' : World) : Prop := (∃ (p : Nat) (t : Int), e = .returned (.tuple #[.int .i64 (p : Int), .int .i64 t]) ∧ a ≤ p ∧ p < b ∧ (t = 0 ∨ t = 1 ∨ t = 2)) ∧ Below w.heap.size w w'
theorem box_new (w : World) : Bx (w.alloc (.cells #[.int .i64 0] 3)) w.heap.size := ⟨0, Row.new w _ _⟩
theorem but_box {w0 w w' : World} {cb : Nat} (h : Below w0.heap.size w0 w) (hlo : w0.heap.size ≤ cb) (hb : But w w' (fun k => k = cb)) : Below w0.heap.size w0 w' :=
  h.trans (hb.below h.size (fun k hk => by rw [hk]; exact hlo))
end Go.Proofs.YtedefebdfcgjeaaGreatDoor
/- choosePivotOrdered. -/
namespace Go.Proofs.YtedefebdfcgjeaaGreatDoor
open Go.RowKit
set_option linter.unusedVariables false
set_option maxRecDepth 100000 in
set_option maxHeartbeats 4000000 in
theorem choosePiv_any {w : World} {h off z cap n : Nat} {d : Array Nat} (hA : SwA w w h off z n d) (hn : n ≤ 1000000000) {a L : Nat} (hL : 8 ≤ L) (hb : a + L ≤ n) :
    Calls Tryz.prog 105 #[.slice (some ⟨h, off, none⟩) n cap, .int .i64 (a : Int), .int .i64 ((a + L : Nat) : Int)] w (PivEnd w a (a + L)) := by
  have hh := hA.lt
  have HA0 := Lib.hid (hA.below (alloc_below w (.cells #[.int .i64 0] 3))).here
  have HB0 := Lib.hid (box_new w)
  have HU0 := Lib.hid (alloc_below w (.cells #[.int .i64 0] 3))
  have hne : w.heap.size ≠ h := by omega
  have hl : (((a + L : Nat) : Int)) - (a : Int) = (L : Int) := by omega
  have hl4 : (L : Int) / 4 = ((L / 4 : Nat) : Int) := by omega
  obtain ⟨q, hq⟩ : ∃ q, q = L / 4 := ⟨_, rfl⟩
  rw [← hq] at hl4
  have q1 : 4 * q ≤ L := by omega
  have q2 : L < 4 * q + 4 := by omega
  have HPE : Hid (∀ (p : Nat) (t : Int) (W : World), a ≤ p → p < a + L → (t = 0 ∨ t = 1 ∨ t = 2) → Below w.heap.size w W → PivEnd w a (a + L) (.returned (.tuple #[.int .i64 (p : Int), .int .i64 t])) W) := Lib.hid (fun p t W h1 h2 h3 h4 => ⟨⟨p, t, rfl, h1, h2, h3⟩, h4⟩)
  obtain ⟨B, hB⟩ : ∃ B, B = a + L := ⟨_, rfl⟩
  rw [← hB] at hl HPE ⊢
  have hLz : 8 ≤ (L : Int) := by omega
  have b1 : B ≤ a + L := by omega
  have b2 : a + L ≤ B := by omega
  clear hA hq hB
  by_cases h50 : 50 ≤ L
  · have h50z : decide (50 ≤ (L : Int)) = true := by simp; omega
    go_enter Tryz.func105, Tryz.ntmps105
    go_wp2_with fail
    have H1 := medAdj_any (cap := cap) HA0.out hne HB0.out (a := a + q * 1) (by omega) (by omega) hn
    rw [show ((a + q * 1 : Nat) : Int) = (a : Int) + (q : Int) from by omega] at H1
    with_reducible refine H1.mono ?_
    clear H1
    rintro e w1 ⟨⟨r1, rfl, h1⟩, hB1, hb1⟩
    have HA1 := Lib.hid (HA0.out.stays hne hb1)
    have HB1 := Lib.hid hB1
    have HU1 := Lib.hid (but_box HU0.out (Nat.le_refl _) hb1)
    clear hB1 hb1
    go_wp2_with fail
    have H2 := medAdj_any (cap := cap) HA1.out hne HB1.out (a := a + q * 2) (by omega) (by omega) hn
    rw [show ((a + q * 2 : Nat) : Int) = (a : Int) + (q : Int) * 2 from by omega] at H2
    with_reducible refine H2.mono ?_
    clear H2
    rintro e w2 ⟨⟨r2, rfl, h2⟩, hB2, hb2⟩
    have HA2 := Lib.hid (HA1.out.stays hne hb2)
    have HB2 := Lib.hid hB2
    have HU2 := Lib.hid (but_box HU1.out (Nat.le_refl _) hb2)
    clear hB2 hb2
    go_wp2_with fail
    have H3 := medAdj_any (cap := cap) HA2.out hne HB2.out (a := a + q * 3) (by omega) (by omega) hn
    rw [show ((a + q * 3 : Nat) : Int) = (a : Int) + (q : Int) * 3 from by omega] at H3
    with_reducible refine H3.mono ?_
    clear H3
    rintro e w3 ⟨⟨r3, rfl, h3⟩, hB3, hb3⟩
    have HA3 := Lib.hid (HA2.out.stays hne hb3)
    have HB3 := Lib.hid hB3
    have HU3 := Lib.hid (but_box HU2.out (Nat.le_refl _) hb3)
    clear hB3 hb3
    go_wp2_with fail
    refine (median_any (cap := cap) HA3.out hne HB3.out (a := r1) (b := r2) (c := r3) (by omega) (by omega) (by omega)).mono ?_
    rintro e w4 ⟨⟨r4, rfl, h4⟩, ⟨v, hv⟩, hb4⟩
    have hp1 : a ≤ r4 := by omega
    have hp2 : r4 < B := by omega
    have HU4 := Lib.hid (but_box HU3.out (Nat.le_refl _) hb4)
    have c0 := hv.cell 0
    simp only [List.getElem?_toArray, List.getElem?_cons_zero] at c0
    clear hv hb4 h1 h2 h3 h4
    by_cases v0 : v = 0
    · subst v0
      go_wp2
      go_ret2
      exact HPE.out _ _ _ hp1 hp2 (by omega) HU4.out
    · have v0b : (v == 0) = false := by simpa using v0
      by_cases v12 : v = 12
      · subst v12
        go_wp2
        go_ret2
        exact HPE.out _ _ _ hp1 hp2 (by omega) HU4.out
      · have v12b : (v == 12) = false := by simpa using v12
        go_wp2
        go_ret2
        exact HPE.out _ _ _ hp1 hp2 (by omega) HU4.out
  · have h50z : decide (50 ≤ (L : Int)) = false := by simp; omega
    go_enter Tryz.func105, Tryz.ntmps105
    go_wp2_with fail
    have H1 := median_any (cap := cap) HA0.out hne HB0.out (a := a + q * 1) (b := a + q * 2) (c := a + q * 3) (by omega) (by omega) (by omega)
    rw [show ((a + q * 1 : Nat) : Int) = (a : Int) + (q : Int) from by omega, show ((a + q * 2 : Nat) : Int) = (a : Int) + (q : Int) * 2 from by omega, show ((a + q * 3 : Nat) : Int) = (a : Int) + (q : Int) * 3 from by omega] at H1
    with_reducible refine H1.mono ?_
    clear H1
    rintro e w4 ⟨⟨r4, rfl, h4⟩, ⟨v, hv⟩, hb4⟩
    have hp1 : a ≤ r4 := by omega
    have hp2 : r4 < B := by omega
    have HU4 := Lib.hid (but_box HU0.out (Nat.le_refl _) hb4)
    have c0 := hv.cell 0
    simp only [List.getElem?_toArray, List.getElem?_cons_zero] at c0
    clear hv hb4 h4
    by_cases v0 : v = 0
    · subst v0
      go_wp2
      go_ret2
      exact HPE.out _ _ _ hp1 hp2 (by omega) HU4.out
    · have v0b : (v == 0) = false := by simpa using v0
      by_cases v12 : v = 12
      · subst v12
        go_wp2
        go_ret2
        exact HPE.out _ _ _ hp1 hp2 (by omega) HU4.out
      · have v12b : (v == 12) = false := by simpa using v12
        go_wp2
        go_ret2
        exact HPE.out _ _ _ hp1 hp2 (by omega) HU4.out
end Go.Proofs.YtedefebdfcgjeaaGreatDoor
/- reverseRangeOrdered; siftDownOrdered, heapSortOrdered: they compute what the library's plain functions say. -/
namespace Go.Proofs.YtedefebdfcgjeaaGreatDoor
open Go.RowKit
set_option linter.unusedVariables false
theorem revL_go {i j : Nat} {d : Array Nat} (h : i < j) : Sort.reverseLoop i j d = Sort.reverseLoop (i + 1) (j - 1) (Sort.swp d i j) := by rw [Sort.reverseLoop, if_pos h]
theorem revL_stop {i j : Nat} {d : Array Nat} (h : ¬ i < j) : Sort.reverseLoop i j d = d := by rw [Sort.reverseLoop, if_neg h]
def RevInv (w0 : World) (h off z n : Nat) (r : Array Nat) (k : Nat) (s6 s7 : Value) (wr : World) : Prop := ∃ (i j : Nat) (d : Array Nat), s6 = .int .i64 (i : Int) ∧ s7 = .int .i64 (j : Int) ∧ j < n ∧ i < n + 1 ∧ j - i ≤ k ∧ SwA w0 wr h off z n d ∧ Sort.reverseLoop i j d = r
set_option maxRecDepth 100000 in
set_option maxHeartbeats 2000000 in
theorem reverse_any {w : World} {h off z cap n : Nat} {d : Array Nat} (hA : SwA w w h off z n d) (hn : n ≤ 1000000000) {a b : Nat} (hab : a < b) (hb : b ≤ n) :
    Calls Tryz.prog 106 #[.slice (some ⟨h, off, none⟩) n cap, .int .i64 (a : Int), .int .i64 (b : Int)] w (SortEnd w h off z n (Sort.reverseRange d a b)) := by
  have H0 := Lib.hid hA
  clear hA
  obtain ⟨r, hd⟩ : ∃ r, r = Sort.reverseRange d a b := ⟨_, rfl⟩
  rw [← hd]
  have HD := Lib.hid hd
  clear hd
  go_enter Tryz.func106, Tryz.ntmps106
  go_wp2
  go_loopg [6, 7] (b - 1 - a) (fun k s6 s7 wr => RevInv w h off z n r k s6 s7 wr)
  case atStart => exact ⟨a, b - 1, d, rfl, by congr 1; omega, by omega, by omega, by omega, H0.out, HD.out.symm⟩
  case round =>
    obtain ⟨i, j, dk, rfl, rfl, hj, hi, hk, hS, hU⟩ := hrel
    have HS := Lib.hid hS
    have HU := Lib.hid hU
    clear hU
    by_cases hlt : i < j
    · have hin : i < n := by omega
      have ci := hS.cell hin
      have cj := hS.cell hj
      have fi := hS.free i
      have fj := hS.free j
      have HSW : Hid (∀ W, (∃ q, W = (((wr.setCell ⟨h, off + i, none⟩ (.int .u64 (dk[j]! : Int))).setCell ⟨h, off + j, none⟩ (.int .u64 (dk[i]! : Int))).drewN q)) → SwA w W h off z n (Sort.swp dk i j)) := Lib.hid (fun W hW => HS.out.swp2 hin hj hW)
      have HR := Lib.hid (revL_go (d := dk) hlt)
      have HJ := Lib.hid (show (j : Int) - 1 = ((j - 1 : Nat) : Int) from by omega)
      have hlt' : (i : Int) < (j : Int) := by omega
      clear hS
      generalize dk[i]! = x at *
      generalize dk[j]! = y at *
      obtain ⟨v', hy'⟩ := cell?_setCell_some (w := wr) (p := ⟨h, off + i, none⟩) (x := .int .u64 (y : Int)) (q := ⟨h, off + j, none⟩) cj
      go_wp2
      go_region
      all_goals (try go_wp2)
      all_goals go_roundg (j - 1 - (i + 1))
      case measure => omega
      case rel => exact ⟨i + 1, j - 1, _, by go_num, by rw [HJ.out], by omega, by omega, Nat.le_refl _, HSW.out _ ⟨1, rfl⟩, by rw [← HR.out, HU.out]⟩
    · have hlt' : decide ((i : Int) < (j : Int)) = false := by simp; omega
      have HE := Lib.hid (show SortEnd w h off z n r (.returned (.tuple #[])) wr from ⟨rfl, by rw [← HU.out, revL_stop hlt]; exact hS⟩)
      clear hS
      go_wp2
      go_end0
      exact HE.out
/-! siftDown, laid open by what the tests say. -/
theorem sd_stop {hi F root : Nat} {d : Array Nat} (h : hi ≤ 2 * root + 1) : Sort.siftDown ltN hi F root d = d := by rw [Sort.siftDown, dif_pos h]
/-- The greater child. -/
def kid (hi F root : Nat) (d : Array Nat) : Nat := if 2 * root + 2 < hi ∧ d[F + (2 * root + 1)]! < d[F + (2 * root + 2)]! then 2 * root + 2 else 2 * root + 1
theorem sd_round {hi F root : Nat} {d : Array Nat} (h : 2 * root + 1 < hi) :
    Sort.siftDown ltN hi F root d = if d[F + root]! < d[F + kid hi F root d]! then Sort.siftDown ltN hi F (kid hi F root d) (Sort.swp d (F + root) (F + kid hi F root d)) else d := by
  rw [Sort.siftDown, dif_neg (by omega)]
  unfold kid
  by_cases h1 : 2 * root + 2 < hi
  · have h1' : 2 * root + 1 + 1 < hi := by omega
    by_cases h2 : d[F + (2 * root + 1)]! < d[F + (2 * root + 2)]!
    · have h2' : d[F + (2 * root + 1)]! < d[F + (2 * root + 1) + 1]! := h2
      by_cases h3 : d[F + root]! < d[F + (2 * root + 2)]! <;> simp [ltN, h1, h1', h2, h2', h3]
    · have h2' : ¬ d[F + (2 * root + 1)]! < d[F + (2 * root + 1) + 1]! := h2
      by_cases h3 : d[F + root]! < d[F + (2 * root + 1)]! <;> simp [ltN, h2, h2', h3]
  · have h1' : ¬ 2 * root + 1 + 1 < hi := by omega
    by_cases h3 : d[F + root]! < d[F + (2 * root + 1)]! <;> simp [ltN, h1, h1', h3]
def SdInv (w0 : World) (h off z n hi first : Nat) (r : Array Nat) (k : Nat) (s8 : Value) (wr : World) : Prop := ∃ (root : Nat) (d : Array Nat), s8 = .int .i64 (root : Int) ∧ root ≤ hi ∧ hi - root ≤ k ∧ SwA w0 wr h off z n d ∧ Sort.siftDown ltN hi first root d = r
theorem kid_r {hi F root : Nat} {d : Array Nat} (h1 : 2 * root + 2 < hi) (h2 : d[F + 2 * root + 1]! < d[F + 2 * root + 2]!) : kid hi F root d = 2 * root + 2 := if_pos ⟨h1, h2⟩
theorem kid_l {hi F root : Nat} {d : Array Nat} (h2 : ¬ (2 * root + 2 < hi ∧ d[F + 2 * root + 1]! < d[F + 2 * root + 2]!)) : kid hi F root d = 2 * root + 1 := if_neg h2
set_option maxRecDepth 100000 in
set_option maxHeartbeats 8000000 in
theorem sift_any {w : World} {h off z cap n : Nat} {d : Array Nat} (hA : SwA w w h off z n d) (hn : n ≤ 1000000000) {lo hi first : Nat} (hlo : lo ≤ hi) (hb : first + hi ≤ n) :
    Calls Tryz.prog 118 #[.slice (some ⟨h, off, none⟩) n cap, .int .i64 (lo : Int), .int .i64 (hi : Int), .int .i64 (first : Int)] w (SortEnd w h off z n (Sort.siftDown ltN hi first lo d)) := by
  have H0 := Lib.hid hA
  clear hA
  obtain ⟨r, hd⟩ : ∃ r, r = Sort.siftDown ltN hi first lo d := ⟨_, rfl⟩
  rw [← hd]
  have HD := Lib.hid hd
  clear hd
  go_enter Tryz.func118, Tryz.ntmps118
  go_wp2
  go_loopg [8] (hi - lo) (fun k s8 wr => SdInv w h off z n hi first r k s8 wr)
  case atStart => exact ⟨lo, d, rfl, hlo, Nat.le_refl _, H0.out, HD.out.symm⟩
  case round =>
    obtain ⟨root, dk, rfl, hr, hk, hS, hU⟩ := hrel
    have HS := Lib.hid hS
    have HU := Lib.hid hU
    have hcw : ∀ t, t < n → wr.cell? ⟨h, off + t, none⟩ = some (.int .u64 (dk[t]! : Int)) := fun t ht => HS.out.cell ht
    have hfw : ∀ t, t < n → wr.frozen? ⟨h, off + t, none⟩ = false := fun t _ => HS.out.free t
    clear hS hU
    by_cases h0 : 2 * root + 1 < hi
    · have h0z : ¬ ((hi : Int) ≤ 2 * (root : Int) + 1) := by omega
      by_cases h1 : 2 * root + 2 < hi
      · have h1z : 2 * (root : Int) + 1 + 1 < (hi : Int) := by omega
        by_cases h2 : dk[first + 2 * root + 1]! < dk[first + 2 * root + 2]!
        · have HK := Lib.hid (kid_r h1 h2)
          by_cases h3 : dk[first + root]! < dk[first + 2 * root + 2]!
          · have HN3 : Hid (dk[first + root]! < dk[first + (2 * root + 2)]!) := Lib.hid h3
            have HRR := Lib.hid (sd_round (F := first) (d := dk) h0)
            go_wp2_with fail
            go_big_quiet (first | (go_at_call 108; refine Calls.quiet_of_same (cmpLess_any _ _ _)))
            go_wp2_with fail
            revert nq; intro nq1
            have hcw2 : ∀ t, t < n → (wr.drewN nq1).cell? ⟨h, off + t, none⟩ = some (.int .u64 (dk[t]! : Int)) := hcw
            have hfw2 : ∀ t, t < n → (wr.drewN nq1).frozen? ⟨h, off + t, none⟩ = false := hfw
            have HS2 := Lib.hid (HS.out.drew ⟨nq1, rfl⟩)
            clear hcw hfw
            generalize wr.drewN nq1 = wr2 at hcw2 hfw2 HS2 ⊢
            go_big_quiet (first | (go_at_call 108; refine Calls.quiet_of_same (cmpLess_any _ _ _)))
            go_wp2_with fail
            have hcw3 : ∀ t, t < n → (wr2.drewN nq).cell? ⟨h, off + t, none⟩ = some (.int .u64 (dk[t]! : Int)) := hcw2
            have hfw3 : ∀ t, t < n → (wr2.drewN nq).frozen? ⟨h, off + t, none⟩ = false := hfw2
            have HS3 := Lib.hid (HS2.out.drew ⟨nq, rfl⟩)
            clear hcw2 hfw2
            generalize wr2.drewN nq = wr3 at hcw3 hfw3 HS3 ⊢
            go_region
            go_wp2
            go_roundg (hi - (2 * root + 2))
            case measure => omega
            case rel => exact ⟨2 * root + 2, _, by go_num, by omega, Nat.le_refl _, HS3.out.swp2 (i := first + root) (j := first + (2 * root + 2)) (by omega) (by omega) ⟨1, rfl⟩, by rw [← HU.out, HRR.out, HK.out, if_pos (HN3.out)]⟩
          · have HN3 : Hid (¬ dk[first + root]! < dk[first + (2 * root + 2)]!) := Lib.hid h3
            have HRR := Lib.hid (sd_round (F := first) (d := dk) h0)
            go_wp2_with fail
            go_big_quiet (first | (go_at_call 108; refine Calls.quiet_of_same (cmpLess_any _ _ _)))
            go_wp2_with fail
            revert nq; intro nq1
            have hcw2 : ∀ t, t < n → (wr.drewN nq1).cell? ⟨h, off + t, none⟩ = some (.int .u64 (dk[t]! : Int)) := hcw
            have hfw2 : ∀ t, t < n → (wr.drewN nq1).frozen? ⟨h, off + t, none⟩ = false := hfw
            have HS2 := Lib.hid (HS.out.drew ⟨nq1, rfl⟩)
            clear hcw hfw
            generalize wr.drewN nq1 = wr2 at hcw2 hfw2 HS2 ⊢
            go_big_quiet (first | (go_at_call 108; refine Calls.quiet_of_same (cmpLess_any _ _ _)))
            go_wp2_with fail
            have HE : Hid (SortEnd w h off z n r (.returned (.tuple #[])) (wr2.drewN nq)) := Lib.hid ⟨rfl, by rw [← HU.out, HRR.out, HK.out, if_neg (HN3.out)]; exact HS2.out.drew ⟨nq, rfl⟩⟩
            (try simp only [Exit.inBlock, Exit.then])
            refine bodyPost_ret (results_none rfl _ _ _) rfl ?_
            exact HE.out
        · have HK := Lib.hid (kid_l (fun h => h2 h.2) : kid hi first root dk = 2 * root + 1)
          by_cases h3 : dk[first + root]! < dk[first + 2 * root + 1]!
          · have HN3 : Hid (dk[first + root]! < dk[first + (2 * root + 1)]!) := Lib.hid h3
            have HRR := Lib.hid (sd_round (F := first) (d := dk) h0)
            go_wp2_with fail
            go_big_quiet (first | (go_at_call 108; refine Calls.quiet_of_same (cmpLess_any _ _ _)))
            go_wp2_with fail
            revert nq; intro nq1
            have hcw2 : ∀ t, t < n → (wr.drewN nq1).cell? ⟨h, off + t, none⟩ = some (.int .u64 (dk[t]! : Int)) := hcw
            have hfw2 : ∀ t, t < n → (wr.drewN nq1).frozen? ⟨h, off + t, none⟩ = false := hfw
            have HS2 := Lib.hid (HS.out.drew ⟨nq1, rfl⟩)
            clear hcw hfw
            generalize wr.drewN nq1 = wr2 at hcw2 hfw2 HS2 ⊢
            go_big_quiet (first | (go_at_call 108; refine Calls.quiet_of_same (cmpLess_any _ _ _)))
            go_wp2_with fail
            have hcw3 : ∀ t, t < n → (wr2.drewN nq).cell? ⟨h, off + t, none⟩ = some (.int .u64 (dk[t]! : Int)) := hcw2
            have hfw3 : ∀ t, t < n → (wr2.drewN nq).frozen? ⟨h, off + t, none⟩ = false := hfw2
            have HS3 := Lib.hid (HS2.out.drew ⟨nq, rfl⟩)
            clear hcw2 hfw2
            generalize wr2.drewN nq = wr3 at hcw3 hfw3 HS3 ⊢
            go_region
            go_wp2
            go_roundg (hi - (2 * root + 1))
            case measure => omega
            case rel => exact ⟨2 * root + 1, _, by go_num, by omega, Nat.le_refl _, HS3.out.swp2 (i := first + root) (j := first + (2 * root + 1)) (by omega) (by omega) ⟨1, rfl⟩, by rw [← HU.out, HRR.out, HK.out, if_pos (HN3.out)]⟩
          · have HN3 : Hid (¬ dk[first + root]! < dk[first + (2 * root + 1)]!) := Lib.hid h3
            have HRR := Lib.hid (sd_round (F := first) (d := dk) h0)
            go_wp2_with fail
            go_big_quiet (first | (go_at_call 108; refine Calls.quiet_of_same (cmpLess_any _ _ _)))
            go_wp2_with fail
            revert nq; intro nq1
            have hcw2 : ∀ t, t < n → (wr.drewN nq1).cell? ⟨h, off + t, none⟩ = some (.int .u64 (dk[t]! : Int)) := hcw
            have hfw2 : ∀ t, t < n → (wr.drewN nq1).frozen? ⟨h, off + t, none⟩ = false := hfw
            have HS2 := Lib.hid (HS.out.drew ⟨nq1, rfl⟩)
            clear hcw hfw
            generalize wr.drewN nq1 = wr2 at hcw2 hfw2 HS2 ⊢
            go_big_quiet (first | (go_at_call 108; refine Calls.quiet_of_same (cmpLess_any _ _ _)))
            go_wp2_with fail
            have HE : Hid (SortEnd w h off z n r (.returned (.tuple #[])) (wr2.drewN nq)) := Lib.hid ⟨rfl, by rw [← HU.out, HRR.out, HK.out, if_neg (HN3.out)]; exact HS2.out.drew ⟨nq, rfl⟩⟩
            (try simp only [Exit.inBlock, Exit.then])
            refine bodyPost_ret (results_none rfl _ _ _) rfl ?_
            exact HE.out
      · have h1z : decide (2 * (root : Int) + 1 + 1 < (hi : Int)) = false := decide_eq_false (by omega)
        have HK := Lib.hid (kid_l (fun h => h1 h.1) : kid hi first root dk = 2 * root + 1)
        by_cases h3 : dk[first + root]! < dk[first + 2 * root + 1]!
        · have HN3 : Hid (dk[first + root]! < dk[first + (2 * root + 1)]!) := Lib.hid h3
          have HRR := Lib.hid (sd_round (F := first) (d := dk) h0)
          go_wp2_with fail
          go_big_quiet (first | (go_at_call 108; refine Calls.quiet_of_same (cmpLess_any _ _ _)))
          go_wp2_with fail
          revert nq; intro nq1
          have hcw2 : ∀ t, t < n → (wr.drewN nq1).cell? ⟨h, off + t, none⟩ = some (.int .u64 (dk[t]! : Int)) := hcw
          have hfw2 : ∀ t, t < n → (wr.drewN nq1).frozen? ⟨h, off + t, none⟩ = false := hfw
          have HS2 := Lib.hid (HS.out.drew ⟨nq1, rfl⟩)
          clear hcw hfw
          generalize wr.drewN nq1 = wr2 at hcw2 hfw2 HS2 ⊢
          go_big_quiet (first | (go_at_call 108; refine Calls.quiet_of_same (cmpLess_any _ _ _)))
          go_wp2_with fail
          have hcw3 : ∀ t, t < n → (wr2.drewN nq).cell? ⟨h, off + t, none⟩ = some (.int .u64 (dk[t]! : Int)) := hcw2
          have hfw3 : ∀ t, t < n → (wr2.drewN nq).frozen? ⟨h, off + t, none⟩ = false := hfw2
          have HS3 := Lib.hid (HS2.out.drew ⟨nq, rfl⟩)
          clear hcw2 hfw2
          generalize wr2.drewN nq = wr3 at hcw3 hfw3 HS3 ⊢
          go_region
          go_wp2
          go_roundg (hi - (2 * root + 1))
          case measure => omega
          case rel => exact ⟨2 * root + 1, _, by go_num, by omega, Nat.le_refl _, HS3.out.swp2 (i := first + root) (j := first + (2 * root + 1)) (by omega) (by omega) ⟨1, rfl⟩, by rw [← HU.out, HRR.out, HK.out, if_pos (HN3.out)]⟩
        · have HN3 : Hid (¬ dk[first + root]! < dk[first + (2 * root + 1)]!) := Lib.hid h3
          have HRR := Lib.hid (sd_round (F := first) (d := dk) h0)
          go_wp2_with fail
          go_big_quiet (first | (go_at_call 108; refine Calls.quiet_of_same (cmpLess_any _ _ _)))
          go_wp2_with fail
          revert nq; intro nq1
          have hcw2 : ∀ t, t < n → (wr.drewN nq1).cell? ⟨h, off + t, none⟩ = some (.int .u64 (dk[t]! : Int)) := hcw
          have hfw2 : ∀ t, t < n → (wr.drewN nq1).frozen? ⟨h, off + t, none⟩ = false := hfw
          have HS2 := Lib.hid (HS.out.drew ⟨nq1, rfl⟩)
          clear hcw hfw
          generalize wr.drewN nq1 = wr2 at hcw2 hfw2 HS2 ⊢
          go_big_quiet (first | (go_at_call 108; refine Calls.quiet_of_same (cmpLess_any _ _ _)))
          go_wp2_with fail
          have HE : Hid (SortEnd w h off z n r (.returned (.tuple #[])) (wr2.drewN nq)) := Lib.hid ⟨rfl, by rw [← HU.out, HRR.out, HK.out, if_neg (HN3.out)]; exact HS2.out.drew ⟨nq, rfl⟩⟩
          (try simp only [Exit.inBlock, Exit.then])
          refine bodyPost_ret (results_none rfl _ _ _) rfl ?_
          exact HE.out
    · have h0z : (hi : Int) ≤ 2 * (root : Int) + 1 := by omega
      have HE : Hid (SortEnd w h off z n r (.returned (.tuple #[])) wr) := Lib.hid ⟨rfl, by rw [← HU.out, sd_stop (by omega)]; exact HS.out⟩
      clear hcw hfw
      go_wp2
      go_end0
      exact HE.out
end Go.Proofs.YtedefebdfcgjeaaGreatDoor
/- heapSortOrdered: it computes what the library's plain function says. -/
namespace Go.Proofs.YtedefebdfcgjeaaGreatDoor
open Go.RowKit
set_option linter.unusedVariables false
def HbInv (w0 : World) (h off z n H a : Nat) (r : Array Nat) (k : Nat) (s9 : Value) (wr : World) : Prop := ∃ d : Array Nat, s9 = .int .i64 ((k : Int) - 1) ∧ k ≤ (H - 1) / 2 + 1 ∧ SwA w0 wr h off z n d ∧ Sort.heapBuild ltN H a k d = r
def HpInv (w0 : World) (h off z n H a : Nat) (r : Array Nat) (k : Nat) (s10 : Value) (wr : World) : Prop := ∃ d : Array Nat, s10 = .int .i64 ((k : Int) - 1) ∧ k ≤ H ∧ SwA w0 wr h off z n d ∧ Sort.heapPop ltN a k d = r
set_option maxRecDepth 100000 in
set_option maxHeartbeats 4000000 in
theorem heapSort_any {w : World} {h off z cap n : Nat} {d : Array Nat} (hA : SwA w w h off z n d) (hn : n ≤ 1000000000) {a b : Nat} (hab : a < b) (hb : b ≤ n) :
    Calls Tryz.prog 103 #[.slice (some ⟨h, off, none⟩) n cap, .int .i64 (a : Int), .int .i64 (b : Int)] w (SortEnd w h off z n (Sort.heapSort ltN d a b)) := by
  obtain ⟨H, hH⟩ : ∃ H, H = b - a := ⟨_, rfl⟩
  have hl : (b : Int) - (a : Int) = (H : Int) := by omega
  have hH1 : 1 ≤ H := by omega
  have haH : a + H ≤ n := by omega
  obtain ⟨r1, hr1⟩ : ∃ r1, r1 = Sort.heapBuild ltN H a ((H - 1) / 2 + 1) d := ⟨_, rfl⟩
  obtain ⟨r, hd⟩ : ∃ r, r = Sort.heapSort ltN d a b := ⟨_, rfl⟩
  have HD : Hid (Sort.heapPop ltN a H r1 = r) := Lib.hid (by rw [hd, hr1, hH]; rfl)
  rw [← hd]
  have HR1 := Lib.hid hr1
  have H0 := Lib.hid hA
  have hq : ((H : Int) - 1) / 2 = (((H - 1) / 2 + 1 : Nat) : Int) - 1 := by omega
  have HQ := Lib.hid hq
  clear hA hd hr1 hH hq
  go_enter Tryz.func103, Tryz.ntmps103
  go_wp2
  go_loopg [9] ((H - 1) / 2 + 1) (fun k s9 wr => HbInv w h off z n H a r1 k s9 wr)
  case atStart => exact ⟨d, by rw [HQ.out], Nat.le_refl _, H0.out, HR1.out.symm⟩
  case round =>
    obtain ⟨dk, hs, hk, hS, hU⟩ := hrel
    have HS := Lib.hid hS
    have HU := Lib.hid hU
    clear hS hU
    cases gk with
    | zero =>
      rw [show ((0 : Nat) : Int) - 1 = -1 from rfl] at hs
      subst hs
      have HU0 : Hid (dk = r1) := Lib.hid HU.out
      go_wp2
      go_loopg [10] H (fun k s10 wr2 => HpInv w h off z n H a r k s10 wr2)
      case atStart => exact ⟨dk, rfl, Nat.le_refl _, HS.out, by rw [HU0.out]; exact HD.out⟩
      case round =>
        obtain ⟨dj, hs2, hk2, hS2, hU2⟩ := hrel
        have HS2 := Lib.hid hS2
        have HU2 := Lib.hid hU2
        clear hS2 hU2
        cases gk with
        | zero =>
          rw [show ((0 : Nat) : Int) - 1 = -1 from rfl] at hs2
          subst hs2
          have HE := Lib.hid (show SortEnd w h off z n r (.returned (.tuple #[])) wr from ⟨rfl, by rw [← HU2.out]; exact HS2.out⟩)
          go_wp2
          go_end0
          exact HE.out
        | succ j =>
          rw [show ((j + 1 : Nat) : Int) - 1 = (j : Int) from by omega] at hs2
          subst hs2
          have han : a < n := by omega
          have hjn : a + j < n := by omega
          have ca := HS2.out.cell han
          have cj := HS2.out.cell hjn
          have fa := HS2.out.free a
          have fj := HS2.out.free (a + j)
          have HSW : Hid (∀ W, (∃ q, W = (((wr.setCell ⟨h, off + a, none⟩ (.int .u64 (dj[a + j]! : Int))).setCell ⟨h, off + (a + j), none⟩ (.int .u64 (dj[a]! : Int))).drewN q)) → SwA w W h off z n (Sort.swp dj a (a + j))) := Lib.hid (fun W hW => HS2.out.swp2 han hjn hW)
          generalize dj[a]! = x at *
          generalize dj[a + j]! = y at *
          obtain ⟨v', hy'⟩ := cell?_setCell_some (w := wr) (p := ⟨h, off + a, none⟩) (x := .int .u64 (y : Int)) (q := ⟨h, off + (a + j), none⟩) cj
          go_wp2
          go_region
          go_wp2_with fail
          have HS3 := Lib.hid (HSW.out _ ⟨1, rfl⟩)
          have HSI := sift_any (cap := cap) HS3.out.here hn (lo := 0) (hi := j) (first := a) (by omega) (by omega)
          rw [show ((0 : Nat) : Int) = 0 from rfl] at HSI
          refine HSI.mono ?_
          rintro e w1 ⟨rfl, hE⟩
          have HE := Lib.hid (HS3.out.then hE)
          clear hE HSI
          go_wp2
          go_roundg j
          case measure => omega
          case rel => exact ⟨_, rfl, by omega, HE.out, HU2.out⟩
    | succ j =>
      rw [show ((j + 1 : Nat) : Int) - 1 = (j : Int) from by omega] at hs
      subst hs
      have HSI := Lib.hid (sift_any (cap := cap) HS.out.here hn (lo := j) (hi := H) (first := a) (by omega) haH)
      go_wp2_with fail
      refine HSI.out.mono ?_
      rintro e w1 ⟨rfl, hE⟩
      have HE := Lib.hid (HS.out.then hE)
      clear hE
      go_wp2
      go_roundg j
      case measure => omega
      case rel => exact ⟨_, rfl, by omega, HE.out, HU.out⟩
end Go.Proofs.YtedefebdfcgjeaaGreatDoor
