/- A slice of words in the midst of a sort: what it reads as, and that nothing else turns; cmp.Less, insertionSortOrdered; of at most 10^9 elements. -/
import Derived.Test.YtpdnbojooelmfaaMem
import Derived.Sort.AssemblyPlain
import Derived.Deep.RegionWith
import Derived.Deep.LoopGhost
import Derived.BigQuiet
import Derived.Deep.QuietTactic
import Derived.CellFam
import Derived.BigCall
import Derived.BigGuard
import Derived.BigRegion
import Derived.IntWalk
namespace Go.Proofs.Ytpdnbojooelmfaa
open Go.RowKit
set_option linter.unusedVariables false
def ltN (x y : Nat) : Bool := decide (x < y)
theorem swo_ltN : Sort.SWO ltN := ⟨fun x => by simp [ltN], fun x y z h1 h2 => by simp only [ltN, decide_eq_true_eq] at *; omega, fun x y z h1 h2 => by simp only [ltN, decide_eq_false_iff_not] at *; omega⟩
theorem insI_go {a j : Nat} {d : Array Nat} (hj : a < j) (hl : d[j]! < d[j - 1]!) : Sort.insInner ltN a j d = Sort.insInner ltN a (j - 1) (Sort.swp d j (j - 1)) := by
  obtain ⟨k, rfl⟩ : ∃ k, j = k + 1 := ⟨j - 1, by omega⟩
  rw [Sort.insInner, if_pos]
  · rfl
  · simp only [Nat.add_sub_cancel] at hl
    simp [ltN, hj, hl]
theorem insI_stop {a j : Nat} {d : Array Nat} (h : j ≤ a ∨ ¬ d[j]! < d[j - 1]!) : Sort.insInner ltN a j d = d := by
  cases j with
  | zero => rfl
  | succ k =>
    rw [Sort.insInner, if_neg]
    simp only [Nat.add_sub_cancel] at h
    rcases h with h | h
    · simp; omega
    · simp [ltN, h]
theorem insO_go {a b i : Nat} {d : Array Nat} (h : i < b) : Sort.insOuter ltN a b i d = Sort.insOuter ltN a b (i + 1) (Sort.insInner ltN a i d) := by rw [Sort.insOuter, if_pos h]
theorem insO_stop {a b i : Nat} {d : Array Nat} (h : ¬ i < b) : Sort.insOuter ltN a b i d = d := by rw [Sort.insOuter, if_neg h]

/-- Draws alone. -/
def Drw (w w' : World) : Prop := ∃ q, w' = w.drewN q
theorem Drw.below {w w' : World} (h : Drw w w') : Below w.heap.size w w' := by
  obtain ⟨q, rfl⟩ := h
  exact drewN_below w q
/-- The block h is of z words; those from off on read as the array d, of n elements; nothing else has turned. -/
def SwA (w0 w : World) (h off z n : Nat) (d : Array Nat) : Prop :=
  (∃ cur, Row w h 32 cur ∧ cur.size = z ∧ off + n ≤ z ∧ ∀ i, i < n → cur[off + i]? = some (.int .u64 (d[i]! : Int))) ∧ d.size = n ∧ But w0 w (fun k => k = h)
theorem SwA.drew {w0 w w' : World} {h off z n : Nat} {d : Array Nat} (s : SwA w0 w h off z n d) (hb : Drw w w') : SwA w0 w' h off z n d := by
  obtain ⟨⟨cur, hr, h1⟩, h2, h3⟩ := s
  exact ⟨⟨cur, hr.below hb.below hr.lt, h1⟩, h2, h3.trans (But.of_below hb.below (fun k => k = h)) (fun k hk => .inl hk)⟩
theorem SwA.below {w0 w w' : World} {h off z n : Nat} {d : Array Nat} (s : SwA w0 w h off z n d) (hb : Below w.heap.size w w') : SwA w0 w' h off z n d := by
  obtain ⟨⟨cur, hr, h1⟩, h2, h3⟩ := s
  exact ⟨⟨cur, hr.below hb hr.lt, h1⟩, h2, h3.trans (But.of_below hb (fun k => k = h)) (fun k hk => .inl hk)⟩
theorem SwA.lt {w0 w : World} {h off z n : Nat} {d : Array Nat} (s : SwA w0 w h off z n d) : h < w.heap.size := by
  obtain ⟨⟨cur, hr, h1⟩, h2, h3⟩ := s
  exact hr.lt
/-- As it stands, from here on. -/
theorem SwA.here {w0 w : World} {h off z n : Nat} {d : Array Nat} (s : SwA w0 w h off z n d) : SwA w w h off z n d := ⟨s.1, s.2.1, But.refl _ _⟩
theorem SwA.then {w0 w w' : World} {h off z n : Nat} {d d' : Array Nat} (s : SwA w0 w h off z n d) (s' : SwA w w' h off z n d') : SwA w0 w' h off z n d' :=
  ⟨s'.1, s'.2.1, s.2.2.trans s'.2.2 (fun k hk => .inl hk)⟩
theorem SwA.cell {w0 w : World} {h off z n : Nat} {d : Array Nat} (s : SwA w0 w h off z n d) {i : Nat} (hi : i < n) : w.cell? ⟨h, off + i, none⟩ = some (.int .u64 (d[i]! : Int)) := by
  obtain ⟨⟨cur, hr, h1, h2, h3⟩, _⟩ := s
  rw [hr.cell]
  exact h3 i hi
theorem SwA.free {w0 w : World} {h off z n : Nat} {d : Array Nat} (s : SwA w0 w h off z n d) (i : Nat) : w.frozen? ⟨h, off + i, none⟩ = false := by
  obtain ⟨⟨cur, hr, h1⟩, _⟩ := s
  exact hr.free _
theorem SwA.set {w0 w : World} {h off z n : Nat} {d : Array Nat} (s : SwA w0 w h off z n d) {i : Nat} (hi : i < n) (x : Nat) : SwA w0 (w.setCell ⟨h, off + i, none⟩ (.int .u64 (x : Int))) h off z n (d.setIfInBounds i x) := by
  obtain ⟨⟨cur, hr, h1, h2, h3⟩, hn, hb⟩ := s
  refine ⟨⟨_, hr.set _ _, by simpa using h1, h2, ?_⟩, by simpa using hn, hb.set rfl _⟩
  intro j hj
  rw [Array.getElem?_setIfInBounds]
  by_cases e : off + i = off + j
  · obtain rfl : i = j := by omega
    rw [if_pos rfl, if_pos (by omega)]
    rw [getElem!_pos _ _ (by simpa using (show i < d.size by omega))]
    simp
  · have e' : i ≠ j := fun h => e (by rw [h])
    rw [if_neg e, h3 j hj]
    congr 3
    rw [getElem!_pos d j (by omega), getElem!_pos (d.setIfInBounds i x) j (by simpa using (show j < d.size by omega)), Array.getElem_setIfInBounds_ne (by omega) e']
theorem SwA.swp2 {w0 w w' : World} {h off z n : Nat} {d : Array Nat} (s : SwA w0 w h off z n d) {i j : Nat} (hi : i < n) (hj : j < n) (hw : ∃ q, w' = (((w.setCell ⟨h, off + i, none⟩ (.int .u64 (d[j]! : Int))).setCell ⟨h, off + j, none⟩ (.int .u64 (d[i]! : Int))).drewN q)) : SwA w0 w' h off z n (Sort.swp d i j) := by
  obtain ⟨q, rfl⟩ := hw
  exact ((s.set hi _).set hj _).drew ⟨q, rfl⟩
theorem cmpLess_any (x y : Nat) (w : World) : Calls Try.prog 48 #[.int .u64 (x : Int), .int .u64 (y : Int)] w fun e w' => e = .returned (.bool (decide (x < y))) ∧ w' = w := by
  go_enter Try.func48, Try.ntmps48
  go_wp2
  go_ret
  exact ⟨rfl, rfl⟩
def SortEnd (w0 : World) (h off z n : Nat) (d : Array Nat) (e : Ending) (w' : World) : Prop := e = .returned (.tuple #[]) ∧ SwA w0 w' h off z n d
def InsO (w0 : World) (h off z n a b : Nat) (r : Array Nat) (v : Value) (wr : World) : Prop := ∃ (i : Nat) (d : Array Nat), v = .int .i64 (i : Int) ∧ i ≤ b + 1 ∧ a < i ∧ SwA w0 wr h off z n d ∧ Sort.insOuter ltN a b i d = r
def InsI (w0 : World) (h off z n a i : Nat) (r : Array Nat) (v : Value) (wr : World) : Prop := ∃ (j : Nat) (d : Array Nat), v = .int .i64 (j : Int) ∧ a ≤ j ∧ j ≤ i ∧ SwA w0 wr h off z n d ∧ Sort.insInner ltN a j d = r
set_option maxRecDepth 100000 in
set_option maxHeartbeats 4000000 in
theorem insSort_any {w : World} {h off z cap n : Nat} {d : Array Nat} (hA : SwA w w h off z n d) (hl : n ≤ 1000000001) {a b : Nat} (hab : a ≤ b) (hb : b ≤ n) :
    Calls Try.prog 42 #[.slice (some ⟨h, off, none⟩) n cap, .int .i64 (a : Int), .int .i64 (b : Int)] w (SortEnd w h off z n (Sort.insertionSort ltN d a b)) := by
  have H0 := Lib.hid hA
  clear hA
  obtain ⟨r, hd⟩ : ∃ r, r = Sort.insertionSort ltN d a b := ⟨_, rfl⟩
  rw [← hd]
  have HD := Lib.hid hd
  clear hd
  go_enter Try.func42, Try.ntmps42
  go_wp2
  go_loopw [6] (fun v wr => InsO w h off z n a b r v wr) (fun v _ => b + 1 - (intOf v).toNat)
  case atStart => exact ⟨a + 1, d, by go_num, by omega, by omega, H0.out, HD.out.symm⟩
  case round =>
    obtain ⟨i, d1, rfl, hib, hai, hS, hU⟩ := hrel
    rename World => wr
    by_cases h1 : i < b
    · have HU := Lib.hid hU
      have HS := Lib.hid hS
      clear hU hS
      obtain ⟨r1, hr1⟩ : ∃ r1, r1 = Sort.insInner ltN a i d1 := ⟨_, rfl⟩
      have HR1 := Lib.hid hr1
      clear hr1
      go_wp2
      go_loopw [7] (fun v wr2 => InsI w h off z n a i r1 v wr2) (fun v _ => (intOf v).toNat)
      case atStart => exact ⟨i, d1, rfl, by omega, by omega, HS.out, HR1.out.symm⟩
      case round =>
        obtain ⟨j, d2, rfl, haj, hji, hS2, hU2⟩ := hrel
        rename World => wr2
        have hjn : j < n := by omega
        have hOut : ∀ W, SwA w W h off z n d2 → Sort.insInner ltN a j d2 = d2 → InsO w h off z n a b r (.int .i64 ((i : Int) + 1)) W := by
          intro W hW e
          refine ⟨i + 1, d2, by go_num, by omega, by omega, hW, ?_⟩
          rw [← HU.out, insO_go h1, ← HR1.out, ← hU2, e]
        have HO := Lib.hid hOut
        have HS2 := Lib.hid hS2
        have HU2 := Lib.hid hU2
        clear hOut hU2
        by_cases haj' : a < j
        · have hg : decide ((a : Int) < (j : Int)) = true := by simpa using haj'
          have cj := hS2.cell (i := j) hjn
          have ck := hS2.cell (i := j - 1) (by omega)
          have fj := hS2.free j
          have fk := hS2.free (j - 1)
          have hk : (j : Int) - 1 = ((j - 1 : Nat) : Int) := by omega
          have hSW : ∀ q, SwA w (((wr2.drewN q).setCell ⟨h, off + j, none⟩ (.int .u64 (d2[j - 1]! : Int))).setCell ⟨h, off + (j - 1), none⟩ (.int .u64 (d2[j]! : Int))) h off z n (Sort.swp d2 j (j - 1)) := fun q => SwA.swp2 (HS2.out.drew ⟨q, rfl⟩) hjn (by omega) ⟨0, rfl⟩
          have HSW := Lib.hid hSW
          have HK := Lib.hid hk
          clear hS2 hSW hk
          by_cases hc : d2[j]! < d2[j - 1]!
          · have HR := Lib.hid (insI_go haj' hc)
            have hcc : decide (d2[j]! < d2[j - 1]!) = true := decide_eq_true hc
            clear hc
            generalize d2[j]! = x at *
            generalize d2[j - 1]! = y at *
            obtain ⟨v', hy'⟩ := cell?_setCell_some (w := wr2) (p := ⟨h, off + j, none⟩) (x := .int .u64 y) (q := ⟨h, off + (j - 1), none⟩) ck
            go_wp2
            go_quiet ((go_at_call 48; exact Calls.quiet_of_same (cmpLess_any _ _ _)))
            go_wp2
            go_region
            all_goals (try go_wp2)
            all_goals go_roundw
            case rel => exact ⟨j - 1, _, by rw [HK.out], by omega, by omega, HSW.out _, by rw [← HR.out, HU2.out]⟩
            case measure => simp [intOf]; omega
          · have hcc : decide (d2[j]! < d2[j - 1]!) = false := decide_eq_false hc
            have HR := Lib.hid (insI_stop (a := a) (Or.inr hc))
            clear hc
            generalize d2[j]! = x at *
            generalize d2[j - 1]! = y at *
            go_wp2
            go_quiet ((go_at_call 48; exact Calls.quiet_of_same (cmpLess_any _ _ _)))
            have HF := Lib.hid (HO.out _ (HS2.out.drew ⟨nq, rfl⟩) HR.out)
            go_wp2
            go_roundw
            case rel => exact HF.out
            case measure => simp [intOf]; omega
        · have hg : decide ((a : Int) < (j : Int)) = false := by simpa using haj'
          have HR := Lib.hid (insI_stop (a := a) (d := d2) (Or.inl (show j ≤ a by omega)))
          clear hS2
          go_wp2
          go_quiet (fail)
          have HF := Lib.hid (HO.out _ (HS2.out.drew ⟨nq, rfl⟩) HR.out)
          go_wp2
          go_roundw
          case rel => exact HF.out
          case measure => simp [intOf]; omega
    · have HE := Lib.hid (show SortEnd w h off z n r (.returned (.tuple #[])) wr from ⟨rfl, by rw [← hU, insO_stop h1]; exact hS⟩)
      clear hU hS
      go_wp2
      go_end0
      exact HE.out
set_option maxRecDepth 100000 in
set_option maxHeartbeats 1000000 in
theorem insSort_none {w : World} {ad : Option Addr} {cap : Nat} :
    Calls Try.prog 42 #[.slice ad 0 cap, .int .i64 0, .int .i64 0] w fun e w' => e = .returned (.tuple #[]) ∧ w = w' := by
  go_enter Try.func42, Try.ntmps42
  go_wp2
  go_loop [6] (fun v => v = .int .i64 1) (fun _ => 0)
  case atStart => rfl
  case round =>
    subst hrel
    go_wp2
    go_end0
    exact ⟨rfl, rfl⟩
end Go.Proofs.Ytpdnbojooelmfaa
