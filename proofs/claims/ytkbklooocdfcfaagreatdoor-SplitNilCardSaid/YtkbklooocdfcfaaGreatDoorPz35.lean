/- Texts of this claim, packed: HSort. -/
import Derived.Test.YtkbklooocdfcfaaGreatDoorPz33
import Derived.Test.YtkbklooocdfcfaaGreatDoorPz34
import Derived.Sort.LotA
import Derived.Deep.RegionWith
set_option linter.unusedVariables false
set_option maxRecDepth 100000
set_option maxHeartbeats 6400000
namespace Go.Proofs.YtkbklooocdfcfaaGreatDoor
open Go.RowKit
def hltN (x y : Nat) : Bool := decide (x < y)
theorem hswo_ltN : Sort.SWO hltN := ⟨fun x => by simp [hltN], fun x y z h1 h2 => by simp only [hltN, decide_eq_true_eq] at *; omega, fun x y z h1 h2 => by simp only [hltN, decide_eq_false_iff_not] at *; omega⟩
theorem gd_arr (d : Array Nat) (i : Nat) : gd d.toList i = d[i]! := by
 unfold gd
 rw [List.getD_eq_getElem?_getD, Array.getElem?_toList, getElem!_def]
 cases d[i]? <;> rfl
theorem swp_arr (d : Array Nat) (i j : Nat) : (Sort.swp d i j).toList = swp d.toList i j := by
 unfold Sort.swp swp
 rw [Array.toList_setIfInBounds, Array.toList_setIfInBounds, gd_arr, gd_arr]
theorem hinsI_go {a j : Nat} {d : Array Nat} (hj : a < j) (hl : d[j]! < d[j - 1]!) : Sort.insInner hltN a j d = Sort.insInner hltN a (j - 1) (Sort.swp d j (j - 1)) := by
 obtain ⟨k, rfl⟩ : ∃ k, j = k + 1 := ⟨j - 1, by omega⟩
 rw [Sort.insInner, if_pos]
 ·rfl
 ·simp only [Nat.add_sub_cancel] at hl
  simp [hltN, hj, hl]
theorem hinsI_stop {a j : Nat} {d : Array Nat} (h : j <= a \/ ¬ d[j]! < d[j - 1]!) : Sort.insInner hltN a j d = d := by
 cases j with
 | zero => rfl
 | succ k =>
  rw [Sort.insInner, if_neg]
  simp only [Nat.add_sub_cancel] at h
  rcases h with h | h
  ·simp; omega
  ·simp [hltN, h]
theorem hinsO_go {a b i : Nat} {d : Array Nat} (h : i < b) : Sort.insOuter hltN a b i d = Sort.insOuter hltN a b (i + 1) (Sort.insInner hltN a i d) := by rw [Sort.insOuter, if_pos h]
theorem hinsO_stop {a b i : Nat} {d : Array Nat} (h : ¬ i < b) : Sort.insOuter hltN a b i d = d := by rw [Sort.insOuter, if_neg h]
def HSwA (w0 w : World) (h off cap n : Nat) (d : Array Nat) : Prop := Adr w (.slice (some ⟨h, off, none⟩) n cap) d.toList /\ d.size = n /\ But w0 w (fun k => k = h)
theorem HSwA.drew {w0 w w' : World} {h off cap n : Nat} {d : Array Nat} (s : HSwA w0 w h off cap n d) (hb : Drew w w') : HSwA w0 w' h off cap n d :=
 ⟨s.1.below hb.below, s.2.1, s.2.2.trans (But.of_below hb.below (fun k => k = h)) (fun k hk => .inl hk)⟩
theorem HSwA.cell {w0 w : World} {h off cap n : Nat} {d : Array Nat} (s : HSwA w0 w h off cap n d) {i : Nat} (hi : i < n) : w.cell? ⟨h, off + i, none⟩ = some (.int .u64 (d[i]! : Int)) := by
 have := s.1.cell (i := i) (by rw [Array.length_toList, s.2.1]; exact hi)
 rw [gd_arr] at this
 exact this
theorem HSwA.swp2 {w0 w w' : World} {h off cap n : Nat} {d : Array Nat} (s : HSwA w0 w h off cap n d) {i j : Nat} (hi : i < n) (hj : j < n) (hw : ∃ q, w' = (((w.setCell ⟨h, off + i, none⟩ (.int .u64 (d[j]! : Int))).setCell ⟨h, off + j, none⟩ (.int .u64 (d[i]! : Int))).drewN q)) : HSwA w0 w' h off cap n (Sort.swp d i j) := by
 obtain ⟨q, rfl⟩ := hw
 have a1 := (s.1.set (i := i) (by rw [Array.length_toList, s.2.1]; exact hi) (d[j]!)).set (i := j) (by rw [List.length_set, Array.length_toList, s.2.1]; exact hj) (d[i]!)
 have e : (d.toList.set i d[j]!).set j d[i]! = (Sort.swp d i j).toList := by rw [swp_arr]; unfold swp; rw [gd_arr, gd_arr]
 rw [e] at a1
 have hb : But w (((w.setCell ⟨h, off + i, none⟩ (wv d[j]!)).setCell ⟨h, off + j, none⟩ (wv d[i]!)).drewN q) (fun k => k = h) := by
  have := But.set (But.set (But.refl w (fun k => k = h)) (p := ⟨h, off + i, none⟩) rfl (wv d[j]!)) (p := ⟨h, off + j, none⟩) rfl (wv d[i]!)
  exact this.trans (But.of_below (drewN_below _ q) (fun k => k = h)) (fun k hk => .inl hk)
 refine ⟨a1.below (drewN_below _ q), by simp [Sort.swp, s.2.1], s.2.2.trans hb (fun k hk => .inl hk)⟩
theorem hcmpLess_any (x y : Nat) (w : World) : Calls Tryz.prog 151 #[.int .u64 (x : Int), .int .u64 (y : Int)] w fun e w' => e = .returned (.bool (decide (x < y))) /\ w' = w := by
 go_enter Tryz.func151, Tryz.ntmps151
 go_wp2
 go_ret
 exact ⟨rfl, rfl⟩
def HSortEnd (w0 : World) (h off cap n : Nat) (d : Array Nat) (e : Ending) (w' : World) : Prop := e = .returned (.tuple #[]) /\ HSwA w0 w' h off cap n d
def HInsO (w0 : World) (h off cap n a b : Nat) (r : Array Nat) (v : Value) (wr : World) : Prop := ∃ (i : Nat) (d : Array Nat), v = .int .i64 (i : Int) /\ i <= b + 1 /\ a < i /\ HSwA w0 wr h off cap n d /\ Sort.insOuter hltN a b i d = r
def HInsI (w0 : World) (h off cap n a i : Nat) (r : Array Nat) (v : Value) (wr : World) : Prop := ∃ (j : Nat) (d : Array Nat), v = .int .i64 (j : Int) /\ a <= j /\ j <= i /\ HSwA w0 wr h off cap n d /\ Sort.insInner hltN a j d = r
theorem hinsSort_any {w : World} {h off cap n : Nat} {d : Array Nat} (hA : HSwA w w h off cap n d) (hl : n <= 1000000001) {a b : Nat} (hab : a <= b) (hb : b <= n) :
  Calls Tryz.prog 145 #[.slice (some ⟨h, off, none⟩) n cap, .int .i64 (a : Int), .int .i64 (b : Int)] w (HSortEnd w h off cap n (Sort.insertionSort hltN d a b)) := by
 have H0 := Lib.hid hA
 clear hA
 obtain ⟨r, hd⟩ : ∃ r, r = Sort.insertionSort hltN d a b := ⟨_, rfl⟩
 rw [<- hd]
 have HD := Lib.hid hd
 clear hd
 go_enter Tryz.func145, Tryz.ntmps145
 go_wp2
 go_loopw [6] (fun v wr => HInsO w h off cap n a b r v wr) (fun v _ => b + 1 - (intOf v).toNat)
 case atStart => exact ⟨a + 1, d, by go_num, by omega, by omega, H0.out, HD.out.symm⟩
 case round =>
  obtain ⟨i, d1, rfl, hib, hai, hS, hU⟩ := hrel
  rename World => wr
  by_cases h1 : i < b
  ·have HU := Lib.hid hU
   have HS := Lib.hid hS
   clear hU hS
   obtain ⟨r1, hr1⟩ : ∃ r1, r1 = Sort.insInner hltN a i d1 := ⟨_, rfl⟩
   have HR1 := Lib.hid hr1
   clear hr1
   go_wp2
   go_loopw [7] (fun v wr2 => HInsI w h off cap n a i r1 v wr2) (fun v _ => (intOf v).toNat)
   case atStart => exact ⟨i, d1, rfl, by omega, by omega, HS.out, HR1.out.symm⟩
   case round =>
    obtain ⟨j, d2, rfl, haj, hji, hS2, hU2⟩ := hrel
    rename World => wr2
    have hjn : j < n := by omega
    have hOut : ∀ W, HSwA w W h off cap n d2 -> Sort.insInner hltN a j d2 = d2 -> HInsO w h off cap n a b r (.int .i64 ((i : Int) + 1)) W := by
     intro W hW e
     refine ⟨i + 1, d2, by go_num, by omega, by omega, hW, ?_⟩
     rw [<- HU.out, hinsO_go h1, <- HR1.out, <- hU2, e]
    have HO := Lib.hid hOut
    have HS2 := Lib.hid hS2
    have HU2 := Lib.hid hU2
    clear hOut hU2
    by_cases haj' : a < j
    ·have hg : decide ((a : Int) < (j : Int)) = true := by simpa using haj'
     have cj := hS2.cell (i := j) hjn
     have ck := hS2.cell (i := j - 1) (by omega)
     have fj := hS2.1.free j
     have fk := hS2.1.free (j - 1)
     have hk : (j : Int) - 1 = ((j - 1 : Nat) : Int) := by omega
     have hSW : ∀ q, HSwA w (((wr2.drewN q).setCell ⟨h, off + j, none⟩ (.int .u64 (d2[j - 1]! : Int))).setCell ⟨h, off + (j - 1), none⟩ (.int .u64 (d2[j]! : Int))) h off cap n (Sort.swp d2 j (j - 1)) := fun q => HSwA.swp2 (HS2.out.drew ⟨q, rfl⟩) hjn (by omega) ⟨0, rfl⟩
     have HSW := Lib.hid hSW
     have HK := Lib.hid hk
     clear hS2 hSW hk
     by_cases hc : d2[j]! < d2[j - 1]!
     ·have HR := Lib.hid (hinsI_go haj' hc)
      have hcc : decide (d2[j]! < d2[j - 1]!) = true := decide_eq_true hc
      clear hc
      generalize d2[j]! = x at *
      generalize d2[j - 1]! = y at *
      obtain ⟨v', hy'⟩ := cell?_setCell_some (w := wr2) (p := ⟨h, off + j, none⟩) (x := .int .u64 y) (q := ⟨h, off + (j - 1), none⟩) ck
      go_wp2
      go_quiet ((go_at_call 151; exact Calls.quiet_of_same (hcmpLess_any _ _ _)))
      go_wp2
      go_region
      all_goals (try go_wp2)
      all_goals go_roundw
      case rel => exact ⟨j - 1, _, by rw [HK.out], by omega, by omega, HSW.out _, by rw [<- HR.out, HU2.out]⟩
      case measure => simp [intOf]; omega
     ·have hcc : decide (d2[j]! < d2[j - 1]!) = false := decide_eq_false hc
      have HR := Lib.hid (hinsI_stop (a := a) (Or.inr hc))
      clear hc
      generalize d2[j]! = x at *
      generalize d2[j - 1]! = y at *
      go_wp2
      go_quiet ((go_at_call 151; exact Calls.quiet_of_same (hcmpLess_any _ _ _)))
      have HF := Lib.hid (HO.out _ (HS2.out.drew ⟨nq, rfl⟩) HR.out)
      go_wp2
      go_roundw
      case rel => exact HF.out
      case measure => simp [intOf]; omega
    ·have hg : decide ((a : Int) < (j : Int)) = false := by simpa using haj'
     have HR := Lib.hid (hinsI_stop (a := a) (d := d2) (Or.inl (show j <= a by omega)))
     clear hS2
     go_wp2
     go_quiet (fail)
     have HF := Lib.hid (HO.out _ (HS2.out.drew ⟨nq, rfl⟩) HR.out)
     go_wp2
     go_roundw
     case rel => exact HF.out
     case measure => simp [intOf]; omega
  ·have HE := Lib.hid (show HSortEnd w h off cap n r (.returned (.tuple #[])) wr from ⟨rfl, by rw [<- hU, hinsO_stop h1]; exact hS⟩)
   clear hU hS
   go_wp2
   go_end0
   exact HE.out
theorem hinsSort_none {w : World} {ad : Option Addr} {cap : Nat} :
  Calls Tryz.prog 145 #[.slice ad 0 cap, .int .i64 0, .int .i64 0] w fun e w' => e = .returned (.tuple #[]) /\ w = w' := by
 go_enter Tryz.func145, Tryz.ntmps145
 go_wp2
 go_loop [6] (fun v => v = .int .i64 1) (fun _ => 0)
 case atStart => rfl
 case round =>
  subst hrel
  go_wp2
  go_end0
  exact ⟨rfl, rfl⟩
def Sorts (w : World) (v : Value) (l : List Nat) (e : Ending) (w' : World) : Prop := e = .returned (.tuple #[]) /\ ∃ l', Adr w' v l' /\ l'.Perm l /\ l'.Pairwise (· <= ·) /\ But w w' (fun k => v.ownBlock = some k)
theorem sorts_of {w w' : World} {h off cap n : Nat} {d : Array Nat} (hn : d.size = n) {e : Ending} (hs : HSortEnd w h off cap n (Sort.insertionSort hltN d 0 n) e w') : Sorts w (.slice (some ⟨h, off, none⟩) n cap) d.toList e w' := by
 obtain ⟨he, ha, hsz, hb⟩ := hs
 obtain ⟨⟨_, _, hp⟩, hso⟩ := Sort.insertionSort_holds hswo_ltN d 0 n (Nat.zero_le _) (by omega)
 refine ⟨he, _, ha, ?_, ?_, hb.mono (fun k hk => by rw [hk]; rfl)⟩
 ·rw [Array.extract_eq_self_of_le (by omega), Array.extract_eq_self_of_le (by omega)] at hp
  exact hp
 ·rw [List.pairwise_iff_getElem]
  intro i j hi hj hij
  have := hso i j (Nat.zero_le _) hij (by simpa [hsz] using hj)
  simp only [hltN, decide_eq_false_iff_not] at this
  rw [<- gd_arr, <- gd_arr] at this
  have e1 : gd (Sort.insertionSort hltN d 0 n).toList i = (Sort.insertionSort hltN d 0 n).toList[i] := by unfold gd; rw [List.getD_eq_getElem?_getD, List.getElem?_eq_getElem hi]; rfl
  have e2 : gd (Sort.insertionSort hltN d 0 n).toList j = (Sort.insertionSort hltN d 0 n).toList[j] := by unfold gd; rw [List.getD_eq_getElem?_getD, List.getElem?_eq_getElem hj]; rfl
  omega
theorem pdq_few {w : World} {v : Value} {l : List Nat} (hA : Adr w v l) (hl : l.length <= 12) (k : Int) :
  Calls Tryz.prog 125 #[v, .int .i64 0, .int .i64 (l.length : Int), .int .i64 k] w (Sorts w v l) := by
 rcases Nat.eq_zero_or_pos l.length with h0 | h0
 ·have e0 : l = [] := List.eq_nil_of_length_eq_zero h0
  subst e0
  obtain ⟨ad, cap, hv⟩ : ∃ ad cap, v = .slice ad 0 cap := by
   rcases hA with ⟨rfl, _⟩ | ⟨b, off, cap, cur, rfl, _⟩
   ·exact ⟨none, 0, rfl⟩
   ·exact ⟨some ⟨b, off, none⟩, cap, rfl⟩
  have HE := Lib.hid (show Sorts w v [] (.returned (.tuple #[])) w from ⟨rfl, [], hA, List.Perm.refl _, List.Pairwise.nil, But.refl _ _⟩)
  subst hv
  clear hA hl h0
  show Calls Tryz.prog 125 #[.slice ad 0 cap, .int .i64 0, .int .i64 0, .int .i64 k] w _
  go_enter Tryz.func125, Tryz.ntmps125
  go_wp2
  go_loopw [1, 2, 3, 8, 9] (fun a b _ _ _ wr => a = .int .i64 0 /\ b = .int .i64 0 /\ w = wr) (fun _ _ _ _ _ _ => 0)
  case atStart => exact ⟨rfl, rfl, rfl⟩
  case round =>
   rename World => wr
   obtain ⟨rfl, rfl, rfl⟩ := hrel
   go_wp2_with fail
   refine hinsSort_none.mono ?_
   rintro e w1 ⟨rfl, rfl⟩
   go_wp2
   go_end0
   exact HE.out
 ·obtain ⟨h, off, cap, rfl, hc, hm⟩ := hA.pos h0
  obtain ⟨n, hn⟩ : ∃ n, n = l.length := ⟨_, rfl⟩
  rw [<- hn] at hA hl hc ⊢
  have HS := Lib.hid (show HSwA w w h off cap n l.toArray from ⟨hA, hn.symm, But.refl _ _⟩)
  have HI := Lib.hid (hinsSort_any HS.out (by omega) (Nat.zero_le n) (Nat.le_refl n))
  have hsz : l.toArray.size = n := hn.symm
  have HZ := Lib.hid hsz
  clear hA hn hc hm hsz h0
  go_enter Tryz.func125, Tryz.ntmps125
  go_wp2
  go_loopw [1, 2, 3, 8, 9] (fun a b _ _ _ wr => a = .int .i64 0 /\ b = .int .i64 (n : Int) /\ w = wr) (fun _ _ _ _ _ _ => 0)
  case atStart => exact ⟨rfl, rfl, rfl⟩
  case round =>
   rename World => wr
   obtain ⟨rfl, rfl, rfl⟩ := hrel
   go_wp2_with fail
   refine HI.out.mono ?_
   intro e w1 hs
   have HE := Lib.hid (sorts_of HZ.out hs)
   obtain rfl : e = .returned (.tuple #[]) := hs.1
   clear hs
   go_wp2
   go_end0
   exact HE.out
end Go.Proofs.YtkbklooocdfcfaaGreatDoor
