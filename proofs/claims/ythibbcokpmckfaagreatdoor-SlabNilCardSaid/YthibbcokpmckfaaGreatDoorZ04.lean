/- Texts of this claim, packed: HSort, HLay, HList, HComp, HFree, HPut. -/
import Derived.Test.YthibbcokpmckfaaGreatDoorZ03
import Derived.Sort.LotA
import Derived.Deep.RegionWith
import Derived.Shelf.SlicesE.IndexFunc
import Derived.Shelf.SlicesE.Compact
import Derived.Shelf.SlicesE.Clone
/- slices.Sort of at most twelve addresses: it leaves them rising, in their place; no other conditions. -/
namespace Go.Proofs.YthibbcokpmckfaaGreatDoor
open Go.RowKit
set_option linter.unusedVariables false
def ltN (x y : Nat) : Bool := decide (x < y)
theorem swo_ltN : Sort.SWO ltN := ⟨fun x => by simp [ltN], fun x y z h1 h2 => by simp only [ltN, decide_eq_true_eq] at *; omega, fun x y z h1 h2 => by simp only [ltN, decide_eq_false_iff_not] at *; omega⟩
theorem gd_arr (d : Array Nat) (i : Nat) : gd d.toList i = d[i]! := by
  unfold gd
  rw [List.getD_eq_getElem?_getD, Array.getElem?_toList, getElem!_def]
  cases d[i]? <;> rfl
theorem swp_arr (d : Array Nat) (i j : Nat) : (Sort.swp d i j).toList = swp d.toList i j := by
  unfold Sort.swp swp
  rw [Array.toList_setIfInBounds, Array.toList_setIfInBounds, gd_arr, gd_arr]
theorem insI_go {a j : Nat} {d : Array Nat} (hj : a < j) (hl : d[j]! < d[j - 1]!) : Sort.insInner ltN a j d = Sort.insInner ltN a (j - 1) (Sort.swp d j (j - 1)) := by
  obtain ⟨k, rfl⟩ : ∃ k, j = k + 1 := ⟨j - 1, by omega⟩
  rw [Sort.insInner, if_pos]
  · rfl
  · simp only [Nat.add_sub_cancel] at hl
    simp [ltN, hj, hl]
theorem insI_stop {a j : Nat} {d : Array Nat} (h : j ≤ a ∨ ¬ d[j]! < d[j - 1]!) : Sort.insInner ltN a j d = d := by
  cases j with
  | zero => rfl
  | succ k =>
    rw [Sort.insInner, if_neg]
    simp only [Nat.add_sub_cancel] at h
    rcases h with h | h
    · simp; omega
    · simp [ltN, h]
theorem insO_go {a b i : Nat} {d : Array Nat} (h : i < b) : Sort.insOuter ltN a b i d = Sort.insOuter ltN a b (i + 1) (Sort.insInner ltN a i d) := by rw [Sort.insOuter, if_pos h]
theorem insO_stop {a b i : Nat} {d : Array Nat} (h : ¬ i < b) : Sort.insOuter ltN a b i d = d := by rw [Sort.insOuter, if_neg h]

/-- A slice that reads as the array d; nothing else has turned. -/
def SwA (w0 w : World) (h off cap n : Nat) (d : Array Nat) : Prop := Adr w (.slice (some ⟨h, off, none⟩) n cap) d.toList ∧ d.size = n ∧ But w0 w (fun k => k = h)
theorem SwA.drew {w0 w w' : World} {h off cap n : Nat} {d : Array Nat} (s : SwA w0 w h off cap n d) (hb : Drew w w') : SwA w0 w' h off cap n d :=
  ⟨s.1.below hb.below, s.2.1, s.2.2.trans (But.of_below hb.below (fun k => k = h)) (fun k hk => .inl hk)⟩
theorem SwA.cell {w0 w : World} {h off cap n : Nat} {d : Array Nat} (s : SwA w0 w h off cap n d) {i : Nat} (hi : i < n) : w.cell? ⟨h, off + i, none⟩ = some (.int .u64 (d[i]! : Int)) := by
  have := s.1.cell (i := i) (by rw [Array.length_toList, s.2.1]; exact hi)
  rw [gd_arr] at this
  exact this
theorem SwA.swp2 {w0 w w' : World} {h off cap n : Nat} {d : Array Nat} (s : SwA w0 w h off cap n d) {i j : Nat} (hi : i < n) (hj : j < n) (hw : ∃ q, w' = (((w.setCell ⟨h, off + i, none⟩ (.int .u64 (d[j]! : Int))).setCell ⟨h, off + j, none⟩ (.int .u64 (d[i]! : Int))).drewN q)) : SwA w0 w' h off cap n (Sort.swp d i j) := by
  obtain ⟨q, rfl⟩ := hw
  have a1 := (s.1.set (i := i) (by rw [Array.length_toList, s.2.1]; exact hi) (d[j]!)).set (i := j) (by rw [List.length_set, Array.length_toList, s.2.1]; exact hj) (d[i]!)
  have e : (d.toList.set i d[j]!).set j d[i]! = (Sort.swp d i j).toList := by rw [swp_arr]; unfold swp; rw [gd_arr, gd_arr]
  rw [e] at a1
  have hb : But w (((w.setCell ⟨h, off + i, none⟩ (wv d[j]!)).setCell ⟨h, off + j, none⟩ (wv d[i]!)).drewN q) (fun k => k = h) := by
    have := But.set (But.set (But.refl w (fun k => k = h)) (p := ⟨h, off + i, none⟩) rfl (wv d[j]!)) (p := ⟨h, off + j, none⟩) rfl (wv d[i]!)
    exact this.trans (But.of_below (drewN_below _ q) (fun k => k = h)) (fun k hk => .inl hk)
  refine ⟨a1.below (drewN_below _ q), by simp [Sort.swp, s.2.1], s.2.2.trans hb (fun k hk => .inl hk)⟩
theorem cmpLess_any (x y : Nat) (w : World) : Calls Tryz.prog 122 #[.int .u64 (x : Int), .int .u64 (y : Int)] w fun e w' => e = .returned (.bool (decide (x < y))) ∧ w' = w := by
  go_enter Tryz.func122, Tryz.ntmps122
  go_wp2
  go_ret
  exact ⟨rfl, rfl⟩
def SortEnd (w0 : World) (h off cap n : Nat) (d : Array Nat) (e : Ending) (w' : World) : Prop := e = .returned (.tuple #[]) ∧ SwA w0 w' h off cap n d
def InsO (w0 : World) (h off cap n a b : Nat) (r : Array Nat) (v : Value) (wr : World) : Prop := ∃ (i : Nat) (d : Array Nat), v = .int .i64 (i : Int) ∧ i ≤ b + 1 ∧ a < i ∧ SwA w0 wr h off cap n d ∧ Sort.insOuter ltN a b i d = r
def InsI (w0 : World) (h off cap n a i : Nat) (r : Array Nat) (v : Value) (wr : World) : Prop := ∃ (j : Nat) (d : Array Nat), v = .int .i64 (j : Int) ∧ a ≤ j ∧ j ≤ i ∧ SwA w0 wr h off cap n d ∧ Sort.insInner ltN a j d = r
set_option maxRecDepth 100000 in
set_option maxHeartbeats 4000000 in
theorem insSort_any {w : World} {h off cap n : Nat} {d : Array Nat} (hA : SwA w w h off cap n d) (hl : n ≤ 1000000001) {a b : Nat} (hab : a ≤ b) (hb : b ≤ n) :
    Calls Tryz.prog 116 #[.slice (some ⟨h, off, none⟩) n cap, .int .i64 (a : Int), .int .i64 (b : Int)] w (SortEnd w h off cap n (Sort.insertionSort ltN d a b)) := by
  have H0 := Lib.hid hA
  clear hA
  obtain ⟨r, hd⟩ : ∃ r, r = Sort.insertionSort ltN d a b := ⟨_, rfl⟩
  rw [← hd]
  have HD := Lib.hid hd
  clear hd
  go_enter Tryz.func116, Tryz.ntmps116
  go_wp2
  go_loopw [6] (fun v wr => InsO w h off cap n a b r v wr) (fun v _ => b + 1 - (intOf v).toNat)
  case atStart => exact ⟨a + 1, d, by go_num, by omega, by omega, H0.out, HD.out.symm⟩
  case round =>
    obtain ⟨i, d1, rfl, hib, hai, hS, hU⟩ := hrel
    rename World => wr
    by_cases h1 : i < b
    · have HU := Lib.hid hU
      have HS := Lib.hid hS
      clear hU hS
      obtain ⟨r1, hr1⟩ : ∃ r1, r1 = Sort.insInner ltN a i d1 := ⟨_, rfl⟩
      have HR1 := Lib.hid hr1
      clear hr1
      go_wp2
      go_loopw [7] (fun v wr2 => InsI w h off cap n a i r1 v wr2) (fun v _ => (intOf v).toNat)
      case atStart => exact ⟨i, d1, rfl, by omega, by omega, HS.out, HR1.out.symm⟩
      case round =>
        obtain ⟨j, d2, rfl, haj, hji, hS2, hU2⟩ := hrel
        rename World => wr2
        have hjn : j < n := by omega
        have hOut : ∀ W, SwA w W h off cap n d2 → Sort.insInner ltN a j d2 = d2 → InsO w h off cap n a b r (.int .i64 ((i : Int) + 1)) W := by
          intro W hW e
          refine ⟨i + 1, d2, by go_num, by omega, by omega, hW, ?_⟩
          rw [← HU.out, insO_go h1, ← HR1.out, ← hU2, e]
        have HO := Lib.hid hOut
        have HS2 := Lib.hid hS2
        have HU2 := Lib.hid hU2
        clear hOut hU2
        by_cases haj' : a < j
        · have hg : decide ((a : Int) < (j : Int)) = true := by simpa using haj'
          have cj := hS2.cell (i := j) hjn
          have ck := hS2.cell (i := j - 1) (by omega)
          have fj := hS2.1.free j
          have fk := hS2.1.free (j - 1)
          have hk : (j : Int) - 1 = ((j - 1 : Nat) : Int) := by omega
          have hSW : ∀ q, SwA w (((wr2.drewN q).setCell ⟨h, off + j, none⟩ (.int .u64 (d2[j - 1]! : Int))).setCell ⟨h, off + (j - 1), none⟩ (.int .u64 (d2[j]! : Int))) h off cap n (Sort.swp d2 j (j - 1)) := fun q => SwA.swp2 (HS2.out.drew ⟨q, rfl⟩) hjn (by omega) ⟨0, rfl⟩
          have HSW := Lib.hid hSW
          have HK := Lib.hid hk
          clear hS2 hSW hk
          by_cases hc : d2[j]! < d2[j - 1]!
          · have HR := Lib.hid (insI_go haj' hc)
            have hcc : decide (d2[j]! < d2[j - 1]!) = true := decide_eq_true hc
            clear hc
            generalize d2[j]! = x at *
            generalize d2[j - 1]! = y at *
            obtain ⟨v', hy'⟩ := cell?_setCell_some (w := wr2) (p := ⟨h, off + j, none⟩) (x := .int .u64 y) (q := ⟨h, off + (j - 1), none⟩) ck
            go_wp2
            go_quiet ((go_at_call 122; exact Calls.quiet_of_same (cmpLess_any _ _ _)))
            go_wp2
            go_region
            all_goals (try go_wp2)
            all_goals go_roundw
            case rel => exact ⟨j - 1, _, by rw [HK.out], by omega, by omega, HSW.out _, by rw [← HR.out, HU2.out]⟩
            case measure => simp [intOf]; omega
          · have hcc : decide (d2[j]! < d2[j - 1]!) = false := decide_eq_false hc
            have HR := Lib.hid (insI_stop (a := a) (Or.inr hc))
            clear hc
            generalize d2[j]! = x at *
            generalize d2[j - 1]! = y at *
            go_wp2
            go_quiet ((go_at_call 122; exact Calls.quiet_of_same (cmpLess_any _ _ _)))
            have HF := Lib.hid (HO.out _ (HS2.out.drew ⟨nq, rfl⟩) HR.out)
            go_wp2
            go_roundw
            case rel => exact HF.out
            case measure => simp [intOf]; omega
        · have hg : decide ((a : Int) < (j : Int)) = false := by simpa using haj'
          have HR := Lib.hid (insI_stop (a := a) (d := d2) (Or.inl (show j ≤ a by omega)))
          clear hS2
          go_wp2
          go_quiet (fail)
          have HF := Lib.hid (HO.out _ (HS2.out.drew ⟨nq, rfl⟩) HR.out)
          go_wp2
          go_roundw
          case rel => exact HF.out
          case measure => simp [intOf]; omega
    · have HE := Lib.hid (show SortEnd w h off cap n r (.returned (.tuple #[])) wr from ⟨rfl, by rw [← hU, insO_stop h1]; exact hS⟩)
      clear hU hS
      go_wp2
      go_end0
      exact HE.out
set_option maxRecDepth 100000 in
set_option maxHeartbeats 1000000 in
theorem insSort_none {w : World} {ad : Option Addr} {cap : Nat} :
    Calls Tryz.prog 116 #[.slice ad 0 cap, .int .i64 0, .int .i64 0] w fun e w' => e = .returned (.tuple #[]) ∧ w = w' := by
  go_enter Tryz.func116, Tryz.ntmps116
  go_wp2
  go_loop [6] (fun v => v = .int .i64 1) (fun _ => 0)
  case atStart => rfl
  case round =>
    subst hrel
    go_wp2
    go_end0
    exact ⟨rfl, rfl⟩
/-- What a sort leaves: the same slice, what it read as in rising order, all else as it was. -/
def Sorts (w : World) (v : Value) (l : List Nat) (e : Ending) (w' : World) : Prop := e = .returned (.tuple #[]) ∧ ∃ l', Adr w' v l' ∧ l'.Perm l ∧ l'.Pairwise (· ≤ ·) ∧ But w w' (fun k => v.ownBlock = some k)
theorem sorts_of {w w' : World} {h off cap n : Nat} {d : Array Nat} (hn : d.size = n) {e : Ending} (hs : SortEnd w h off cap n (Sort.insertionSort ltN d 0 n) e w') : Sorts w (.slice (some ⟨h, off, none⟩) n cap) d.toList e w' := by
  obtain ⟨he, ha, hsz, hb⟩ := hs
  obtain ⟨⟨_, _, hp⟩, hso⟩ := Sort.insertionSort_holds swo_ltN d 0 n (Nat.zero_le _) (by omega)
  refine ⟨he, _, ha, ?_, ?_, hb.mono (fun k hk => by rw [hk]; rfl)⟩
  · rw [Array.extract_eq_self_of_le (by omega), Array.extract_eq_self_of_le (by omega)] at hp
    exact hp
  · rw [List.pairwise_iff_getElem]
    intro i j hi hj hij
    have := hso i j (Nat.zero_le _) hij (by simpa [hsz] using hj)
    simp only [ltN, decide_eq_false_iff_not] at this
    rw [← gd_arr, ← gd_arr] at this
    have e1 : gd (Sort.insertionSort ltN d 0 n).toList i = (Sort.insertionSort ltN d 0 n).toList[i] := by unfold gd; rw [List.getD_eq_getElem?_getD, List.getElem?_eq_getElem hi]; rfl
    have e2 : gd (Sort.insertionSort ltN d 0 n).toList j = (Sort.insertionSort ltN d 0 n).toList[j] := by unfold gd; rw [List.getD_eq_getElem?_getD, List.getElem?_eq_getElem hj]; rfl
    omega
set_option maxRecDepth 100000 in
set_option maxHeartbeats 2000000 in
/-- pdqsortOrdered of at most twelve. -/
theorem pdq_few {w : World} {v : Value} {l : List Nat} (hA : Adr w v l) (hl : l.length ≤ 12) (k : Int) :
    Calls Tryz.prog 107 #[v, .int .i64 0, .int .i64 (l.length : Int), .int .i64 k] w (Sorts w v l) := by
  rcases Nat.eq_zero_or_pos l.length with h0 | h0
  · have e0 : l = [] := List.eq_nil_of_length_eq_zero h0
    subst e0
    obtain ⟨ad, cap, hv⟩ : ∃ ad cap, v = .slice ad 0 cap := by
      rcases hA with ⟨rfl, _⟩ | ⟨b, off, cap, cur, rfl, _⟩
      · exact ⟨none, 0, rfl⟩
      · exact ⟨some ⟨b, off, none⟩, cap, rfl⟩
    have HE := Lib.hid (show Sorts w v [] (.returned (.tuple #[])) w from ⟨rfl, [], hA, List.Perm.refl _, List.Pairwise.nil, But.refl _ _⟩)
    subst hv
    clear hA hl h0
    show Calls Tryz.prog 107 #[.slice ad 0 cap, .int .i64 0, .int .i64 0, .int .i64 k] w _
    go_enter Tryz.func107, Tryz.ntmps107
    go_wp2
    go_loopw [1, 2, 3, 8, 9] (fun a b _ _ _ wr => a = .int .i64 0 ∧ b = .int .i64 0 ∧ w = wr) (fun _ _ _ _ _ _ => 0)
    case atStart => exact ⟨rfl, rfl, rfl⟩
    case round =>
      rename World => wr
      obtain ⟨rfl, rfl, rfl⟩ := hrel
      go_wp2_with fail
      refine insSort_none.mono ?_
      rintro e w1 ⟨rfl, rfl⟩
      go_wp2
      go_end0
      exact HE.out
  · obtain ⟨h, off, cap, rfl, hc, hm⟩ := hA.pos h0
    obtain ⟨n, hn⟩ : ∃ n, n = l.length := ⟨_, rfl⟩
    rw [← hn] at hA hl hc ⊢
    have HS := Lib.hid (show SwA w w h off cap n l.toArray from ⟨hA, hn.symm, But.refl _ _⟩)
    have HI := Lib.hid (insSort_any HS.out (by omega) (Nat.zero_le n) (Nat.le_refl n))
    have hsz : l.toArray.size = n := hn.symm
    have HZ := Lib.hid hsz
    clear hA hn hc hm hsz h0
    go_enter Tryz.func107, Tryz.ntmps107
    go_wp2
    go_loopw [1, 2, 3, 8, 9] (fun a b _ _ _ wr => a = .int .i64 0 ∧ b = .int .i64 (n : Int) ∧ w = wr) (fun _ _ _ _ _ _ => 0)
    case atStart => exact ⟨rfl, rfl, rfl⟩
    case round =>
      rename World => wr
      obtain ⟨rfl, rfl, rfl⟩ := hrel
      go_wp2_with fail
      refine HI.out.mono ?_
      intro e w1 hs
      have HE := Lib.hid (sorts_of HZ.out hs)
      obtain rfl : e = .returned (.tuple #[]) := hs.1
      clear hs
      go_wp2
      go_end0
      exact HE.out
end Go.Proofs.YthibbcokpmckfaaGreatDoor
/- The shelf's contracts of slices.Clone, Compact, IndexFunc at lists of addresses, laid at this program: its numbers, and the kernel's comparison; no conditions. -/
namespace Go.Proofs.YthibbcokpmckfaaGreatDoor
open Go.Shelf
def cloneA_ren : Go.Shelf.Ren := ⟨fun | 41 => 80 | n => n, fun | 22 => 60 | 23 => 24 | 4 => 4 | n => n, fun | n => n⟩
theorem cloneA : Go.Proofs.SlLaysE0.n41 Tryz.prog cloneA_ren := {
  mixed := by kernel_rfl
  f41 := ⟨Tryz.f80.name, by decide, Tryz.func80.trans (congrArg some (by kernel_rfl))⟩
  t4 := Tryz.underlying4
  a4 := Tryz.isAgg4
  z4 := Tryz.sizeOf4
  v4 := Tryz.zeroValue4
  t22 := Tryz.underlying60
  a22 := Tryz.isAgg60
  z22 := Tryz.sizeOf60
  v22 := Tryz.zeroValue60 }
def compactA_ren : Go.Shelf.Ren := ⟨fun | 43 => 82 | n => n, fun | 22 => 60 | 23 => 24 | 3 => 3 | 4 => 4 | 0 => 0 | n => n, fun | n => n⟩
theorem compactA : Go.Proofs.SlLaysE.n43 Tryz.prog compactA_ren := {
  mixed := by kernel_rfl
  f43 := ⟨Tryz.f82.name, by decide, Tryz.func82.trans (congrArg some (by kernel_rfl))⟩
  t0 := Tryz.underlying0
  a0 := Tryz.isAgg0
  z0 := Tryz.sizeOf0
  v0 := Tryz.zeroValue0
  t3 := Tryz.underlying3
  a3 := Tryz.isAgg3
  z3 := Tryz.sizeOf3
  v3 := Tryz.zeroValue3
  t4 := Tryz.underlying4
  a4 := Tryz.isAgg4
  z4 := Tryz.sizeOf4
  v4 := Tryz.zeroValue4
  t22 := Tryz.underlying60
  a22 := Tryz.isAgg60
  z22 := Tryz.sizeOf60
  v22 := Tryz.zeroValue60
  a23 := Tryz.isAgg24
  z23 := Tryz.sizeOf24 }
def indexF_ren : Go.Shelf.Ren := ⟨fun | 6 => 141 | n => n, fun | 22 => 151 | 23 => 24 | 25 => 164 | 3 => 3 | 0 => 0 | 4 => 4 | n => n, fun | n => n⟩
theorem indexF : Go.Proofs.SlLaysH.n6 Tryz.prog indexF_ren := {
  mixed := by kernel_rfl
  f6 := ⟨Tryz.f141.name, by decide, Tryz.func141.trans (congrArg some (by kernel_rfl))⟩
  t0 := Tryz.underlying0
  a0 := Tryz.isAgg0
  z0 := Tryz.sizeOf0
  v0 := Tryz.zeroValue0
  t3 := Tryz.underlying3
  a3 := Tryz.isAgg3
  z3 := Tryz.sizeOf3
  v3 := Tryz.zeroValue3
  t4 := Tryz.underlying4
  a4 := Tryz.isAgg4
  z4 := Tryz.sizeOf4
  v4 := Tryz.zeroValue4
  t22 := Tryz.underlying151
  a22 := Tryz.isAgg151
  z22 := Tryz.sizeOf151
  v22 := Tryz.zeroValue151
  a23 := Tryz.isAgg24
  z23 := Tryz.sizeOf24
  t25 := Tryz.underlying164
  a25 := Tryz.isAgg164
  z25 := Tryz.sizeOf164
  v25 := Tryz.zeroValue164 }
end Go.Proofs.YthibbcokpmckfaaGreatDoor
/- slices.Sort of at most twelve addresses, slices.Clone, Compact and IndexFunc of addresses: what each leaves and answers; at most 10^9 addresses. -/
namespace Go.Proofs.YthibbcokpmckfaaGreatDoor
open Go.RowKit
set_option linter.unusedVariables false
theorem Adr.shape {w : World} {v : Value} {l : List Nat} (hA : Adr w v l) : ∃ ad cap, v = .slice ad l.length cap := by
  rcases hA with ⟨rfl, rfl⟩ | ⟨b, off, cap, cur, rfl, _⟩
  · exact ⟨none, 0, rfl⟩
  · exact ⟨some ⟨b, off, none⟩, cap, rfl⟩
set_option maxRecDepth 100000 in
set_option maxHeartbeats 1000000 in
theorem sortA_few {w : World} {v : Value} {l : List Nat} (hA : Adr w v l) (hl : l.length ≤ 12) : Calls Tryz.prog 81 #[v] w (Sorts w v l) := by
  obtain ⟨ad, cap, rfl⟩ := hA.shape
  have HP := Lib.hid (pdq_few hA hl)
  obtain ⟨n, hn⟩ : ∃ n, n = l.length := ⟨_, rfl⟩
  rw [← hn] at HP hl ⊢
  have HB := Lib.hid (Any.bits_Len bitsLenL (n : Int) w (by omega) (by omega))
  clear hn hA
  go_enter Tryz.func81, Tryz.ntmps81
  go_wp2_with fail
  refine HB.out.mono ?_
  rintro e w1 ⟨rfl, rfl⟩
  go_wp2_with fail
  refine (HP.out _).mono ?_
  intro e w2 hs
  have HE := Lib.hid hs
  obtain rfl : e = .returned (.tuple #[]) := hs.1
  clear hs
  go_wp2
  go_end0
  exact HE.out
/-- What a clone answers: a slice in new memory that reads the same. -/
def Cloned (w : World) (l : List Nat) (e : Ending) (w' : World) : Prop := ∃ v, e = .returned v ∧ Adr w' v l ∧ (∀ k, v.ownBlock = some k → w.heap.size ≤ k) ∧ Below w.heap.size w w'
theorem clone_of {f : FuncId} (h0 : ∀ (n c : Nat) (w : World), Calls Tryz.prog f #[.slice none n c] w fun e w' => e = .returned (.slice none 0 0) ∧ w' = w)
    (h1 : ∀ (b off n c : Nat) (news : List Value) (w : World) (hl : news.length = n * 1) (hn : n ≤ maxLen) (hbig : n * 8 ≤ 140737488355328) (hc : ∀ j u, news[j]? = some u → w.cell? ⟨b, off + j, none⟩ = some u) (h1 : ∀ u ∈ news, u.oneCell' = true),
      Calls Tryz.prog f #[.slice (some ⟨b, off, none⟩) n c] w fun e w' => ∃ v', e = .returned v' ∧ w'.ownsRow w.heap.size 24 1 v' n news ∧ v' ≠ .slice none 0 0 ∧ Below w.heap.size w w')
    {w : World} {v : Value} {l : List Nat} (hA : Adr w v l) (hl : l.length ≤ 1000000001) : Calls Tryz.prog f #[v] w (Cloned w l) := by
  rcases hA with ⟨rfl, rfl⟩ | ⟨b, off, cap, cur, rfl, hr, hlc, hcm, hfit, htk⟩
  · refine (h0 0 0 w).mono ?_
    rintro e w' ⟨rfl, rfl⟩
    exact ⟨_, rfl, .inl ⟨rfl, rfl⟩, (fun k hk => by cases hk), Below.refl _ _⟩
  · refine (h1 b off l.length cap (l.map wv) w (by simp) (by unfold maxLen; omega) (by omega) ?_ (wv_ones l)).mono ?_
    · intro j u hu
      have hj : j < l.length := by have := (List.getElem?_eq_some_iff.1 hu).1; simpa using this
      rw [hr.cell, ← Array.getElem?_toList, drop_get htk hj hj, ← hu, List.getElem?_map, gd_eq hj]
      rfl
    · rintro e w' ⟨v', rfl, ho, _, hb⟩
      obtain ⟨ha, hk⟩ := Adr.of_own ho
      exact ⟨v', rfl, ha, hk, hb⟩
theorem sizeA (w : World) : (Go.sizeOf 24).run Tryz.prog w = .ok 1 w := by kernel_rfl
theorem cloneA_any {w : World} {v : Value} {l : List Nat} (hA : Adr w v l) (hl : l.length ≤ 1000000001) : Calls Tryz.prog 80 #[v] w (Cloned w l) := by
  obtain ⟨i0, hi, hz0, hz1, hz2⟩ := info_parts infoA
  exact clone_of (fun n c w => AnyE.slices_Clone_nil cloneA n c w) (fun b off n c news w hl hn hbig hc h1 => AnyE.slices_Clone cloneA i0 _ 1 8 hi hz0 hz1 hz2 rfl (by decide) sizeA b off n c news w hl hn hbig hc h1) hA hl
end Go.Proofs.YthibbcokpmckfaaGreatDoor
/- slices.Compact of rising addresses: each stands once; slices.IndexFunc by one address: where it stands; at most 10^9 addresses. -/
namespace Go.Proofs.YthibbcokpmckfaaGreatDoor
open Go.RowKit Go.Shelf
set_option linter.unusedVariables false
def ddp (l : List Nat) : List Nat := Lib.compactUpTo l.toArray l.length
theorem arr_gd (l : List Nat) (i : Nat) : l.toArray[i]! = gd l i := by rw [← gd_arr]
theorem ddp_upto {l : List Nat} (hs : l.Pairwise (· ≤ ·)) (m : Nat) (hm : m ≤ l.length) :
    (Lib.compactUpTo l.toArray m).Pairwise (· < ·) ∧ (∀ x, x ∈ Lib.compactUpTo l.toArray m ↔ ∃ j, j < m ∧ gd l j = x) ∧ (Lib.compactUpTo l.toArray m).length ≤ m := by
  induction m with
  | zero => exact ⟨by simp [Lib.compactUpTo], by simp [Lib.compactUpTo], by simp [Lib.compactUpTo]⟩
  | succ m ih =>
    obtain ⟨h1, h2, h3⟩ := ih (by omega)
    have hle : ∀ i j, i < j → j < l.length → gd l i ≤ gd l j := by
      intro i j hij hj
      have := List.pairwise_iff_getElem.1 hs i j (by omega) hj hij
      have e1 : gd l i = l[i] := by simp [gd, show i < l.length by omega]
      have e2 : gd l j = l[j] := by simp [gd, hj]
      omega
    rw [Lib.compactUpTo_succ, arr_gd]
    by_cases hk : Lib.keeps l.toArray m = true
    · rw [if_pos hk]
      unfold Lib.keeps at hk
      rw [arr_gd, arr_gd] at hk
      have hk' := of_decide_eq_true hk
      refine ⟨?_, fun x => ?_, by simp; omega⟩
      · rw [List.pairwise_append]
        refine ⟨h1, by simp, fun x hx y hy => ?_⟩
        obtain ⟨j, hj, rfl⟩ := (h2 x).1 hx
        simp at hy
        subst hy
        rcases hk' with h0 | hne
        · omega
        · have := hle (m - 1) m (by omega) (by omega)
          by_cases e : j = m - 1
          · subst e; omega
          · have := hle j (m - 1) (by omega) (by omega); omega
      · rw [List.mem_append, h2]
        constructor
        · rintro (⟨j, hj, rfl⟩ | hx)
          · exact ⟨j, by omega, rfl⟩
          · simp at hx; exact ⟨m, by omega, hx.symm⟩
        · rintro ⟨j, hj, rfl⟩
          by_cases e : j = m
          · subst e; right; simp
          · left; exact ⟨j, by omega, rfl⟩
    · rw [if_neg hk, List.append_nil]
      unfold Lib.keeps at hk
      rw [arr_gd, arr_gd] at hk
      have hk' : ¬ (m = 0 ∨ gd l m ≠ gd l (m - 1)) := fun h => hk (decide_eq_true h)
      have hm0 : m ≠ 0 := fun h => hk' (.inl h)
      have heq : gd l m = gd l (m - 1) := Classical.byContradiction fun h => hk' (.inr h)
      refine ⟨h1, fun x => ?_, by omega⟩
      rw [h2]
      constructor
      · rintro ⟨j, hj, rfl⟩; exact ⟨j, by omega, rfl⟩
      · rintro ⟨j, hj, rfl⟩
        by_cases e : j = m
        · subst e; exact ⟨j - 1, by omega, heq.symm⟩
        · exact ⟨j, by omega, rfl⟩
theorem mem_gd {l : List Nat} {x : Nat} : x ∈ l ↔ ∃ j, j < l.length ∧ gd l j = x := by
  constructor
  · intro h
    obtain ⟨j, hj, e⟩ := List.getElem_of_mem h
    exact ⟨j, hj, by rw [← e]; simp [gd, hj]⟩
  · rintro ⟨j, hj, rfl⟩; exact gd_mem hj
theorem ddp_of {l : List Nat} (hs : l.Pairwise (· ≤ ·)) : (ddp l).Pairwise (· < ·) ∧ (∀ x, x ∈ ddp l ↔ x ∈ l) ∧ (ddp l).length ≤ l.length := by
  obtain ⟨h1, h2, h3⟩ := ddp_upto hs l.length (Nat.le_refl _)
  exact ⟨h1, fun x => by rw [mem_gd (l := l)]; exact h2 x, h3⟩
theorem dec_nat (x y : Nat) : decide ((x : Int) = (y : Int)) = decide (x = y) := by rw [Bool.eq_iff_iff]; simp only [decide_eq_true_eq]; omega
theorem eqA : EqlAt Tryz.prog 24 wv (fun x y => decide (x = y)) := ⟨fun x y w => by
  have := (EqlAt.intD Tryz.prog 24 .u64).1 (x : Int) (y : Int) w
  simp only [dec_nat] at this
  exact this, fun op a b x y w => (EqlAt.intD Tryz.prog 24 .u64).2 op a b (x : Int) (y : Int) w⟩
theorem neA : NeqAt Tryz.prog 24 wv (fun x y => decide (x = y)) := ⟨fun x y w => by
  have := (NeqAt.intD Tryz.prog 24 .u64).1 (x : Int) (y : Int) w
  simp only [dec_nat] at this
  exact this, fun op a b x y w => (EqlAt.intD Tryz.prog 24 .u64).2 op a b (x : Int) (y : Int) w⟩
theorem Adr.holds {w : World} {b off cap : Nat} {l : List Nat} (hA : Adr w (.slice (some ⟨b, off, none⟩) l.length cap) l) : Sort.Holds wv w b off l.toArray := by
  intro j hj
  have hj' : j < l.length := by simpa using hj
  refine ⟨?_, hA.free j⟩
  rw [hA.cell hj', arr_gd]
theorem row_put {w : World} {b off : Nat} {t : TypeId} {cur : Array Value} (h : Row w b t cur) (d : Array Nat) (q : Nat) : Row (Sort.putRow wv (Sort.ahead w q) b off d) b t (Sort.putCells wv off d cur) := by
  have h' : w.heap[b]? = some (.cells cur t (0, 0)) := h
  unfold Row Sort.putRow Sort.mapBlock Sort.ahead
  simp only [Array.getElem?_modify, if_true, h', Option.map_some, Sort.onCells]
theorem but_put (w : World) (b off : Nat) (d : Array Nat) (q : Nat) : But w (Sort.putRow wv (Sort.ahead w q) b off d) (fun k => k = b) := by
  refine ⟨rfl, rfl, rfl, ?_, fun k hk hn => ?_⟩
  · unfold Sort.putRow Sort.mapBlock Sort.ahead; simp
  · unfold Sort.putRow Sort.mapBlock Sort.ahead
    simp only [Array.getElem?_modify]
    rw [if_neg (fun e => hn e.symm)]
theorem adr_put {w : World} {b off cap n : Nat} {l : List Nat} (hA : Adr w (.slice (some ⟨b, off, none⟩) n cap) l) (d : Array Nat) (hd : d.size = l.length) (q m : Nat) (hm : m ≤ l.length) :
    Adr (Sort.putRow wv (Sort.ahead w q) b off d) (.slice (some ⟨b, off, none⟩) m cap) (d.toList.take m) := by
  rcases hA with ⟨h0, _⟩ | ⟨b', o', c, cur, e, hr, h1, h2, h3, ht⟩
  · cases h0
  · cases e
    have hl : (d.toList.take m).length = m := by simp; omega
    refine .inr ⟨b, off, cap, _, by rw [hl], row_put hr d q, by omega, h2, by simp [Sort.putCells]; exact h3, ?_⟩
    rw [hl]
    apply List.ext_getElem?
    intro k
    rw [List.getElem?_take]
    by_cases hk : k < m
    · rw [if_pos hk, List.getElem?_drop, Array.getElem?_toList, List.getElem?_map, List.getElem?_take, if_pos hk, Array.getElem?_toList]
      unfold Sort.putCells
      rw [Array.getElem?_mapIdx, Array.getElem?_eq_getElem (by omega)]
      simp only [Option.map_some]
      rw [if_pos ⟨by omega, by omega⟩, show off + k - off = k by omega, Array.getElem?_eq_getElem (show k < d.size by omega), getElem!_pos d k (by omega)]
      rfl
    · rw [if_neg hk, List.getElem?_eq_none (by simp; omega)]
/-- What Compact leaves: the slice's front, that reads as each once; all else as it was. -/
def Compacts (w : World) (v : Value) (l : List Nat) (e : Ending) (w' : World) : Prop := ∃ v', e = .returned v' ∧ Adr w' v' (ddp l) ∧ (∀ k, v'.ownBlock = some k → v.ownBlock = some k) ∧ But w w' (fun k => v.ownBlock = some k)
set_option maxHeartbeats 400000 in
theorem compact_few {ad : Option Addr} {n cap : Nat} (w : World) (hn : n < 2) : Calls Tryz.prog 82 #[.slice ad n cap] w fun e w' => e = .returned (.slice ad n cap) ∧ w = w' := by
  go_enter Tryz.func82, Tryz.ntmps82
  go_wp2
  go_ret
  exact ⟨rfl, rfl⟩
theorem ddp_few {l : List Nat} (h : l.length < 2) : ddp l = l := by
  match l, h with
  | [], _ => rfl
  | [a], _ => rfl
theorem compact_any {w : World} {v : Value} {l : List Nat} (hA : Adr w v l) (hl : l.length ≤ 1000000001) : Calls Tryz.prog 82 #[v] w (Compacts w v l) := by
  by_cases h2 : l.length < 2
  · obtain ⟨ad, cap, rfl⟩ := hA.shape
    refine (compact_few w h2).mono ?_
    rintro e w' ⟨rfl, rfl⟩
    exact ⟨_, rfl, by rw [ddp_few h2]; exact hA, fun k hk => hk, But.refl _ _⟩
  · obtain ⟨b, off, cap, rfl, hc, hm⟩ := hA.pos (by omega)
    have h := AnyE.slices_Compact compactA wv (fun _ => rfl) eqA neA 0 (fun w => by kernel_rfl) b off cap l.toArray w hA.holds (by simp; omega) (by simpa using hc)
    refine h.mono ?_
    rintro e w' ⟨rfl, q, rfl⟩
    have hle : (ddp l).length ≤ l.length := by
      unfold ddp Lib.compactUpTo
      rw [List.length_map]
      exact Nat.le_trans (List.length_filter_le _ _) (by simp)
    have hle' : (Lib.compactUpTo l.toArray l.toArray.size).length ≤ l.length := hle
    refine ⟨_, rfl, ?_, fun k hk => hk, (but_put w b off _ q).mono (fun k hk => by rw [hk]; rfl)⟩
    have := adr_put hA (Lib.compactUpTo l.toArray l.toArray.size ++ List.replicate (l.toArray.size - (Lib.compactUpTo l.toArray l.toArray.size).length) 0).toArray (by simp; simp at hle'; omega) q (Lib.compactUpTo l.toArray l.toArray.size).length hle'
    rw [List.take_left] at this
    exact this
/-- The closure of place: is it that address? -/
theorem place1_pred (a : Nat) (B : Nat) (w : World) (hB : B < w.heap.size) (hcell : w.cell? ⟨B, 0, none⟩ = some (wv a)) :
    PredAt Tryz.prog 142 #[.pointer (some ⟨B, 0, none⟩)] wv (fun x => decide (x = a)) w := fun W x hb => by
  have hc : W.cell? ⟨B, 0, none⟩ = some (wv a) := (hb.cell (p := ⟨B, 0, none⟩) hB).trans hcell
  show Calls Tryz.prog 142 #[wv x, .pointer (some ⟨B, 0, none⟩)] W fun e w' => e = .returned (.bool (decide (x = a))) ∧ ∃ q, w' = W.drewN q
  unfold wv at *
  have hb : ((x : Int) == (a : Int)) = decide (x = a) := by rw [Bool.eq_iff_iff]; simp only [beq_iff_eq, decide_eq_true_eq]; omega
  generalize decide (x = a) = bb at hb ⊢
  go_enter Tryz.func142, Tryz.ntmps142
  go_wp2
  go_ret
  exact ⟨rfl, 0, rfl⟩
/-- Where it stands first; -1. -/
def idx (l : List Nat) (a : Nat) : Int := if a ∈ l then (l.idxOf a : Int) else -1
theorem idxFrom (l : List Nat) (a i : Nat) : Lib.idxByFrom (fun _ y => decide (y = a)) (default : Nat) l i = if a ∈ l then ((l.idxOf a + i : Nat) : Int) else -1 := by
  induction l generalizing i with
  | nil => simp [Lib.idxByFrom]
  | cons y r ih =>
    rw [Lib.idxByFrom, ih]
    by_cases e : y = a
    · subst e; simp
    · have e' : ¬ a = y := fun h => e h.symm
      by_cases hm : a ∈ r
      · rw [List.idxOf_cons, show (y == a) = false from by simpa using e, cond_false, if_neg (by simpa using e), if_pos hm, if_pos (List.mem_cons_of_mem _ hm)]
        omega
      · simp [e, e', hm]
theorem idxBy_idx (l : List Nat) (a : Nat) : Lib.idxBy (fun _ y => decide (y = a)) l default = idx l a := by
  unfold Lib.idxBy idx
  rw [idxFrom]
  rfl
theorem indexF_any {w : World} {v : Value} {l : List Nat} (hA : Adr w v l) (hl : l.length ≤ 1000000001) {B a : Nat} (hB : B < w.heap.size) (hcell : w.cell? ⟨B, 0, none⟩ = some (wv a)) :
    Calls Tryz.prog 141 #[v, .func (.func 142) #[] #[.pointer (some ⟨B, 0, none⟩)]] w fun e w' => e = .returned (.int .i64 (idx l a)) ∧ Drew w w' := by
  have eg : ∀ args w, (callFunc 142 args).run Tryz.prog w = .ok (.enter 142 args) w := enters_of Tryz.func142 (by kernel_rfl) rfl
  rcases Nat.eq_zero_or_pos l.length with h0 | h0
  · have e0 : l = [] := List.eq_nil_of_length_eq_zero h0
    subst e0
    obtain ⟨ad, cap, rfl⟩ := hA.shape
    refine (AnyE.slices_IndexFunc_empty indexF ad cap _ w).mono ?_
    rintro e w' ⟨rfl, rfl⟩
    exact ⟨rfl, 0, rfl⟩
  · obtain ⟨b, off, cap, rfl, hc, hm⟩ := hA.pos h0
    refine (AnyE.slices_IndexFunc indexF wv (fun x => decide (x = a)) 142 #[.pointer (some ⟨B, 0, none⟩)] eg b off l.length cap l w (place1_pred a B w hB hcell) (Nat.le_refl _) (by omega) ?_).mono ?_
    · intro j hj
      rw [hA.cell hj]
      simp [gd, hj]
    · rintro e w' ⟨rfl, q, rfl⟩
      rw [List.take_length, idxBy_idx]
      exact ⟨rfl, q, rfl⟩
end Go.Proofs.YthibbcokpmckfaaGreatDoor
/- The set's functions: what each answers, and which set it leaves; for sets of at most 10^9 addresses (All, NewFree: of at most twelve). -/
namespace Go.Proofs.YthibbcokpmckfaaGreatDoor
open Go.RowKit
set_option linter.unusedVariables false
/-- g is a set of just the addresses s, in whatever order. -/
def SetAt (w : World) (g : Nat) (s : List Nat) (v : Value) : Prop := ∃ l, FreeAt w g v l ∧ HeapP l l.length ∧ l.Perm s
theorem SetAt.keep {w w' : World} {g : Nat} {v : Value} {s : List Nat} {fp : Nat → Prop} (h : SetAt w g s v) (hb : But w w' fp) (hn : ∀ k, ffp g v k → ¬ fp k) : SetAt w' g s v := by
  obtain ⟨l, hF, h⟩ := h
  exact ⟨l, hF.keep hb hn, h⟩
theorem SetAt.below {w w' : World} {g : Nat} {v : Value} {s : List Nat} (h : SetAt w g s v) (hb : Below w.heap.size w w') : SetAt w' g s v := h.keep (But.of_below hb (fun _ => False)) (fun _ _ h => h)
theorem SetAt.perm {w : World} {g : Nat} {v : Value} {s s' : List Nat} (h : SetAt w g s v) (hp : s.Perm s') : SetAt w g s' v := by
  obtain ⟨l, hF, hh, hs⟩ := h
  exact ⟨l, hF, hh, hs.trans hp⟩
theorem SetAt.fp {w : World} {g : Nat} {v : Value} {s : List Nat} (h : SetAt w g s v) {k : Nat} (hk : ffp g v k) : k < w.heap.size := by
  obtain ⟨l, hF, _⟩ := h
  rcases hk with rfl | hk
  · exact hF.1.lt
  · exact hF.2.1.lt hk
theorem idx_yes {l : List Nat} {a : Nat} (h : a ∈ l) : ∃ k : Nat, idx l a = (k : Int) ∧ k < l.length ∧ gd l k = a := by
  have hk := List.idxOf_lt_length_iff.2 h
  refine ⟨l.idxOf a, if_pos h, hk, ?_⟩
  have : l[l.idxOf a] = a := List.getElem_idxOf hk
  rw [show gd l (l.idxOf a) = l[l.idxOf a] by simp [gd, hk]]
  exact this
theorem idx_no {l : List Nat} {a : Nat} (h : a ∉ l) : idx l a = -1 := if_neg h
set_option maxRecDepth 100000 in
set_option maxHeartbeats 1000000 in
theorem place_any {w : World} {g : Nat} {v : Value} {l : List Nat} (hF : FreeAt w g v l) (hl : l.length ≤ 1000000000) (a : Nat) :
    Calls Tryz.prog 129 #[.pointer (some ⟨g, 0, none⟩), wv a] w fun e w' => e = .returned (.tuple #[.int .i64 (idx l a), .bool (decide (a ∈ l))]) ∧ Below w.heap.size w w' := by
  have c0 := hF.cell
  have HI := Lib.hid (indexF_any (B := w.heap.size) (a := a) (hF.below (alloc_below w (.cells #[wv a] 24))).2.1 (by omega) (by simp) (by simp))
  have c1 : (w.alloc (.cells #[.int .u64 (a : Int)] 24)).cell? ⟨g, 0, none⟩ = some v := (hF.below (alloc_below w (.cells #[.int .u64 (a : Int)] 24))).cell
  unfold wv at HI ⊢
  by_cases ha : a ∈ l
  · obtain ⟨k, hk, hkl, _⟩ := idx_yes ha
    rw [hk] at HI ⊢
    rw [decide_eq_true ha]
    clear hk ha hF hl hkl
    go_enter Tryz.func129, Tryz.ntmps129
    go_wp2_with fail
    refine HI.out.mono ?_
    rintro e w1 ⟨rfl, hd⟩
    have HD := Lib.hid hd.below
    clear hd
    go_wp2
    go_ret2
    exact ⟨rfl, Below.and (alloc_below _ _) HD.out⟩
  · rw [idx_no ha] at HI ⊢
    rw [decide_eq_false ha]
    clear ha hF hl
    go_enter Tryz.func129, Tryz.ntmps129
    go_wp2_with fail
    refine HI.out.mono ?_
    rintro e w1 ⟨rfl, hd⟩
    have HD := Lib.hid hd.below
    clear hd
    go_wp2
    go_ret2
    exact ⟨rfl, Below.and (alloc_below _ _) HD.out⟩
set_option maxHeartbeats 400000 in
theorem place_nil (a : Nat) (w : World) : Calls Tryz.prog 129 #[.pointer none, wv a] w fun e w' => e = .returned (.tuple #[.int .i64 0, .bool false]) ∧ Below w.heap.size w w' := by
  unfold wv
  go_enter Tryz.func129, Tryz.ntmps129
  go_wp2
  go_ret2
  exact ⟨rfl, alloc_below _ _⟩
theorem SetAt.place {w : World} {g : Nat} {v : Value} {s : List Nat} (hS : SetAt w g s v) (hl : s.length ≤ 1000000000) (a : Nat) : ∃ l, FreeAt w g v l ∧ HeapP l l.length ∧ l.Perm s ∧ l.length = s.length ∧ decide (a ∈ l) = decide (a ∈ s) := by
  obtain ⟨l, hF, hH, hp⟩ := hS
  exact ⟨l, hF, hH, hp, hp.length_eq, by rw [Bool.eq_iff_iff]; simp [hp.mem_iff]⟩
set_option maxRecDepth 100000 in
theorem has_any {w : World} {g : Nat} {v : Value} {s : List Nat} (hS : SetAt w g s v) (hl : s.length ≤ 1000000000) (a : Nat) :
    Calls Tryz.prog 113 #[.pointer (some ⟨g, 0, none⟩), wv a] w fun e w' => e = .returned (.bool (decide (a ∈ s))) ∧ Below w.heap.size w w' := by
  obtain ⟨l, hF, _, _, hlen, hd⟩ := hS.place hl a
  have HP := Lib.hid (place_any hF (by omega) a)
  rw [hd] at HP
  clear hd hF hlen hl hS
  generalize decide (a ∈ s) = bb at HP ⊢
  generalize idx l a = k at HP
  unfold wv at HP ⊢
  go_enter Tryz.func113, Tryz.ntmps113
  go_wp2_with fail
  refine HP.out.mono ?_
  rintro e w1 ⟨rfl, hb⟩
  have HB := Lib.hid hb
  clear hb
  go_wp2
  go_ret
  exact ⟨rfl, HB.out⟩
theorem has_nil (a : Nat) (w : World) : Calls Tryz.prog 113 #[.pointer none, wv a] w fun e w' => e = .returned (.bool false) ∧ Below w.heap.size w w' := by
  have HP := Lib.hid (place_nil a w)
  unfold wv at HP ⊢
  go_enter Tryz.func113, Tryz.ntmps113
  go_wp2_with fail
  refine HP.out.mono ?_
  rintro e w1 ⟨rfl, hb⟩
  have HB := Lib.hid hb
  clear hb
  go_wp2
  go_ret
  exact ⟨rfl, HB.out⟩
theorem len_any {w : World} {g : Nat} {v : Value} {s : List Nat} (hS : SetAt w g s v) (hl : s.length ≤ 1000000000) :
    Calls Tryz.prog 53 #[.pointer (some ⟨g, 0, none⟩)] w fun e w' => e = .returned (.int .i64 (s.length : Int)) ∧ w = w' := by
  obtain ⟨l, hF, _, hp⟩ := hS
  have c0 := hF.cell
  obtain ⟨ad, cap, rfl⟩ := hF.2.1.shape
  rw [hp.length_eq] at c0
  clear hF hp
  generalize s.length = n at *
  go_enter Tryz.func53, Tryz.ntmps53
  go_wp2
  go_ret
  exact ⟨rfl, rfl⟩
theorem len_nil (w : World) : Calls Tryz.prog 53 #[.pointer none] w fun e w' => e = .returned (.int .i64 0) ∧ w = w' := by
  go_enter Tryz.func53, Tryz.ntmps53
  go_wp2
  go_ret
  exact ⟨rfl, rfl⟩
end Go.Proofs.YthibbcokpmckfaaGreatDoor
/- The set's functions that change it: Put, Take, Drop; and Copy, All, NewFree: what each answers, and which set it leaves; for sets of at most 10^9 addresses (All, NewFree: of at most twelve). -/
namespace Go.Proofs.YthibbcokpmckfaaGreatDoor
open Go.RowKit
set_option linter.unusedVariables false
theorem errno0 (w : World) : True := trivial
def LeftSet (w : World) (g : Nat) (v : Value) (s : List Nat) (w' : World) : Prop := ∃ v', SetAt w' g s v' ∧ FTurn w w' g v v'
theorem put_nil (a : Nat) (w : World) : Calls Tryz.prog 103 #[.pointer none, wv a] w fun e w' => e = .returned (.int .i64 1) ∧ w = w' := by
  unfold wv
  go_enter Tryz.func103, Tryz.ntmps103
  go_wp2
  go_ret
  exact ⟨rfl, rfl⟩
theorem put_zero (g : Nat) (w : World) : Calls Tryz.prog 103 #[.pointer (some ⟨g, 0, none⟩), wv 0] w fun e w' => e = .returned (.int .i64 2) ∧ w = w' := by
  unfold wv
  show Calls Tryz.prog 103 #[.pointer (some ⟨g, 0, none⟩), .int .u64 0] w _
  go_enter Tryz.func103, Tryz.ntmps103
  go_wp2
  go_ret
  exact ⟨rfl, rfl⟩
set_option maxRecDepth 100000 in
set_option maxHeartbeats 1000000 in
theorem put_any {w : World} {g : Nat} {v : Value} {s : List Nat} (hS : SetAt w g s v) (hl : s.length ≤ 999999999) {a : Nat} (h0 : a ≠ 0) :
    Calls Tryz.prog 103 #[.pointer (some ⟨g, 0, none⟩), wv a] w fun e w' => e = .returned (.int .i64 0) ∧ LeftSet w g v (if a ∈ s then s else a :: s) w' := by
  have HH := Lib.hid (has_any hS (by omega) a)
  have hz : ((a : Int) == 0) = false := by rw [Bool.eq_false_iff]; intro h; have := beq_iff_eq.1 h; omega
  by_cases ha : a ∈ s
  · rw [if_pos ha]
    rw [decide_eq_true ha] at HH
    have HS := Lib.hid hS
    clear hS ha hl
    unfold wv at HH ⊢
    go_enter Tryz.func103, Tryz.ntmps103
    go_wp2_with fail
    refine HH.out.mono ?_
    rintro e w1 ⟨rfl, hb⟩
    have HE := Lib.hid (show LeftSet w g v s w1 from ⟨v, HS.out.below hb, FTurn.of_below g v hb⟩)
    clear hb
    go_wp2
    go_ret
    exact ⟨rfl, HE.out⟩
  · rw [if_neg ha]
    rw [decide_eq_false ha] at HH
    have HS := Lib.hid hS
    have HL := Lib.hid hl
    clear hS ha hl
    unfold wv at HH ⊢
    go_enter Tryz.func103, Tryz.ntmps103
    go_wp2_with fail
    refine HH.out.mono ?_
    rintro e w1 ⟨rfl, hb⟩
    obtain ⟨l, hF, hhp, hp⟩ := HS.out.below hb
    have HB := Lib.hid (FTurn.of_below g v hb)
    have hps := push_heap hhp a
    have HP := Lib.hid (hPush_any hF (by have := HL.out; have := hp.length_eq; omega) a)
    have HQ := Lib.hid (show HeapP (upF (l ++ [a]) l.length) (upF (l ++ [a]) l.length).length ∧ (upF (l ++ [a]) l.length).Perm (a :: s) from ⟨by rw [hps.2.2]; exact hps.1, hps.2.1.trans (hp.cons a)⟩)
    clear hF hhp hp hps hb
    unfold wv at HP
    go_wp2_with fail
    refine HP.out.mono ?_
    rintro e w2 ⟨rfl, v2, hF2, hT2⟩
    have HE := Lib.hid (show LeftSet w g v (a :: s) w2 from ⟨v2, ⟨_, hF2, HQ.out⟩, HB.out.trans hT2⟩)
    clear hF2 hT2
    go_wp2
    go_ret
    exact ⟨rfl, HE.out⟩
theorem assertA2 (x : Int) (w : World) : (Instr.typeAssert (.iface 24 (.int .u64 x)) 20 24 true).run Tryz.prog w = .ok (.tuple #[.int .u64 x, .bool true]) w := assertA x w
theorem take_nil (w : World) : Calls Tryz.prog 72 #[.pointer none] w fun e w' => e = .returned (.tuple #[.int .u64 0, .bool false]) ∧ w = w' := by
  go_enter Tryz.func72, Tryz.ntmps72
  go_wp2_with fail
  refine (len_nil _).mono ?_
  rintro e w1 ⟨rfl, rfl⟩
  go_wp2
  go_ret2
  exact ⟨rfl, rfl⟩
theorem take_none {w : World} {g : Nat} {v : Value} (hS : SetAt w g [] v) : Calls Tryz.prog 72 #[.pointer (some ⟨g, 0, none⟩)] w fun e w' => e = .returned (.tuple #[.int .u64 0, .bool false]) ∧ w = w' := by
  have HL := Lib.hid (len_any hS (by simp))
  clear hS
  go_enter Tryz.func72, Tryz.ntmps72
  go_wp2_with fail
  refine HL.out.mono ?_
  rintro e w1 ⟨rfl, rfl⟩
  go_wp2
  go_ret2
  exact ⟨rfl, rfl⟩
set_option maxRecDepth 100000 in
set_option maxHeartbeats 1000000 in
theorem take_any {w : World} {g : Nat} {v : Value} {s : List Nat} (hS : SetAt w g s v) (hl : s.length ≤ 1000000000) {m : Nat} (hm : m ∈ s) (hmin : ∀ x ∈ s, m ≤ x) :
    Calls Tryz.prog 72 #[.pointer (some ⟨g, 0, none⟩)] w fun e w' => e = .returned (.tuple #[wv m, .bool true]) ∧ LeftSet w g v (s.erase m) w' := by
  have HL := Lib.hid (len_any hS hl)
  have hpos : 0 < s.length := List.length_pos_of_mem hm
  have hz : ((s.length : Int) == 0) = false := by rw [Bool.eq_false_iff]; intro h; have := beq_iff_eq.1 h; omega
  obtain ⟨l, hF, hhp, hp⟩ := hS
  have hlen := hp.length_eq
  have hph := pop_heap hhp (by omega)
  have hg : gd l 0 = m := by
    have h1 : gd l 0 ∈ s := hp.mem_iff.1 (gd_mem (by omega))
    have h2 := hmin _ h1
    obtain ⟨j, hj, hjm⟩ := mem_gd.1 (hp.mem_iff.2 hm)
    have h3 := heap_min hhp hj
    omega
  have HP := Lib.hid (hPop_any hF (by omega) (by omega))
  rw [hph.2.1, hg] at HP
  have hq : ((popF l).take (l.length - 1)).Perm (s.erase m) := by
    have h1 : (m :: (popF l).take (l.length - 1)).Perm s := by rw [← hg]; exact hph.2.2.2.trans hp
    exact (List.perm_cons m).1 (h1.trans (List.perm_cons_erase hm))
  have hql : ((popF l).take (l.length - 1)).length = l.length - 1 := by rw [List.length_take, hph.1]; omega
  have HQ := Lib.hid (show HeapP ((popF l).take (l.length - 1)) ((popF l).take (l.length - 1)).length ∧ ((popF l).take (l.length - 1)).Perm (s.erase m) from ⟨by rw [hql]; exact hph.2.2.1, hq⟩)
  have hta := assertA (m : Int)
  clear hF hhp hp hlen hph hg hq hql hm hmin hl
  generalize s.length = n at *
  unfold wv at HP ⊢
  go_enter Tryz.func72, Tryz.ntmps72
  go_wp2_with fail
  refine HL.out.mono ?_
  rintro e w1 ⟨rfl, rfl⟩
  go_wp2_with fail
  refine HP.out.mono ?_
  rintro e w2 ⟨rfl, v2, hF2, hT2⟩
  have HE := Lib.hid (show LeftSet w g v (s.erase m) w2 from ⟨v2, ⟨_, hF2, HQ.out⟩, hT2⟩)
  clear hF2 hT2
  go_wp2
  go_ret2
  exact ⟨rfl, HE.out⟩
end Go.Proofs.YthibbcokpmckfaaGreatDoor
