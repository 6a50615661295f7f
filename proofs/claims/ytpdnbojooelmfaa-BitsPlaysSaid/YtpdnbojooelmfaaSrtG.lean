/- partitionEqualOrdered, partitionOrdered: they compute what the library's plain functions say. -/
import Derived.Test.YtpdnbojooelmfaaSrtA
import Derived.Deep.DeepCutAuto
import Derived.Deep.CutBlock
namespace Go.Proofs.Ytpdnbojooelmfaa
open Go.RowKit
set_option linter.unusedVariables false
theorem up_go {p : Nat → Bool} {d : Array Nat} {j i : Nat} (h : i ≤ j) (hp : p d[i]! = true) : Sort.scanUp p d j i = Sort.scanUp p d j (i + 1) := by
  rw [Sort.scanUp, if_pos (by simp [h, hp])]
theorem up_stop {p : Nat → Bool} {d : Array Nat} {j i : Nat} (h : ¬ i ≤ j ∨ p d[i]! = false) : Sort.scanUp p d j i = i := by
  rw [Sort.scanUp, if_neg]
  rcases h with h | h
  · simp [h]
  · simp [h]
theorem dn_go {p : Nat → Bool} {d : Array Nat} {i j : Nat} (h : i ≤ j) (h1 : 1 ≤ j) (hp : p d[j]! = true) : Sort.scanDown p d i j = Sort.scanDown p d i (j - 1) := by
  obtain ⟨k, rfl⟩ : ∃ k, j = k + 1 := ⟨j - 1, by omega⟩
  rw [Sort.scanDown, if_pos (by simp [h, hp])]
  rfl
theorem dn_stop {p : Nat → Bool} {d : Array Nat} {i j : Nat} (h : ¬ i ≤ j ∨ p d[j]! = false) : Sort.scanDown p d i j = j := by
  cases j with
  | zero => rfl
  | succ k =>
    rw [Sort.scanDown, if_neg]
    rcases h with h | h
    · simp [h]
    · simp [h]
def UpInv (w0 : World) (h off z n : Nat) (p : Nat → Bool) (d : Array Nat) (j i k : Nat) (s : Value) (wr : World) : Prop := ∃ i1 : Nat, s = .int .i64 (i1 : Int) ∧ i ≤ i1 ∧ i1 ≤ n ∧ j + 1 - i1 ≤ k ∧ SwA w0 wr h off z n d ∧ Sort.scanUp p d j i = Sort.scanUp p d j i1
def DnInv (w0 : World) (h off z n : Nat) (p : Nat → Bool) (d : Array Nat) (j i k : Nat) (s : Value) (wr : World) : Prop := ∃ j1 : Nat, s = .int .i64 (j1 : Int) ∧ j1 ≤ j ∧ j1 ≤ k ∧ SwA w0 wr h off z n d ∧ Sort.scanDown p d i j = Sort.scanDown p d i j1
def CutU (w0 : World) (h off z n : Nat) (p : Nat → Bool) (d : Array Nat) (j i : Nat) (s : Value) (wr : World) : Prop := ∃ i1 : Nat, s = .int .i64 (i1 : Int) ∧ i ≤ i1 ∧ i1 ≤ n ∧ SwA w0 wr h off z n d ∧ Sort.scanUp p d j i = i1
def CutD (w0 : World) (h off z n : Nat) (p : Nat → Bool) (d : Array Nat) (j i : Nat) (s : Value) (wr : World) : Prop := ∃ j1 : Nat, s = .int .i64 (j1 : Int) ∧ j1 ≤ j ∧ SwA w0 wr h off z n d ∧ Sort.scanDown p d i j = j1
def PeEnd (w0 : World) (h off z n : Nat) (r : Nat × Array Nat) (e : Ending) (w' : World) : Prop := e = .returned (.int .i64 (r.1 : Int)) ∧ SwA w0 w' h off z n r.2
def PeInv (w0 : World) (h off z n a : Nat) (r : Nat × Array Nat) (k : Nat) (s9 s10 : Value) (wr : World) : Prop := ∃ (i j : Nat) (d : Array Nat), s9 = .int .i64 (i : Int) ∧ s10 = .int .i64 (j : Int) ∧ a < i ∧ i ≤ n ∧ j < n ∧ j + 1 - i ≤ k ∧ SwA w0 wr h off z n d ∧ Sort.partEqLoop ltN a i j d = r
set_option maxRecDepth 100000 in
set_option maxHeartbeats 8000000 in
theorem partEq_any {w : World} {h off z cap n : Nat} {d : Array Nat} (hA : SwA w w h off z n d) (hn : n ≤ 1000000000) {a b pivot : Nat} (hap : a ≤ pivot) (hpb : pivot < b) (hb : b ≤ n) :
    Calls Try.prog 49 #[.slice (some ⟨h, off, none⟩) n cap, .int .i64 (a : Int), .int .i64 (b : Int), .int .i64 (pivot : Int)] w (PeEnd w h off z n (Sort.partitionEqual ltN d a b pivot)) := by
  have H0 := Lib.hid hA
  obtain ⟨r, hd⟩ : ∃ r, r = Sort.partitionEqual ltN d a b pivot := ⟨_, rfl⟩
  rw [← hd]
  have HD := Lib.hid hd
  have han : a < n := by omega
  have hpn : pivot < n := by omega
  have HB1 := Lib.hid (show (b : Int) - 1 = ((b - 1 : Nat) : Int) from by omega)
  clear hA hd
  go_enter Try.func49, Try.ntmps49
  go_wp2_with fail
  have ci := H0.out.cell (i := a) han
  have cj := H0.out.cell (i := pivot) hpn
  have fi := H0.out.free a
  have fj := H0.out.free pivot
  have HSW : Hid (∀ W, (∃ q, W = (((w.setCell ⟨h, off + a, none⟩ (.int .u64 (d[pivot]! : Int))).setCell ⟨h, off + pivot, none⟩ (.int .u64 (d[a]! : Int))).drewN q)) → SwA w W h off z n (Sort.swp d a pivot)) := Lib.hid (fun W hW => H0.out.swp2 han hpn hW)
  generalize d[a]! = x at *
  generalize d[pivot]! = y at *
  obtain ⟨v', hy'⟩ := cell?_setCell_some (w := w) (p := ⟨h, off + a, none⟩) (x := .int .u64 (y : Int)) (q := ⟨h, off + pivot, none⟩) cj
  go_wp2
  go_region
  have HS0 : Hid (SwA w (((w.setCell ⟨h, off + a, none⟩ (.int .u64 (y : Int))).setCell ⟨h, off + pivot, none⟩ (.int .u64 (x : Int))).drew) h off z n (Sort.swp d a pivot)) := Lib.hid (HSW.out _ ⟨1, rfl⟩)
  clear ci cj fi fj hy' HSW
  go_wp2_with fail
  go_loopg [9, 10] (b - 1 + 1 - (a + 1)) (fun k s9 s10 wr => PeInv w h off z n a r k s9 s10 wr)
  case atStart => exact ⟨a + 1, b - 1, _, by go_num, by rw [HB1.out], by omega, by omega, by omega, Nat.le_refl _, HS0.out, HD.out.symm⟩
  case round =>
    obtain ⟨i, j, dk, rfl, rfl, hai, hin, hjn, hk, hS, hU⟩ := hrel
    have HS := Lib.hid hS
    have HU := Lib.hid hU
    clear hS hU
    have HEQ := Lib.hid (Sort.partEqLoop_eq (lt := ltN) a i j dk)
    go_upto_block 2 with (fail)
    go_cut [9] (fun s wx => CutU w h off z n (fun x => !ltN dk[a]! x) dk j i s wx)
    case first =>
      go_wp2_with fail
      go_loopg [9] (j + 1 - i) (fun k s wr => UpInv w h off z n (fun x => !ltN dk[a]! x) dk j i k s wr)
      case atStart => exact ⟨i, rfl, Nat.le_refl _, by omega, Nat.le_refl _, HS.out, rfl⟩
      case round =>
        obtain ⟨i1, rfl, hii, hin, hik, hSs, hUs⟩ := hrel
        have HSs := Lib.hid hSs
        have HUs := Lib.hid hUs
        clear hSs hUs
        have HEX : Hid (∀ q, Sort.scanUp (fun x => !ltN dk[a]! x) dk j i1 = i1 → CutU w h off z n (fun x => !ltN dk[a]! x) dk j i (.int .i64 (i1 : Int)) (wr.drewN q)) := Lib.hid (fun q e => ⟨i1, rfl, hii, hin, HSs.out.drew ⟨q, rfl⟩, by rw [HUs.out, e]⟩)
        by_cases hle : i1 ≤ j
        · have hlez : decide ((i1 : Int) ≤ (j : Int)) = true := by simp; omega
          have hcn : i1 < n := by omega
          have ca := HSs.out.cell han
          have cx := HSs.out.cell hcn
          by_cases hc : dk[a]! < dk[i1]!
          · have hcc : decide (dk[a]! < dk[i1]!) = true := decide_eq_true hc
            have HSt := Lib.hid (up_stop (p := fun x => !ltN dk[a]! x) (d := dk) (j := j) (i := i1) (Or.inr (by simp [ltN, hc])))
            have HEX2 := Lib.hid (fun q => HEX.out q HSt.out)
            generalize dk[a]! = pv at *
            generalize dk[i1]! = x at *
            go_wp2
            go_quiet ((go_at_call 48; exact Calls.quiet_of_same (cmpLess_any _ _ _)))
            have HF := Lib.hid (HEX2.out nq)
            go_wp2_with fail
            go_meet
            exact HF.out
          · have hcc : decide (dk[a]! < dk[i1]!) = false := decide_eq_false hc
            have HGo := Lib.hid (up_go (p := fun x => !ltN dk[a]! x) (d := dk) hle (by simp [ltN, hc]))
            have HNX : Hid (∀ q, UpInv w h off z n (fun x => !ltN dk[a]! x) dk j i (j + 1 - (i1 + 1)) (.int .i64 ((i1 : Int) + 1)) (wr.drewN q)) := Lib.hid (fun q => ⟨i1 + 1, by go_num, by omega, by omega, Nat.le_refl _, HSs.out.drew ⟨q, rfl⟩, by rw [HUs.out, HGo.out]⟩)
            generalize dk[a]! = pv at *
            generalize dk[i1]! = x at *
            go_wp2
            go_quiet ((go_at_call 48; exact Calls.quiet_of_same (cmpLess_any _ _ _)))
            have HF := Lib.hid (HNX.out nq)
            go_wp2
            go_roundg (j + 1 - (i1 + 1))
            case measure => omega
            case rel => exact HF.out
        · have hlez : decide ((i1 : Int) ≤ (j : Int)) = false := by simp; omega
          have HSt := Lib.hid (up_stop (p := fun x => !ltN dk[a]! x) (d := dk) (j := j) (i := i1) (Or.inl hle))
          go_wp2
          go_quiet (fail)
          have HF := Lib.hid (HEX.out nq HSt.out)
          go_wp2_with fail
          go_meet
          exact HF.out
    case rest =>
      obtain ⟨i2, rfl, hi2, hi2n, hS1, hU1⟩ := hcut
      have HS1 := Lib.hid hS1
      have HU1 := Lib.hid hU1
      clear hS1 hU1
      go_upto_block 4 with (fail)
      go_cut [10] (fun s wx => CutD w h off z n (fun x => ltN dk[a]! x) dk j i2 s wx)
      case first =>
        go_wp2_with fail
        go_loopg [10] j (fun k s wr => DnInv w h off z n (fun x => ltN dk[a]! x) dk j i2 k s wr)
        case atStart => exact ⟨j, rfl, Nat.le_refl _, Nat.le_refl _, HS1.out, rfl⟩
        case round =>
          obtain ⟨j1, rfl, hjj, hjk, hSs, hUs⟩ := hrel
          have HSs := Lib.hid hSs
          have HUs := Lib.hid hUs
          clear hSs hUs
          have HEX : Hid (∀ q, Sort.scanDown (fun x => ltN dk[a]! x) dk i2 j1 = j1 → CutD w h off z n (fun x => ltN dk[a]! x) dk j i2 (.int .i64 (j1 : Int)) (wr.drewN q)) := Lib.hid (fun q e => ⟨j1, rfl, hjj, HSs.out.drew ⟨q, rfl⟩, by rw [HUs.out, e]⟩)
          by_cases hle : i2 ≤ j1
          · have hlez : decide ((i2 : Int) ≤ (j1 : Int)) = true := by simp; omega
            have hcn : j1 < n := by omega
            have ca := HSs.out.cell han
            have cx := HSs.out.cell hcn
            by_cases hc : dk[a]! < dk[j1]!
            · have hcc : decide (dk[a]! < dk[j1]!) = true := decide_eq_true hc
              have HGo := Lib.hid (dn_go (p := fun x => ltN dk[a]! x) (d := dk) hle (by omega) (by simp [ltN, hc]))
              have HJ1 := Lib.hid (show (j1 : Int) - 1 = ((j1 - 1 : Nat) : Int) from by omega)
              have HNX : Hid (∀ q, DnInv w h off z n (fun x => ltN dk[a]! x) dk j i2 (j1 - 1) (.int .i64 ((j1 : Int) - 1)) (wr.drewN q)) := Lib.hid (fun q => ⟨j1 - 1, by rw [HJ1.out], by omega, Nat.le_refl _, HSs.out.drew ⟨q, rfl⟩, by rw [HUs.out, HGo.out]⟩)
              generalize dk[a]! = pv at *
              generalize dk[j1]! = x at *
              go_wp2
              go_quiet ((go_at_call 48; exact Calls.quiet_of_same (cmpLess_any _ _ _)))
              have HF := Lib.hid (HNX.out nq)
              go_wp2
              go_roundg (j1 - 1)
              case measure => omega
              case rel => exact HF.out
            · have hcc : decide (dk[a]! < dk[j1]!) = false := decide_eq_false hc
              have HSt := Lib.hid (dn_stop (p := fun x => ltN dk[a]! x) (d := dk) (i := i2) (j := j1) (Or.inr (by simp [ltN, hc])))
              have HEX2 := Lib.hid (fun q => HEX.out q HSt.out)
              generalize dk[a]! = pv at *
              generalize dk[j1]! = x at *
              go_wp2
              go_quiet ((go_at_call 48; exact Calls.quiet_of_same (cmpLess_any _ _ _)))
              have HF := Lib.hid (HEX2.out nq)
              go_wp2_with fail
              go_meet
              exact HF.out
          · have hlez : decide ((i2 : Int) ≤ (j1 : Int)) = false := by simp; omega
            have HSt := Lib.hid (dn_stop (p := fun x => ltN dk[a]! x) (d := dk) (i := i2) (j := j1) (Or.inl hle))
            go_wp2
            go_quiet (fail)
            have HF := Lib.hid (HEX.out nq HSt.out)
            go_wp2_with fail
            go_meet
            exact HF.out
      case rest =>
        obtain ⟨j2, rfl, hj2, hS2, hU2⟩ := hcut
        have HS2 := Lib.hid hS2
        have HU2 := Lib.hid hU2
        clear hS2 hU2
        by_cases hgt : j2 < i2
        · have hgtz : decide ((j2 : Int) < (i2 : Int)) = true := by simp; omega
          have HE : Hid (PeEnd w h off z n r (.returned (.int .i64 (i2 : Int))) wc) := Lib.hid (by
            rw [← HU.out, HEQ.out]
            simp only [HU1.out, HU2.out]
            rw [if_pos hgt]
            exact ⟨rfl, HS2.out⟩)
          go_wp2
          go_ret
          exact HE.out
        · have hgtz : decide ((j2 : Int) < (i2 : Int)) = false := by simp; omega
          have hi2n' : i2 < n := by omega
          have hj2n : j2 < n := by omega
          have HJ1 := Lib.hid (show (j2 : Int) - 1 = ((j2 - 1 : Nat) : Int) from by omega)
          have HR : Hid (Sort.partEqLoop ltN a (i2 + 1) (j2 - 1) (Sort.swp dk i2 j2) = r) := Lib.hid (by
            rw [← HU.out, HEQ.out]
            simp only [HU1.out, HU2.out]
            rw [if_neg hgt])
          have ci := HS2.out.cell (i := i2) hi2n'
          have cj := HS2.out.cell (i := j2) hj2n
          have fi := HS2.out.free i2
          have fj := HS2.out.free j2
          have HSW : Hid (∀ W, (∃ q, W = (((wc.setCell ⟨h, off + i2, none⟩ (.int .u64 (dk[j2]! : Int))).setCell ⟨h, off + j2, none⟩ (.int .u64 (dk[i2]! : Int))).drewN q)) → SwA w W h off z n (Sort.swp dk i2 j2)) := Lib.hid (fun W hW => HS2.out.swp2 hi2n' hj2n hW)
          generalize dk[i2]! = x at *
          generalize dk[j2]! = y at *
          obtain ⟨v', hy'⟩ := cell?_setCell_some (w := wc) (p := ⟨h, off + i2, none⟩) (x := .int .u64 (y : Int)) (q := ⟨h, off + j2, none⟩) cj
          go_wp2
          go_region
          have HS3 : Hid (SwA w (((wc.setCell ⟨h, off + i2, none⟩ (.int .u64 (y : Int))).setCell ⟨h, off + j2, none⟩ (.int .u64 (x : Int))).drew) h off z n (Sort.swp dk i2 j2)) := Lib.hid (HSW.out _ ⟨1, rfl⟩)
          clear ci cj fi fj hy' HSW
          go_wp2
          go_roundg (j2 - 1 + 1 - (i2 + 1))
          case measure => omega
          case rel => exact ⟨i2 + 1, j2 - 1, _, by go_num, by rw [HJ1.out], by omega, by omega, by omega, Nat.le_refl _, HS3.out, HR.out⟩
def PtEnd (w0 : World) (h off z n : Nat) (r : Nat × Bool × Array Nat) (e : Ending) (w' : World) : Prop := e = .returned (.tuple #[.int .i64 (r.1 : Int), .bool r.2.1]) ∧ SwA w0 w' h off z n r.2.2
def PtInv (w0 : World) (h off z n a : Nat) (r : Nat × Array Nat) (k : Nat) (s9 s10 : Value) (wr : World) : Prop := ∃ (i j : Nat) (d : Array Nat), s9 = .int .i64 (i : Int) ∧ s10 = .int .i64 (j : Int) ∧ a < i ∧ i ≤ n ∧ j < n ∧ j + 1 - i ≤ k ∧ SwA w0 wr h off z n d ∧ Sort.partLoop ltN a i j d = r
set_option maxRecDepth 100000 in
set_option maxHeartbeats 8000000 in
theorem partO_any {w : World} {h off z cap n : Nat} {d : Array Nat} (hA : SwA w w h off z n d) (hn : n ≤ 1000000000) {a b pivot : Nat} (hap : a ≤ pivot) (hpb : pivot < b) (hb : b ≤ n) :
    Calls Try.prog 50 #[.slice (some ⟨h, off, none⟩) n cap, .int .i64 (a : Int), .int .i64 (b : Int), .int .i64 (pivot : Int)] w (PtEnd w h off z n (Sort.partition ltN d a b pivot)) := by
  have H0 := Lib.hid hA
  obtain ⟨r, hd⟩ : ∃ r, r = Sort.partition ltN d a b pivot := ⟨_, rfl⟩
  rw [← hd]
  have han : a < n := by omega
  have hpn : pivot < n := by omega
  have HB1 := Lib.hid (show (b : Int) - 1 = ((b - 1 : Nat) : Int) from by omega)
  obtain ⟨d1, hd1⟩ : ∃ d1, d1 = Sort.swp d a pivot := ⟨_, rfl⟩
  obtain ⟨B, hB⟩ : ∃ B, B = b - 1 := ⟨_, rfl⟩
  have hBn : B < n := by omega
  have HD : Hid ((if Sort.scanDown (fun x => !ltN x d1[a]!) d1 (Sort.scanUp (fun x => ltN x d1[a]!) d1 B (a + 1)) B < Sort.scanUp (fun x => ltN x d1[a]!) d1 B (a + 1) then (Sort.scanDown (fun x => !ltN x d1[a]!) d1 (Sort.scanUp (fun x => ltN x d1[a]!) d1 B (a + 1)) B, true, Sort.swp d1 (Sort.scanDown (fun x => !ltN x d1[a]!) d1 (Sort.scanUp (fun x => ltN x d1[a]!) d1 B (a + 1)) B) a)
    else ((Sort.partLoop ltN a (Sort.scanUp (fun x => ltN x d1[a]!) d1 B (a + 1) + 1) (Sort.scanDown (fun x => !ltN x d1[a]!) d1 (Sort.scanUp (fun x => ltN x d1[a]!) d1 B (a + 1)) B - 1) (Sort.swp d1 (Sort.scanUp (fun x => ltN x d1[a]!) d1 B (a + 1)) (Sort.scanDown (fun x => !ltN x d1[a]!) d1 (Sort.scanUp (fun x => ltN x d1[a]!) d1 B (a + 1)) B))).1, false,
      Sort.swp (Sort.partLoop ltN a (Sort.scanUp (fun x => ltN x d1[a]!) d1 B (a + 1) + 1) (Sort.scanDown (fun x => !ltN x d1[a]!) d1 (Sort.scanUp (fun x => ltN x d1[a]!) d1 B (a + 1)) B - 1) (Sort.swp d1 (Sort.scanUp (fun x => ltN x d1[a]!) d1 B (a + 1)) (Sort.scanDown (fun x => !ltN x d1[a]!) d1 (Sort.scanUp (fun x => ltN x d1[a]!) d1 B (a + 1)) B))).2 (Sort.partLoop ltN a (Sort.scanUp (fun x => ltN x d1[a]!) d1 B (a + 1) + 1) (Sort.scanDown (fun x => !ltN x d1[a]!) d1 (Sort.scanUp (fun x => ltN x d1[a]!) d1 B (a + 1)) B - 1) (Sort.swp d1 (Sort.scanUp (fun x => ltN x d1[a]!) d1 B (a + 1)) (Sort.scanDown (fun x => !ltN x d1[a]!) d1 (Sort.scanUp (fun x => ltN x d1[a]!) d1 B (a + 1)) B))).1 a)) = r) := Lib.hid (by rw [hd, hd1, hB]; rfl)
  have HD1 := Lib.hid hd1
  have HBB := Lib.hid hB
  clear hA hd hd1 hB
  go_enter Try.func50, Try.ntmps50
  go_wp2_with fail
  have ci := H0.out.cell (i := a) han
  have cj := H0.out.cell (i := pivot) hpn
  have fi := H0.out.free a
  have fj := H0.out.free pivot
  have HSW : Hid (∀ W, (∃ q, W = (((w.setCell ⟨h, off + a, none⟩ (.int .u64 (d[pivot]! : Int))).setCell ⟨h, off + pivot, none⟩ (.int .u64 (d[a]! : Int))).drewN q)) → SwA w W h off z n (Sort.swp d a pivot)) := Lib.hid (fun W hW => H0.out.swp2 han hpn hW)
  generalize d[a]! = x at *
  generalize d[pivot]! = y at *
  obtain ⟨v', hy'⟩ := cell?_setCell_some (w := w) (p := ⟨h, off + a, none⟩) (x := .int .u64 (y : Int)) (q := ⟨h, off + pivot, none⟩) cj
  go_wp2
  go_region
  have HS0 : Hid (SwA w (((w.setCell ⟨h, off + a, none⟩ (.int .u64 (y : Int))).setCell ⟨h, off + pivot, none⟩ (.int .u64 (x : Int))).drew) h off z n (Sort.swp d a pivot)) := Lib.hid (HSW.out _ ⟨1, rfl⟩)
  clear ci cj fi fj hy' HSW
  rw [← HD1.out] at HS0
  have HIA := Lib.hid (show (((a + 1 : Nat) : Int)) = (a : Int) + 1 from by omega)
  obtain ⟨A1, hA1⟩ : ∃ A1, A1 = a + 1 := ⟨_, rfl⟩
  rw [← hA1] at HD HIA
  have hA1n : A1 ≤ n := by omega
  have haA1 : a < A1 := by omega
  clear hA1
  go_upto_block 0 with (fail)
  rw [← HIA.out, HB1.out, ← HBB.out]
  go_cut [10] (fun s wx => CutU w h off z n (fun x => ltN x d1[a]!) d1 B A1 s wx)
  case first =>
    go_wp2_with fail
    go_loopg [10] (B + 1 - A1) (fun k s wr => UpInv w h off z n (fun x => ltN x d1[a]!) d1 B A1 k s wr)
    case atStart => exact ⟨A1, rfl, Nat.le_refl _, by omega, Nat.le_refl _, HS0.out, rfl⟩
    case round =>
      obtain ⟨i1, rfl, hii, hin, hik, hSs, hUs⟩ := hrel
      have HSs := Lib.hid hSs
      have HUs := Lib.hid hUs
      clear hSs hUs
      have HEX : Hid (∀ q, Sort.scanUp (fun x => ltN x d1[a]!) d1 B i1 = i1 → CutU w h off z n (fun x => ltN x d1[a]!) d1 B A1 (.int .i64 (i1 : Int)) (wr.drewN q)) := Lib.hid (fun q e => ⟨i1, rfl, hii, hin, HSs.out.drew ⟨q, rfl⟩, by rw [HUs.out, e]⟩)
      by_cases hle : i1 ≤ B
      · have hlez : decide ((i1 : Int) ≤ (B : Int)) = true := by simp; omega
        have hcn : i1 < n := by omega
        have ca := HSs.out.cell han
        have cx := HSs.out.cell hcn
        by_cases hc : d1[i1]! < d1[a]!
        · have hcc : decide (d1[i1]! < d1[a]!) = true := decide_eq_true hc
          have HGo := Lib.hid (up_go (p := fun x => ltN x d1[a]!) (d := d1) hle (by simp [ltN, hc]))
          have HNX : Hid (∀ q, UpInv w h off z n (fun x => ltN x d1[a]!) d1 B A1 (B + 1 - (i1 + 1)) (.int .i64 ((i1 : Int) + 1)) (wr.drewN q)) := Lib.hid (fun q => ⟨i1 + 1, by go_num, by omega, by omega, Nat.le_refl _, HSs.out.drew ⟨q, rfl⟩, by rw [HUs.out, HGo.out]⟩)
          generalize d1[a]! = pv at *
          generalize d1[i1]! = x at *
          go_wp2
          go_quiet ((go_at_call 48; exact Calls.quiet_of_same (cmpLess_any _ _ _)))
          have HF := Lib.hid (HNX.out nq)
          go_wp2
          go_roundg (B + 1 - (i1 + 1))
          case measure => omega
          case rel => exact HF.out
        · have hcc : decide (d1[i1]! < d1[a]!) = false := decide_eq_false hc
          have HSt := Lib.hid (up_stop (p := fun x => ltN x d1[a]!) (d := d1) (j := B) (i := i1) (Or.inr (by simp [ltN, hc])))
          have HEX2 := Lib.hid (fun q => HEX.out q HSt.out)
          generalize d1[a]! = pv at *
          generalize d1[i1]! = x at *
          go_wp2
          go_quiet ((go_at_call 48; exact Calls.quiet_of_same (cmpLess_any _ _ _)))
          have HF := Lib.hid (HEX2.out nq)
          go_wp2_with fail
          go_meet
          exact HF.out
      · have hlez : decide ((i1 : Int) ≤ (B : Int)) = false := by simp; omega
        have HSt := Lib.hid (up_stop (p := fun x => ltN x d1[a]!) (d := d1) (j := B) (i := i1) (Or.inl hle))
        go_wp2
        go_quiet (fail)
        have HF := Lib.hid (HEX.out nq HSt.out)
        go_wp2_with fail
        go_meet
        exact HF.out
  case rest =>
    obtain ⟨i2, rfl, hi2, hi2n, hS1, hU1⟩ := hcut
    have HS1 := Lib.hid hS1
    rw [hU1] at HD
    clear hS1 hU1
    go_upto_block 2 with (fail)
    go_cut [11] (fun s wx => CutD w h off z n (fun x => !ltN x d1[a]!) d1 B i2 s wx)
    case first =>
      go_wp2_with fail
      go_loopg [11] B (fun k s wr => DnInv w h off z n (fun x => !ltN x d1[a]!) d1 B i2 k s wr)
      case atStart => exact ⟨B, rfl, Nat.le_refl _, Nat.le_refl _, HS1.out, rfl⟩
      case round =>
        obtain ⟨j1, rfl, hjj, hjk, hSs, hUs⟩ := hrel
        have HSs := Lib.hid hSs
        have HUs := Lib.hid hUs
        clear hSs hUs
        have HEX : Hid (∀ q, Sort.scanDown (fun x => !ltN x d1[a]!) d1 i2 j1 = j1 → CutD w h off z n (fun x => !ltN x d1[a]!) d1 B i2 (.int .i64 (j1 : Int)) (wr.drewN q)) := Lib.hid (fun q e => ⟨j1, rfl, hjj, HSs.out.drew ⟨q, rfl⟩, by rw [HUs.out, e]⟩)
        by_cases hle : i2 ≤ j1
        · have hlez : decide ((i2 : Int) ≤ (j1 : Int)) = true := by simp; omega
          have hcn : j1 < n := by omega
          have ca := HSs.out.cell han
          have cx := HSs.out.cell hcn
          by_cases hc : d1[j1]! < d1[a]!
          · have hcc : decide (d1[j1]! < d1[a]!) = true := decide_eq_true hc
            have HSt := Lib.hid (dn_stop (p := fun x => !ltN x d1[a]!) (d := d1) (i := i2) (j := j1) (Or.inr (by simp [ltN, hc])))
            have HEX2 := Lib.hid (fun q => HEX.out q HSt.out)
            generalize d1[a]! = pv at *
            generalize d1[j1]! = x at *
            go_wp2
            go_quiet ((go_at_call 48; exact Calls.quiet_of_same (cmpLess_any _ _ _)))
            have HF := Lib.hid (HEX2.out nq)
            go_wp2_with fail
            go_meet
            exact HF.out
          · have hcc : decide (d1[j1]! < d1[a]!) = false := decide_eq_false hc
            have HGo := Lib.hid (dn_go (p := fun x => !ltN x d1[a]!) (d := d1) hle (by omega) (by simp [ltN, hc]))
            have HJ1 := Lib.hid (show (j1 : Int) - 1 = ((j1 - 1 : Nat) : Int) from by omega)
            have HNX : Hid (∀ q, DnInv w h off z n (fun x => !ltN x d1[a]!) d1 B i2 (j1 - 1) (.int .i64 ((j1 : Int) - 1)) (wr.drewN q)) := Lib.hid (fun q => ⟨j1 - 1, by rw [HJ1.out], by omega, Nat.le_refl _, HSs.out.drew ⟨q, rfl⟩, by rw [HUs.out, HGo.out]⟩)
            generalize d1[a]! = pv at *
            generalize d1[j1]! = x at *
            go_wp2
            go_quiet ((go_at_call 48; exact Calls.quiet_of_same (cmpLess_any _ _ _)))
            have HF := Lib.hid (HNX.out nq)
            go_wp2
            go_roundg (j1 - 1)
            case measure => omega
            case rel => exact HF.out
        · have hlez : decide ((i2 : Int) ≤ (j1 : Int)) = false := by simp; omega
          have HSt := Lib.hid (dn_stop (p := fun x => !ltN x d1[a]!) (d := d1) (i := i2) (j := j1) (Or.inl hle))
          go_wp2
          go_quiet (fail)
          have HF := Lib.hid (HEX.out nq HSt.out)
          go_wp2_with fail
          go_meet
          exact HF.out
    case rest =>
      obtain ⟨j2, rfl, hj2, hS2, hU2⟩ := hcut
      have HS2 := Lib.hid hS2
      rw [hU2] at HD
      clear hS2 hU2
      have hj2n : j2 < n := by omega
      by_cases hgt : j2 < i2
      · have hgtz : decide ((j2 : Int) < (i2 : Int)) = true := by simp; omega
        rw [if_pos hgt] at HD
        have ci := HS2.out.cell (i := j2) hj2n
        have cj := HS2.out.cell (i := a) han
        have fi := HS2.out.free j2
        have fj := HS2.out.free a
        have HSW : Hid (∀ W, (∃ q, W = (((wc.setCell ⟨h, off + j2, none⟩ (.int .u64 (d1[a]! : Int))).setCell ⟨h, off + a, none⟩ (.int .u64 (d1[j2]! : Int))).drewN q)) → SwA w W h off z n (Sort.swp d1 j2 a)) := Lib.hid (fun W hW => HS2.out.swp2 hj2n han hW)
        generalize d1[j2]! = x at *
        generalize d1[a]! = y at *
        obtain ⟨v', hy'⟩ := cell?_setCell_some (w := wc) (p := ⟨h, off + j2, none⟩) (x := .int .u64 (y : Int)) (q := ⟨h, off + a, none⟩) cj
        go_wp2
        go_region
        have HS3 : Hid (SwA w (((wc.setCell ⟨h, off + j2, none⟩ (.int .u64 (y : Int))).setCell ⟨h, off + a, none⟩ (.int .u64 (x : Int))).drew) h off z n (Sort.swp d1 j2 a)) := Lib.hid (HSW.out _ ⟨1, rfl⟩)
        clear ci cj fi fj hy' HSW
        have HE : Hid (∀ W, SwA w W h off z n (Sort.swp d1 j2 a) → PtEnd w h off z n r (.returned (.tuple #[.int .i64 (j2 : Int), .bool true])) W) := Lib.hid (by
          rw [← HD.out]
          exact fun W hW => ⟨rfl, hW⟩)
        have HF := Lib.hid (HE.out _ HS3.out)
        go_wp2
        go_ret2
        exact HF.out
      · have hgtz : decide ((j2 : Int) < (i2 : Int)) = false := by simp; omega
        rw [if_neg hgt] at HD
        have hi2n' : i2 < n := by omega
        have HJ1 := Lib.hid (show (j2 : Int) - 1 = ((j2 - 1 : Nat) : Int) from by omega)
        have ci := HS2.out.cell (i := i2) hi2n'
        have cj := HS2.out.cell (i := j2) hj2n
        have fi := HS2.out.free i2
        have fj := HS2.out.free j2
        have HSW : Hid (∀ W, (∃ q, W = (((wc.setCell ⟨h, off + i2, none⟩ (.int .u64 (d1[j2]! : Int))).setCell ⟨h, off + j2, none⟩ (.int .u64 (d1[i2]! : Int))).drewN q)) → SwA w W h off z n (Sort.swp d1 i2 j2)) := Lib.hid (fun W hW => HS2.out.swp2 hi2n' hj2n hW)
        generalize d1[i2]! = x at *
        generalize d1[j2]! = y at *
        obtain ⟨v', hy'⟩ := cell?_setCell_some (w := wc) (p := ⟨h, off + i2, none⟩) (x := .int .u64 (y : Int)) (q := ⟨h, off + j2, none⟩) cj
        go_wp2
        go_region
        have HS3 : Hid (SwA w (((wc.setCell ⟨h, off + i2, none⟩ (.int .u64 (y : Int))).setCell ⟨h, off + j2, none⟩ (.int .u64 (x : Int))).drew) h off z n (Sort.swp d1 i2 j2)) := Lib.hid (HSW.out _ ⟨1, rfl⟩)
        clear ci cj fi fj hy' HSW
        obtain ⟨rl, hrl⟩ : ∃ rl, rl = Sort.partLoop ltN a (i2 + 1) (j2 - 1) (Sort.swp d1 i2 j2) := ⟨_, rfl⟩
        rw [← hrl] at HD
        have HRL := Lib.hid hrl
        clear hrl
        go_wp2_with fail
        go_loopg [10, 11] (j2 - 1 + 1 - (i2 + 1)) (fun k s9 s10 wr => PtInv w h off z n a rl k s9 s10 wr)
        case atStart => exact ⟨i2 + 1, j2 - 1, _, by go_num, by rw [HJ1.out], by omega, by omega, by omega, Nat.le_refl _, HS3.out, HRL.out.symm⟩
        case round =>
          obtain ⟨i, j, dk, rfl, rfl, hai, hin, hjn, hk, hS, hU⟩ := hrel
          have HS := Lib.hid hS
          have HU := Lib.hid hU
          clear hS hU
          have HEQ := Lib.hid (Sort.partLoop_eq (lt := ltN) a i j dk)
          go_upto_block 6 with (fail)
          go_cut [10] (fun s wx => CutU w h off z n (fun x => ltN x dk[a]!) dk j i s wx)
          case first =>
            go_wp2_with fail
            go_loopg [10] (j + 1 - i) (fun k s wr => UpInv w h off z n (fun x => ltN x dk[a]!) dk j i k s wr)
            case atStart => exact ⟨i, rfl, Nat.le_refl _, by omega, Nat.le_refl _, HS.out, rfl⟩
            case round =>
              obtain ⟨i1, rfl, hii, hin, hik, hSs, hUs⟩ := hrel
              have HSs := Lib.hid hSs
              have HUs := Lib.hid hUs
              clear hSs hUs
              have HEX : Hid (∀ q, Sort.scanUp (fun x => ltN x dk[a]!) dk j i1 = i1 → CutU w h off z n (fun x => ltN x dk[a]!) dk j i (.int .i64 (i1 : Int)) (wr.drewN q)) := Lib.hid (fun q e => ⟨i1, rfl, hii, hin, HSs.out.drew ⟨q, rfl⟩, by rw [HUs.out, e]⟩)
              by_cases hle : i1 ≤ j
              · have hlez : decide ((i1 : Int) ≤ (j : Int)) = true := by simp; omega
                have hcn : i1 < n := by omega
                have ca := HSs.out.cell han
                have cx := HSs.out.cell hcn
                by_cases hc : dk[i1]! < dk[a]!
                · have hcc : decide (dk[i1]! < dk[a]!) = true := decide_eq_true hc
                  have HGo := Lib.hid (up_go (p := fun x => ltN x dk[a]!) (d := dk) hle (by simp [ltN, hc]))
                  have HNX : Hid (∀ q, UpInv w h off z n (fun x => ltN x dk[a]!) dk j i (j + 1 - (i1 + 1)) (.int .i64 ((i1 : Int) + 1)) (wr.drewN q)) := Lib.hid (fun q => ⟨i1 + 1, by go_num, by omega, by omega, Nat.le_refl _, HSs.out.drew ⟨q, rfl⟩, by rw [HUs.out, HGo.out]⟩)
                  generalize dk[a]! = pv at *
                  generalize dk[i1]! = x at *
                  go_wp2
                  go_quiet ((go_at_call 48; exact Calls.quiet_of_same (cmpLess_any _ _ _)))
                  have HF := Lib.hid (HNX.out nq)
                  go_wp2
                  go_roundg (j + 1 - (i1 + 1))
                  case measure => omega
                  case rel => exact HF.out
                · have hcc : decide (dk[i1]! < dk[a]!) = false := decide_eq_false hc
                  have HSt := Lib.hid (up_stop (p := fun x => ltN x dk[a]!) (d := dk) (j := j) (i := i1) (Or.inr (by simp [ltN, hc])))
                  have HEX2 := Lib.hid (fun q => HEX.out q HSt.out)
                  generalize dk[a]! = pv at *
                  generalize dk[i1]! = x at *
                  go_wp2
                  go_quiet ((go_at_call 48; exact Calls.quiet_of_same (cmpLess_any _ _ _)))
                  have HF := Lib.hid (HEX2.out nq)
                  go_wp2_with fail
                  go_meet
                  exact HF.out
              · have hlez : decide ((i1 : Int) ≤ (j : Int)) = false := by simp; omega
                have HSt := Lib.hid (up_stop (p := fun x => ltN x dk[a]!) (d := dk) (j := j) (i := i1) (Or.inl hle))
                go_wp2
                go_quiet (fail)
                have HF := Lib.hid (HEX.out nq HSt.out)
                go_wp2_with fail
                go_meet
                exact HF.out
          case rest =>
            obtain ⟨i3, rfl, hi3, hi3n, hS1, hU1⟩ := hcut
            have HS1' := Lib.hid hS1
            have HU1 := Lib.hid hU1
            clear hS1 hU1
            go_upto_block 8 with (fail)
            go_cut [11] (fun s wx => CutD w h off z n (fun x => !ltN x dk[a]!) dk j i3 s wx)
            case first =>
              go_wp2_with fail
              go_loopg [11] j (fun k s wr => DnInv w h off z n (fun x => !ltN x dk[a]!) dk j i3 k s wr)
              case atStart => exact ⟨j, rfl, Nat.le_refl _, Nat.le_refl _, HS1'.out, rfl⟩
              case round =>
                obtain ⟨j1, rfl, hjj, hjk, hSs, hUs⟩ := hrel
                have HSs := Lib.hid hSs
                have HUs := Lib.hid hUs
                clear hSs hUs
                have HEX : Hid (∀ q, Sort.scanDown (fun x => !ltN x dk[a]!) dk i3 j1 = j1 → CutD w h off z n (fun x => !ltN x dk[a]!) dk j i3 (.int .i64 (j1 : Int)) (wr.drewN q)) := Lib.hid (fun q e => ⟨j1, rfl, hjj, HSs.out.drew ⟨q, rfl⟩, by rw [HUs.out, e]⟩)
                by_cases hle : i3 ≤ j1
                · have hlez : decide ((i3 : Int) ≤ (j1 : Int)) = true := by simp; omega
                  have hcn : j1 < n := by omega
                  have ca := HSs.out.cell han
                  have cx := HSs.out.cell hcn
                  by_cases hc : dk[j1]! < dk[a]!
                  · have hcc : decide (dk[j1]! < dk[a]!) = true := decide_eq_true hc
                    have HSt := Lib.hid (dn_stop (p := fun x => !ltN x dk[a]!) (d := dk) (i := i3) (j := j1) (Or.inr (by simp [ltN, hc])))
                    have HEX2 := Lib.hid (fun q => HEX.out q HSt.out)
                    generalize dk[a]! = pv at *
                    generalize dk[j1]! = x at *
                    go_wp2
                    go_quiet ((go_at_call 48; exact Calls.quiet_of_same (cmpLess_any _ _ _)))
                    have HF := Lib.hid (HEX2.out nq)
                    go_wp2_with fail
                    go_meet
                    exact HF.out
                  · have hcc : decide (dk[j1]! < dk[a]!) = false := decide_eq_false hc
                    have HGo := Lib.hid (dn_go (p := fun x => !ltN x dk[a]!) (d := dk) hle (by omega) (by simp [ltN, hc]))
                    have HJ1 := Lib.hid (show (j1 : Int) - 1 = ((j1 - 1 : Nat) : Int) from by omega)
                    have HNX : Hid (∀ q, DnInv w h off z n (fun x => !ltN x dk[a]!) dk j i3 (j1 - 1) (.int .i64 ((j1 : Int) - 1)) (wr.drewN q)) := Lib.hid (fun q => ⟨j1 - 1, by rw [HJ1.out], by omega, Nat.le_refl _, HSs.out.drew ⟨q, rfl⟩, by rw [HUs.out, HGo.out]⟩)
                    generalize dk[a]! = pv at *
                    generalize dk[j1]! = x at *
                    go_wp2
                    go_quiet ((go_at_call 48; exact Calls.quiet_of_same (cmpLess_any _ _ _)))
                    have HF := Lib.hid (HNX.out nq)
                    go_wp2
                    go_roundg (j1 - 1)
                    case measure => omega
                    case rel => exact HF.out
                · have hlez : decide ((i3 : Int) ≤ (j1 : Int)) = false := by simp; omega
                  have HSt := Lib.hid (dn_stop (p := fun x => !ltN x dk[a]!) (d := dk) (i := i3) (j := j1) (Or.inl hle))
                  go_wp2
                  go_quiet (fail)
                  have HF := Lib.hid (HEX.out nq HSt.out)
                  go_wp2_with fail
                  go_meet
                  exact HF.out
            case rest =>
              obtain ⟨j3, rfl, hj3, hS2, hU2⟩ := hcut
              have HS2' := Lib.hid hS2
              have HU2 := Lib.hid hU2
              clear hS2 hU2
              have hj3n : j3 < n := by omega
              by_cases hgt : j3 < i3
              · have hgtz : decide ((j3 : Int) < (i3 : Int)) = true := by simp; omega
                have HRR : Hid (rl = (j3, dk)) := Lib.hid (by
                  rw [← HU.out, HEQ.out]
                  simp only [HU1.out, HU2.out]
                  rw [if_pos hgt])
                go_wp2_with fail
                have ci := HS2'.out.cell (i := j3) hj3n
                have cj := HS2'.out.cell (i := a) han
                have fi := HS2'.out.free j3
                have fj := HS2'.out.free a
                have HSW : Hid (∀ W, (∃ q, W = (((wc.setCell ⟨h, off + j3, none⟩ (.int .u64 (dk[a]! : Int))).setCell ⟨h, off + a, none⟩ (.int .u64 (dk[j3]! : Int))).drewN q)) → SwA w W h off z n (Sort.swp dk j3 a)) := Lib.hid (fun W hW => HS2'.out.swp2 hj3n han hW)
                generalize dk[j3]! = x at *
                generalize dk[a]! = y at *
                obtain ⟨v', hy'⟩ := cell?_setCell_some (w := wc) (p := ⟨h, off + j3, none⟩) (x := .int .u64 (y : Int)) (q := ⟨h, off + a, none⟩) cj
                go_wp2
                go_region
                have HS4 : Hid (SwA w (((wc.setCell ⟨h, off + j3, none⟩ (.int .u64 (y : Int))).setCell ⟨h, off + a, none⟩ (.int .u64 (x : Int))).drew) h off z n (Sort.swp dk j3 a)) := Lib.hid (HSW.out _ ⟨1, rfl⟩)
                clear ci cj fi fj hy' HSW
                have HE : Hid (∀ W, SwA w W h off z n (Sort.swp dk j3 a) → PtEnd w h off z n r (.returned (.tuple #[.int .i64 (j3 : Int), .bool false])) W) := Lib.hid (by
                  rw [← HD.out, HRR.out]
                  exact fun W hW => ⟨rfl, hW⟩)
                have HF := Lib.hid (HE.out _ HS4.out)
                go_wp2
                go_ret2
                exact HF.out
              · have hgtz : decide ((j3 : Int) < (i3 : Int)) = false := by simp; omega
                have hi3n' : i3 < n := by omega
                have HJ3 := Lib.hid (show (j3 : Int) - 1 = ((j3 - 1 : Nat) : Int) from by omega)
                have HR : Hid (Sort.partLoop ltN a (i3 + 1) (j3 - 1) (Sort.swp dk i3 j3) = rl) := Lib.hid (by
                  rw [← HU.out, HEQ.out]
                  simp only [HU1.out, HU2.out]
                  rw [if_neg hgt])
                have ci := HS2'.out.cell (i := i3) hi3n'
                have cj := HS2'.out.cell (i := j3) hj3n
                have fi := HS2'.out.free i3
                have fj := HS2'.out.free j3
                have HSW : Hid (∀ W, (∃ q, W = (((wc.setCell ⟨h, off + i3, none⟩ (.int .u64 (dk[j3]! : Int))).setCell ⟨h, off + j3, none⟩ (.int .u64 (dk[i3]! : Int))).drewN q)) → SwA w W h off z n (Sort.swp dk i3 j3)) := Lib.hid (fun W hW => HS2'.out.swp2 hi3n' hj3n hW)
                generalize dk[i3]! = x at *
                generalize dk[j3]! = y at *
                obtain ⟨v', hy'⟩ := cell?_setCell_some (w := wc) (p := ⟨h, off + i3, none⟩) (x := .int .u64 (y : Int)) (q := ⟨h, off + j3, none⟩) cj
                go_wp2
                go_region
                have HS4 : Hid (SwA w (((wc.setCell ⟨h, off + i3, none⟩ (.int .u64 (y : Int))).setCell ⟨h, off + j3, none⟩ (.int .u64 (x : Int))).drew) h off z n (Sort.swp dk i3 j3)) := Lib.hid (HSW.out _ ⟨1, rfl⟩)
                clear ci cj fi fj hy' HSW
                go_wp2
                go_roundg (j3 - 1 + 1 - (i3 + 1))
                case measure => omega
                case rel => exact ⟨i3 + 1, j3 - 1, _, by go_num, by rw [HJ3.out], by omega, by omega, by omega, Nat.le_refl _, HS4.out, HR.out⟩
end Go.Proofs.Ytpdnbojooelmfaa
