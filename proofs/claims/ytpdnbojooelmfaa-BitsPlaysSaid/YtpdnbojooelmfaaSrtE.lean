/- heapSortOrdered: it computes what the library's plain function says. -/
import Derived.Test.YtpdnbojooelmfaaSrtD
namespace Go.Proofs.Ytpdnbojooelmfaa
open Go.RowKit
set_option linter.unusedVariables false
def HbInv (w0 : World) (h off z n H a : Nat) (r : Array Nat) (k : Nat) (s9 : Value) (wr : World) : Prop := ∃ d : Array Nat, s9 = .int .i64 ((k : Int) - 1) ∧ k ≤ (H - 1) / 2 + 1 ∧ SwA w0 wr h off z n d ∧ Sort.heapBuild ltN H a k d = r
def HpInv (w0 : World) (h off z n H a : Nat) (r : Array Nat) (k : Nat) (s10 : Value) (wr : World) : Prop := ∃ d : Array Nat, s10 = .int .i64 ((k : Int) - 1) ∧ k ≤ H ∧ SwA w0 wr h off z n d ∧ Sort.heapPop ltN a k d = r
set_option maxRecDepth 100000 in
set_option maxHeartbeats 4000000 in
theorem heapSort_any {w : World} {h off z cap n : Nat} {d : Array Nat} (hA : SwA w w h off z n d) (hn : n ≤ 1000000000) {a b : Nat} (hab : a < b) (hb : b ≤ n) :
    Calls Try.prog 43 #[.slice (some ⟨h, off, none⟩) n cap, .int .i64 (a : Int), .int .i64 (b : Int)] w (SortEnd w h off z n (Sort.heapSort ltN d a b)) := by
  obtain ⟨H, hH⟩ : ∃ H, H = b - a := ⟨_, rfl⟩
  have hl : (b : Int) - (a : Int) = (H : Int) := by omega
  have hH1 : 1 ≤ H := by omega
  have haH : a + H ≤ n := by omega
  obtain ⟨r1, hr1⟩ : ∃ r1, r1 = Sort.heapBuild ltN H a ((H - 1) / 2 + 1) d := ⟨_, rfl⟩
  obtain ⟨r, hd⟩ : ∃ r, r = Sort.heapSort ltN d a b := ⟨_, rfl⟩
  have HD : Hid (Sort.heapPop ltN a H r1 = r) := Lib.hid (by rw [hd, hr1, hH]; rfl)
  rw [← hd]
  have HR1 := Lib.hid hr1
  have H0 := Lib.hid hA
  have hq : ((H : Int) - 1) / 2 = (((H - 1) / 2 + 1 : Nat) : Int) - 1 := by omega
  have HQ := Lib.hid hq
  clear hA hd hr1 hH hq
  go_enter Try.func43, Try.ntmps43
  go_wp2
  go_loopg [9] ((H - 1) / 2 + 1) (fun k s9 wr => HbInv w h off z n H a r1 k s9 wr)
  case atStart => exact ⟨d, by rw [HQ.out], Nat.le_refl _, H0.out, HR1.out.symm⟩
  case round =>
    obtain ⟨dk, hs, hk, hS, hU⟩ := hrel
    have HS := Lib.hid hS
    have HU := Lib.hid hU
    clear hS hU
    cases gk with
    | zero =>
      rw [show ((0 : Nat) : Int) - 1 = -1 from rfl] at hs
      subst hs
      have HU0 : Hid (dk = r1) := Lib.hid HU.out
      go_wp2
      go_loopg [10] H (fun k s10 wr2 => HpInv w h off z n H a r k s10 wr2)
      case atStart => exact ⟨dk, rfl, Nat.le_refl _, HS.out, by rw [HU0.out]; exact HD.out⟩
      case round =>
        obtain ⟨dj, hs2, hk2, hS2, hU2⟩ := hrel
        have HS2 := Lib.hid hS2
        have HU2 := Lib.hid hU2
        clear hS2 hU2
        cases gk with
        | zero =>
          rw [show ((0 : Nat) : Int) - 1 = -1 from rfl] at hs2
          subst hs2
          have HE := Lib.hid (show SortEnd w h off z n r (.returned (.tuple #[])) wr from ⟨rfl, by rw [← HU2.out]; exact HS2.out⟩)
          go_wp2
          go_end0
          exact HE.out
        | succ j =>
          rw [show ((j + 1 : Nat) : Int) - 1 = (j : Int) from by omega] at hs2
          subst hs2
          have han : a < n := by omega
          have hjn : a + j < n := by omega
          have ca := HS2.out.cell han
          have cj := HS2.out.cell hjn
          have fa := HS2.out.free a
          have fj := HS2.out.free (a + j)
          have HSW : Hid (∀ W, (∃ q, W = (((wr.setCell ⟨h, off + a, none⟩ (.int .u64 (dj[a + j]! : Int))).setCell ⟨h, off + (a + j), none⟩ (.int .u64 (dj[a]! : Int))).drewN q)) → SwA w W h off z n (Sort.swp dj a (a + j))) := Lib.hid (fun W hW => HS2.out.swp2 han hjn hW)
          generalize dj[a]! = x at *
          generalize dj[a + j]! = y at *
          obtain ⟨v', hy'⟩ := cell?_setCell_some (w := wr) (p := ⟨h, off + a, none⟩) (x := .int .u64 (y : Int)) (q := ⟨h, off + (a + j), none⟩) cj
          go_wp2
          go_region
          go_wp2_with fail
          have HS3 := Lib.hid (HSW.out _ ⟨1, rfl⟩)
          have HSI := sift_any (cap := cap) HS3.out.here hn (lo := 0) (hi := j) (first := a) (by omega) (by omega)
          rw [show ((0 : Nat) : Int) = 0 from rfl] at HSI
          refine HSI.mono ?_
          rintro e w1 ⟨rfl, hE⟩
          have HE := Lib.hid (HS3.out.then hE)
          clear hE HSI
          go_wp2
          go_roundg j
          case measure => omega
          case rel => exact ⟨_, rfl, by omega, HE.out, HU2.out⟩
    | succ j =>
      rw [show ((j + 1 : Nat) : Int) - 1 = (j : Int) from by omega] at hs
      subst hs
      have HSI := Lib.hid (sift_any (cap := cap) HS.out.here hn (lo := j) (hi := H) (first := a) (by omega) haH)
      go_wp2_with fail
      refine HSI.out.mono ?_
      rintro e w1 ⟨rfl, hE⟩
      have HE := Lib.hid (HS.out.then hE)
      clear hE
      go_wp2
      go_roundg j
      case measure => omega
      case rel => exact ⟨_, rfl, by omega, HE.out, HU.out⟩
end Go.Proofs.Ytpdnbojooelmfaa
