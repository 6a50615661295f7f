/- reverseRangeOrdered; siftDownOrdered, heapSortOrdered: they compute what the library's plain functions say. -/
import Derived.Test.YtpdnbojooelmfaaSrtA
namespace Go.Proofs.Ytpdnbojooelmfaa
open Go.RowKit
set_option linter.unusedVariables false
theorem revL_go {i j : Nat} {d : Array Nat} (h : i < j) : Sort.reverseLoop i j d = Sort.reverseLoop (i + 1) (j - 1) (Sort.swp d i j) := by rw [Sort.reverseLoop, if_pos h]
theorem revL_stop {i j : Nat} {d : Array Nat} (h : ¬ i < j) : Sort.reverseLoop i j d = d := by rw [Sort.reverseLoop, if_neg h]
def RevInv (w0 : World) (h off z n : Nat) (r : Array Nat) (k : Nat) (s6 s7 : Value) (wr : World) : Prop := ∃ (i j : Nat) (d : Array Nat), s6 = .int .i64 (i : Int) ∧ s7 = .int .i64 (j : Int) ∧ j < n ∧ i < n + 1 ∧ j - i ≤ k ∧ SwA w0 wr h off z n d ∧ Sort.reverseLoop i j d = r
set_option maxRecDepth 100000 in
set_option maxHeartbeats 2000000 in
theorem reverse_any {w : World} {h off z cap n : Nat} {d : Array Nat} (hA : SwA w w h off z n d) (hn : n ≤ 1000000000) {a b : Nat} (hab : a < b) (hb : b ≤ n) :
    Calls Try.prog 46 #[.slice (some ⟨h, off, none⟩) n cap, .int .i64 (a : Int), .int .i64 (b : Int)] w (SortEnd w h off z n (Sort.reverseRange d a b)) := by
  have H0 := Lib.hid hA
  clear hA
  obtain ⟨r, hd⟩ : ∃ r, r = Sort.reverseRange d a b := ⟨_, rfl⟩
  rw [← hd]
  have HD := Lib.hid hd
  clear hd
  go_enter Try.func46, Try.ntmps46
  go_wp2
  go_loopg [6, 7] (b - 1 - a) (fun k s6 s7 wr => RevInv w h off z n r k s6 s7 wr)
  case atStart => exact ⟨a, b - 1, d, rfl, by congr 1; omega, by omega, by omega, by omega, H0.out, HD.out.symm⟩
  case round =>
    obtain ⟨i, j, dk, rfl, rfl, hj, hi, hk, hS, hU⟩ := hrel
    have HS := Lib.hid hS
    have HU := Lib.hid hU
    clear hU
    by_cases hlt : i < j
    · have hin : i < n := by omega
      have ci := hS.cell hin
      have cj := hS.cell hj
      have fi := hS.free i
      have fj := hS.free j
      have HSW : Hid (∀ W, (∃ q, W = (((wr.setCell ⟨h, off + i, none⟩ (.int .u64 (dk[j]! : Int))).setCell ⟨h, off + j, none⟩ (.int .u64 (dk[i]! : Int))).drewN q)) → SwA w W h off z n (Sort.swp dk i j)) := Lib.hid (fun W hW => HS.out.swp2 hin hj hW)
      have HR := Lib.hid (revL_go (d := dk) hlt)
      have HJ := Lib.hid (show (j : Int) - 1 = ((j - 1 : Nat) : Int) from by omega)
      have hlt' : (i : Int) < (j : Int) := by omega
      clear hS
      generalize dk[i]! = x at *
      generalize dk[j]! = y at *
      obtain ⟨v', hy'⟩ := cell?_setCell_some (w := wr) (p := ⟨h, off + i, none⟩) (x := .int .u64 (y : Int)) (q := ⟨h, off + j, none⟩) cj
      go_wp2
      go_region
      all_goals (try go_wp2)
      all_goals go_roundg (j - 1 - (i + 1))
      case measure => omega
      case rel => exact ⟨i + 1, j - 1, _, by go_num, by rw [HJ.out], by omega, by omega, Nat.le_refl _, HSW.out _ ⟨1, rfl⟩, by rw [← HR.out, HU.out]⟩
    · have hlt' : decide ((i : Int) < (j : Int)) = false := by simp; omega
      have HE := Lib.hid (show SortEnd w h off z n r (.returned (.tuple #[])) wr from ⟨rfl, by rw [← HU.out, revL_stop hlt]; exact hS⟩)
      clear hS
      go_wp2
      go_end0
      exact HE.out
/-! siftDown, laid open by what the tests say. -/
theorem sd_stop {hi F root : Nat} {d : Array Nat} (h : hi ≤ 2 * root + 1) : Sort.siftDown ltN hi F root d = d := by rw [Sort.siftDown, dif_pos h]
/-- The greater child. -/
def kid (hi F root : Nat) (d : Array Nat) : Nat := if 2 * root + 2 < hi ∧ d[F + (2 * root + 1)]! < d[F + (2 * root + 2)]! then 2 * root + 2 else 2 * root + 1
theorem sd_round {hi F root : Nat} {d : Array Nat} (h : 2 * root + 1 < hi) :
    Sort.siftDown ltN hi F root d = if d[F + root]! < d[F + kid hi F root d]! then Sort.siftDown ltN hi F (kid hi F root d) (Sort.swp d (F + root) (F + kid hi F root d)) else d := by
  rw [Sort.siftDown, dif_neg (by omega)]
  unfold kid
  by_cases h1 : 2 * root + 2 < hi
  · have h1' : 2 * root + 1 + 1 < hi := by omega
    by_cases h2 : d[F + (2 * root + 1)]! < d[F + (2 * root + 2)]!
    · have h2' : d[F + (2 * root + 1)]! < d[F + (2 * root + 1) + 1]! := h2
      by_cases h3 : d[F + root]! < d[F + (2 * root + 2)]! <;> simp [ltN, h1, h1', h2, h2', h3]
    · have h2' : ¬ d[F + (2 * root + 1)]! < d[F + (2 * root + 1) + 1]! := h2
      by_cases h3 : d[F + root]! < d[F + (2 * root + 1)]! <;> simp [ltN, h2, h2', h3]
  · have h1' : ¬ 2 * root + 1 + 1 < hi := by omega
    by_cases h3 : d[F + root]! < d[F + (2 * root + 1)]! <;> simp [ltN, h1, h1', h3]
def SdInv (w0 : World) (h off z n hi first : Nat) (r : Array Nat) (k : Nat) (s8 : Value) (wr : World) : Prop := ∃ (root : Nat) (d : Array Nat), s8 = .int .i64 (root : Int) ∧ root ≤ hi ∧ hi - root ≤ k ∧ SwA w0 wr h off z n d ∧ Sort.siftDown ltN hi first root d = r
theorem kid_r {hi F root : Nat} {d : Array Nat} (h1 : 2 * root + 2 < hi) (h2 : d[F + 2 * root + 1]! < d[F + 2 * root + 2]!) : kid hi F root d = 2 * root + 2 := if_pos ⟨h1, h2⟩
theorem kid_l {hi F root : Nat} {d : Array Nat} (h2 : ¬ (2 * root + 2 < hi ∧ d[F + 2 * root + 1]! < d[F + 2 * root + 2]!)) : kid hi F root d = 2 * root + 1 := if_neg h2
set_option maxRecDepth 100000 in
set_option maxHeartbeats 8000000 in
theorem sift_any {w : World} {h off z cap n : Nat} {d : Array Nat} (hA : SwA w w h off z n d) (hn : n ≤ 1000000000) {lo hi first : Nat} (hlo : lo ≤ hi) (hb : first + hi ≤ n) :
    Calls Try.prog 53 #[.slice (some ⟨h, off, none⟩) n cap, .int .i64 (lo : Int), .int .i64 (hi : Int), .int .i64 (first : Int)] w (SortEnd w h off z n (Sort.siftDown ltN hi first lo d)) := by
  have H0 := Lib.hid hA
  clear hA
  obtain ⟨r, hd⟩ : ∃ r, r = Sort.siftDown ltN hi first lo d := ⟨_, rfl⟩
  rw [← hd]
  have HD := Lib.hid hd
  clear hd
  go_enter Try.func53, Try.ntmps53
  go_wp2
  go_loopg [8] (hi - lo) (fun k s8 wr => SdInv w h off z n hi first r k s8 wr)
  case atStart => exact ⟨lo, d, rfl, hlo, Nat.le_refl _, H0.out, HD.out.symm⟩
  case round =>
    obtain ⟨root, dk, rfl, hr, hk, hS, hU⟩ := hrel
    have HS := Lib.hid hS
    have HU := Lib.hid hU
    have hcw : ∀ t, t < n → wr.cell? ⟨h, off + t, none⟩ = some (.int .u64 (dk[t]! : Int)) := fun t ht => HS.out.cell ht
    have hfw : ∀ t, t < n → wr.frozen? ⟨h, off + t, none⟩ = false := fun t _ => HS.out.free t
    clear hS hU
    by_cases h0 : 2 * root + 1 < hi
    · have h0z : ¬ ((hi : Int) ≤ 2 * (root : Int) + 1) := by omega
      by_cases h1 : 2 * root + 2 < hi
      · have h1z : 2 * (root : Int) + 1 + 1 < (hi : Int) := by omega
        by_cases h2 : dk[first + 2 * root + 1]! < dk[first + 2 * root + 2]!
        · have HK := Lib.hid (kid_r h1 h2)
          by_cases h3 : dk[first + root]! < dk[first + 2 * root + 2]!
          · have HN3 : Hid (dk[first + root]! < dk[first + (2 * root + 2)]!) := Lib.hid h3
            have HRR := Lib.hid (sd_round (F := first) (d := dk) h0)
            go_wp2_with fail
            go_big_quiet (first | (go_at_call 48; refine Calls.quiet_of_same (cmpLess_any _ _ _)))
            go_wp2_with fail
            revert nq; intro nq1
            have hcw2 : ∀ t, t < n → (wr.drewN nq1).cell? ⟨h, off + t, none⟩ = some (.int .u64 (dk[t]! : Int)) := hcw
            have hfw2 : ∀ t, t < n → (wr.drewN nq1).frozen? ⟨h, off + t, none⟩ = false := hfw
            have HS2 := Lib.hid (HS.out.drew ⟨nq1, rfl⟩)
            clear hcw hfw
            generalize wr.drewN nq1 = wr2 at hcw2 hfw2 HS2 ⊢
            go_big_quiet (first | (go_at_call 48; refine Calls.quiet_of_same (cmpLess_any _ _ _)))
            go_wp2_with fail
            have hcw3 : ∀ t, t < n → (wr2.drewN nq).cell? ⟨h, off + t, none⟩ = some (.int .u64 (dk[t]! : Int)) := hcw2
            have hfw3 : ∀ t, t < n → (wr2.drewN nq).frozen? ⟨h, off + t, none⟩ = false := hfw2
            have HS3 := Lib.hid (HS2.out.drew ⟨nq, rfl⟩)
            clear hcw2 hfw2
            generalize wr2.drewN nq = wr3 at hcw3 hfw3 HS3 ⊢
            go_region
            go_wp2
            go_roundg (hi - (2 * root + 2))
            case measure => omega
            case rel => exact ⟨2 * root + 2, _, by go_num, by omega, Nat.le_refl _, HS3.out.swp2 (i := first + root) (j := first + (2 * root + 2)) (by omega) (by omega) ⟨1, rfl⟩, by rw [← HU.out, HRR.out, HK.out, if_pos (HN3.out)]⟩
          · have HN3 : Hid (¬ dk[first + root]! < dk[first + (2 * root + 2)]!) := Lib.hid h3
            have HRR := Lib.hid (sd_round (F := first) (d := dk) h0)
            go_wp2_with fail
            go_big_quiet (first | (go_at_call 48; refine Calls.quiet_of_same (cmpLess_any _ _ _)))
            go_wp2_with fail
            revert nq; intro nq1
            have hcw2 : ∀ t, t < n → (wr.drewN nq1).cell? ⟨h, off + t, none⟩ = some (.int .u64 (dk[t]! : Int)) := hcw
            have hfw2 : ∀ t, t < n → (wr.drewN nq1).frozen? ⟨h, off + t, none⟩ = false := hfw
            have HS2 := Lib.hid (HS.out.drew ⟨nq1, rfl⟩)
            clear hcw hfw
            generalize wr.drewN nq1 = wr2 at hcw2 hfw2 HS2 ⊢
            go_big_quiet (first | (go_at_call 48; refine Calls.quiet_of_same (cmpLess_any _ _ _)))
            go_wp2_with fail
            have HE : Hid (SortEnd w h off z n r (.returned (.tuple #[])) (wr2.drewN nq)) := Lib.hid ⟨rfl, by rw [← HU.out, HRR.out, HK.out, if_neg (HN3.out)]; exact HS2.out.drew ⟨nq, rfl⟩⟩
            (try simp only [Exit.inBlock, Exit.then])
            refine bodyPost_ret (results_none rfl _ _ _) rfl ?_
            exact HE.out
        · have HK := Lib.hid (kid_l (fun h => h2 h.2) : kid hi first root dk = 2 * root + 1)
          by_cases h3 : dk[first + root]! < dk[first + 2 * root + 1]!
          · have HN3 : Hid (dk[first + root]! < dk[first + (2 * root + 1)]!) := Lib.hid h3
            have HRR := Lib.hid (sd_round (F := first) (d := dk) h0)
            go_wp2_with fail
            go_big_quiet (first | (go_at_call 48; refine Calls.quiet_of_same (cmpLess_any _ _ _)))
            go_wp2_with fail
            revert nq; intro nq1
            have hcw2 : ∀ t, t < n → (wr.drewN nq1).cell? ⟨h, off + t, none⟩ = some (.int .u64 (dk[t]! : Int)) := hcw
            have hfw2 : ∀ t, t < n → (wr.drewN nq1).frozen? ⟨h, off + t, none⟩ = false := hfw
            have HS2 := Lib.hid (HS.out.drew ⟨nq1, rfl⟩)
            clear hcw hfw
            generalize wr.drewN nq1 = wr2 at hcw2 hfw2 HS2 ⊢
            go_big_quiet (first | (go_at_call 48; refine Calls.quiet_of_same (cmpLess_any _ _ _)))
            go_wp2_with fail
            have hcw3 : ∀ t, t < n → (wr2.drewN nq).cell? ⟨h, off + t, none⟩ = some (.int .u64 (dk[t]! : Int)) := hcw2
            have hfw3 : ∀ t, t < n → (wr2.drewN nq).frozen? ⟨h, off + t, none⟩ = false := hfw2
            have HS3 := Lib.hid (HS2.out.drew ⟨nq, rfl⟩)
            clear hcw2 hfw2
            generalize wr2.drewN nq = wr3 at hcw3 hfw3 HS3 ⊢
            go_region
            go_wp2
            go_roundg (hi - (2 * root + 1))
            case measure => omega
            case rel => exact ⟨2 * root + 1, _, by go_num, by omega, Nat.le_refl _, HS3.out.swp2 (i := first + root) (j := first + (2 * root + 1)) (by omega) (by omega) ⟨1, rfl⟩, by rw [← HU.out, HRR.out, HK.out, if_pos (HN3.out)]⟩
          · have HN3 : Hid (¬ dk[first + root]! < dk[first + (2 * root + 1)]!) := Lib.hid h3
            have HRR := Lib.hid (sd_round (F := first) (d := dk) h0)
            go_wp2_with fail
            go_big_quiet (first | (go_at_call 48; refine Calls.quiet_of_same (cmpLess_any _ _ _)))
            go_wp2_with fail
            revert nq; intro nq1
            have hcw2 : ∀ t, t < n → (wr.drewN nq1).cell? ⟨h, off + t, none⟩ = some (.int .u64 (dk[t]! : Int)) := hcw
            have hfw2 : ∀ t, t < n → (wr.drewN nq1).frozen? ⟨h, off + t, none⟩ = false := hfw
            have HS2 := Lib.hid (HS.out.drew ⟨nq1, rfl⟩)
            clear hcw hfw
            generalize wr.drewN nq1 = wr2 at hcw2 hfw2 HS2 ⊢
            go_big_quiet (first | (go_at_call 48; refine Calls.quiet_of_same (cmpLess_any _ _ _)))
            go_wp2_with fail
            have HE : Hid (SortEnd w h off z n r (.returned (.tuple #[])) (wr2.drewN nq)) := Lib.hid ⟨rfl, by rw [← HU.out, HRR.out, HK.out, if_neg (HN3.out)]; exact HS2.out.drew ⟨nq, rfl⟩⟩
            (try simp only [Exit.inBlock, Exit.then])
            refine bodyPost_ret (results_none rfl _ _ _) rfl ?_
            exact HE.out
      · have h1z : decide (2 * (root : Int) + 1 + 1 < (hi : Int)) = false := decide_eq_false (by omega)
        have HK := Lib.hid (kid_l (fun h => h1 h.1) : kid hi first root dk = 2 * root + 1)
        by_cases h3 : dk[first + root]! < dk[first + 2 * root + 1]!
        · have HN3 : Hid (dk[first + root]! < dk[first + (2 * root + 1)]!) := Lib.hid h3
          have HRR := Lib.hid (sd_round (F := first) (d := dk) h0)
          go_wp2_with fail
          go_big_quiet (first | (go_at_call 48; refine Calls.quiet_of_same (cmpLess_any _ _ _)))
          go_wp2_with fail
          revert nq; intro nq1
          have hcw2 : ∀ t, t < n → (wr.drewN nq1).cell? ⟨h, off + t, none⟩ = some (.int .u64 (dk[t]! : Int)) := hcw
          have hfw2 : ∀ t, t < n → (wr.drewN nq1).frozen? ⟨h, off + t, none⟩ = false := hfw
          have HS2 := Lib.hid (HS.out.drew ⟨nq1, rfl⟩)
          clear hcw hfw
          generalize wr.drewN nq1 = wr2 at hcw2 hfw2 HS2 ⊢
          go_big_quiet (first | (go_at_call 48; refine Calls.quiet_of_same (cmpLess_any _ _ _)))
          go_wp2_with fail
          have hcw3 : ∀ t, t < n → (wr2.drewN nq).cell? ⟨h, off + t, none⟩ = some (.int .u64 (dk[t]! : Int)) := hcw2
          have hfw3 : ∀ t, t < n → (wr2.drewN nq).frozen? ⟨h, off + t, none⟩ = false := hfw2
          have HS3 := Lib.hid (HS2.out.drew ⟨nq, rfl⟩)
          clear hcw2 hfw2
          generalize wr2.drewN nq = wr3 at hcw3 hfw3 HS3 ⊢
          go_region
          go_wp2
          go_roundg (hi - (2 * root + 1))
          case measure => omega
          case rel => exact ⟨2 * root + 1, _, by go_num, by omega, Nat.le_refl _, HS3.out.swp2 (i := first + root) (j := first + (2 * root + 1)) (by omega) (by omega) ⟨1, rfl⟩, by rw [← HU.out, HRR.out, HK.out, if_pos (HN3.out)]⟩
        · have HN3 : Hid (¬ dk[first + root]! < dk[first + (2 * root + 1)]!) := Lib.hid h3
          have HRR := Lib.hid (sd_round (F := first) (d := dk) h0)
          go_wp2_with fail
          go_big_quiet (first | (go_at_call 48; refine Calls.quiet_of_same (cmpLess_any _ _ _)))
          go_wp2_with fail
          revert nq; intro nq1
          have hcw2 : ∀ t, t < n → (wr.drewN nq1).cell? ⟨h, off + t, none⟩ = some (.int .u64 (dk[t]! : Int)) := hcw
          have hfw2 : ∀ t, t < n → (wr.drewN nq1).frozen? ⟨h, off + t, none⟩ = false := hfw
          have HS2 := Lib.hid (HS.out.drew ⟨nq1, rfl⟩)
          clear hcw hfw
          generalize wr.drewN nq1 = wr2 at hcw2 hfw2 HS2 ⊢
          go_big_quiet (first | (go_at_call 48; refine Calls.quiet_of_same (cmpLess_any _ _ _)))
          go_wp2_with fail
          have HE : Hid (SortEnd w h off z n r (.returned (.tuple #[])) (wr2.drewN nq)) := Lib.hid ⟨rfl, by rw [← HU.out, HRR.out, HK.out, if_neg (HN3.out)]; exact HS2.out.drew ⟨nq, rfl⟩⟩
          (try simp only [Exit.inBlock, Exit.then])
          refine bodyPost_ret (results_none rfl _ _ _) rfl ?_
          exact HE.out
    · have h0z : (hi : Int) ≤ 2 * (root : Int) + 1 := by omega
      have HE : Hid (SortEnd w h off z n r (.returned (.tuple #[])) wr) := Lib.hid ⟨rfl, by rw [← HU.out, sd_stop (by omega)]; exact HS.out⟩
      clear hcw hfw
      go_wp2
      go_end0
      exact HE.out
end Go.Proofs.Ytpdnbojooelmfaa
