/- fast's small functions, and the document's: isBase, may, mayHave, ahead; kt, pt, ahead, may; of any node; conditions: numbers of the width. -/
import Derived.Test.YtbadlmicbbjkaaaN9Ch
import Derived.Test.YtbadlmicbbjkaaaN8RefM
import Derived.Test.YtbadlmicbbjkaaaN8RefI
import Derived.Test.YtbadlmicbbjkaaaN8Get
namespace Go.Proofs.Ytbadlmicbbjkaaa
open Go.RowKit
set_option linter.unusedVariables false
/-- May a node stand there? -/
def bOk (b : Int) : Bool := decide (b % 64 = 0) && decide (0 < b) && decide (b ≤ 1099511627776)
theorem bOk_iff (b : Int) : bOk b = true ↔ b % 64 = 0 ∧ 0 < b ∧ b ≤ 1099511627776 := by simp [bOk, and_assoc]
theorem tmod64 {b : Int} (h : 0 ≤ b) : b.tmod 64 = b % 64 := Int.tmod_eq_emod_of_nonneg h
set_option maxRecDepth 100000 in
set_option maxHeartbeats 1600000 in
theorem isBase_any {b : Int} (hb : 0 ≤ b) (w : World) : Calls Try.prog 42 #[.int .u64 b] w fun e w' => e = .returned (.bool (bOk b)) ∧ w = w' := by
  obtain ⟨R, hR⟩ : ∃ R, R = bOk b := ⟨_, rfl⟩
  rw [← hR]
  have HR := Lib.hid hR
  have hm := tmod64 hb
  clear hR
  obtain h1 | h1 : b % 64 = 0 ∨ b % 64 ≠ 0 := by omega
  · have hm1 : b.tmod 64 = 0 := by omega
    clear hm
    obtain h2 | h2 : 0 < b ∨ ¬ 0 < b := by omega
    · obtain h3 | h3 : b ≤ 1099511627776 ∨ ¬ b ≤ 1099511627776 := by omega
      · have HRt := Lib.hid (show R = true by rw [HR.out]; exact (bOk_iff b).2 ⟨h1, h2, h3⟩)
        go_enter Try.func42, Try.ntmps42
        go_wp2
        go_ret
        exact ⟨by rw [HRt.out]; rfl, rfl⟩
      · have HRt := Lib.hid (show R = false by rw [HR.out, Bool.eq_false_iff]; intro h; have := (bOk_iff b).1 h; omega)
        go_enter Try.func42, Try.ntmps42
        go_wp2
        go_ret
        exact ⟨by rw [HRt.out]; rfl, rfl⟩
    · have HRt := Lib.hid (show R = false by rw [HR.out, Bool.eq_false_iff]; intro h; have := (bOk_iff b).1 h; omega)
      go_enter Try.func42, Try.ntmps42
      go_wp2
      go_ret
      exact ⟨by rw [HRt.out]; rfl, rfl⟩
  · have hm1 : (b.tmod 64 == 0) = false := by rw [hm]; simpa using h1
    have HRt := Lib.hid (show R = false by rw [HR.out, Bool.eq_false_iff]; intro h; have := (bOk_iff b).1 h; omega)
    clear hm
    go_enter Try.func42, Try.ntmps42
    go_wp2
    go_ret
    exact ⟨by rw [HRt.out]; rfl, rfl⟩
set_option maxRecDepth 100000 in
set_option maxHeartbeats 1600000 in
theorem fmay_any {b : Int} (hb : 0 ≤ b) (n : Nd) (w : World) : Calls Try.prog 44 #[.int .u64 b, n.V] w fun e w' => e = .returned (.bool (bOk b && n.may 0 false)) ∧ Below w.heap.size w w' := by
  have R0 := Lib.hid (Row.new w 27 n.cl.toArray)
  have HB := Lib.hid (isBase_any hb (w.alloc (.cells n.cl.toArray 27)))
  have HM := Lib.hid (nMay_any n 0 false (w.alloc (.cells n.cl.toArray 27)))
  have HB0 := Lib.hid (alloc_low w (.cells n.cl.toArray 27))
  generalize bOk b = c at HB ⊢
  generalize n.may 0 false = m at HM ⊢
  cases c with
  | false =>
    go_enter Try.func44, Try.ntmps44
    go_wp2_with (go_at_call 42; refine HB.out.mono ?_; rintro e w' ⟨rfl, rfl⟩)
    go_ret
    exact ⟨rfl, HB0.out⟩
  | true =>
    go_enter Try.func44, Try.ntmps44
    go_wp2_with (first
      | (go_at_call 42; refine HB.out.mono ?_; rintro e w' ⟨rfl, rfl⟩)
      | (refine wpList_load_midg (by rfl) _ _ rfl w.heap.size 0 rfl n.cl _ (ndR R0.out) Try.underlying27 rfl ndI ?_)
      | (go_at_call 67; refine HM.out.mono ?_; rintro e w2 ⟨rfl, h2⟩))
    go_ret
    exact ⟨rfl, low_and HB0.out h2⟩
/-- May a key be in a node, by its Low? -/
def Nd.mayHave (n : Nd) (key : Int) : Bool := decide (n.lo < key) || (decide (key = n.lo) && decide (n.l = 0))
set_option maxRecDepth 100000 in
set_option maxHeartbeats 1600000 in
theorem mayHave_any (n : Nd) (key : Int) (w : World) : Calls Try.prog 53 #[n.V, .int .u64 key] w fun e w' => e = .returned (.bool (n.mayHave key)) ∧ Below w.heap.size w w' := by
  have r0 := Row.new w 27 n.cl.toArray
  have c0 : (w.alloc (.cells n.cl.toArray 27)).cell? ⟨w.heap.size, 0, none⟩ = some (.int .i64 n.l) := ndAt_at r0 0
  have c1 : (w.alloc (.cells n.cl.toArray 27)).cell? ⟨w.heap.size, 1, none⟩ = some (.int .u64 n.lo) := ndAt_at r0 1
  have HB0 := Lib.hid (alloc_low w (.cells n.cl.toArray 27))
  obtain ⟨R, hR⟩ : ∃ R, R = n.mayHave key := ⟨_, rfl⟩
  rw [← hR]
  unfold Nd.mayHave at hR
  clear r0
  obtain h1 | h1 : n.lo < key ∨ ¬ n.lo < key := by omega
  · have HR := Lib.hid (show R = true by rw [hR, decide_eq_true h1]; rfl)
    clear hR
    go_enter Try.func53, Try.ntmps53
    go_wp2
    go_ret
    exact ⟨by rw [HR.out]; rfl, HB0.out⟩
  · obtain h2 | h2 : key = n.lo ∨ key ≠ n.lo := by omega
    · have h2b : (key == n.lo) = true := by simpa using h2
      obtain h3 | h3 : n.l = 0 ∨ n.l ≠ 0 := by omega
      · have HR := Lib.hid (show R = true by rw [hR]; simp [h2, h3])
        rw [h3] at c0
        clear hR h2
        go_enter Try.func53, Try.ntmps53
        go_wp2
        go_ret
        exact ⟨by rw [HR.out]; rfl, HB0.out⟩
      · have HR := Lib.hid (show R = false by rw [hR]; simp [h3]; omega)
        have h3b : (n.l == 0) = false := by simpa using h3
        clear hR h2
        go_enter Try.func53, Try.ntmps53
        go_wp2
        go_ret
        exact ⟨by rw [HR.out]; rfl, HB0.out⟩
    · have h2b : (key == n.lo) = false := by simpa using h2
      have HR := Lib.hid (show R = false by rw [hR]; simp [h2]; omega)
      clear hR
      go_enter Try.func53, Try.ntmps53
      go_wp2
      go_ret
      exact ⟨by rw [HR.out]; rfl, HB0.out⟩
set_option maxRecDepth 100000 in
set_option maxHeartbeats 1600000 in
theorem fahead_any (n : Nd) {p : Nat} (hp : p ≤ 8) (w : World) : Calls Try.prog 58 #[n.V, .int .i64 (p : Int)] w fun e w' => e = .returned (.int .u64 (n.ahd p)) ∧ Below w.heap.size w w' := by
  have r0 := Row.new w 27 n.cl.toArray
  have c4 : (w.alloc (.cells n.cl.toArray 27)).cell? ⟨w.heap.size, 4, none⟩ = some (.int .u64 n.fi) := ndAt_at r0 4
  have HB0 := Lib.hid (alloc_low w (.cells n.cl.toArray 27))
  obtain rfl | ⟨j, rfl⟩ : p = 0 ∨ ∃ j, p = j + 1 := by cases p; exact .inl rfl; exact .inr ⟨_, rfl⟩
  · rw [n.ahd_zero]
    clear r0
    go_enter Try.func58, Try.ntmps58
    go_wp2
    go_ret
    exact ⟨rfl, HB0.out⟩
  · have cj := ndAt_ptr r0 (i := j) (by omega)
    rw [n.ahd_succ]
    obtain ⟨y, hy⟩ : ∃ y, y = n.ptr j := ⟨_, rfl⟩
    rw [← hy] at cj ⊢
    have hj1 : ((j + 1 : Nat) : Int) - 1 = (j : Int) := by omega
    have hj8 : (j : Int) < 8 := by omega
    clear r0 hy
    go_enter Try.func58, Try.ntmps58
    go_wp2
    go_ret
    exact ⟨rfl, HB0.out⟩
set_option maxRecDepth 100000 in
set_option maxHeartbeats 1600000 in
theorem r9ahead_any (n : Nd) {p : Nat} (hp : p ≤ 8) (w : World) : Calls Try.prog 64 #[n.V, .int .i64 (p : Int)] w fun e w' => e = .returned (.int .u64 (n.ahd p)) ∧ Below w.heap.size w w' := by
  have r0 := Row.new w 27 n.cl.toArray
  have c4 : (w.alloc (.cells n.cl.toArray 27)).cell? ⟨w.heap.size, 4, none⟩ = some (.int .u64 n.fi) := ndAt_at r0 4
  have HB0 := Lib.hid (alloc_low w (.cells n.cl.toArray 27))
  obtain rfl | ⟨j, rfl⟩ : p = 0 ∨ ∃ j, p = j + 1 := by cases p; exact .inl rfl; exact .inr ⟨_, rfl⟩
  · rw [n.ahd_zero]
    clear r0
    go_enter Try.func64, Try.ntmps64
    go_wp2
    go_ret
    exact ⟨rfl, HB0.out⟩
  · have cj := ndAt_ptr r0 (i := j) (by omega)
    rw [n.ahd_succ]
    obtain ⟨y, hy⟩ : ∃ y, y = n.ptr j := ⟨_, rfl⟩
    rw [← hy] at cj ⊢
    have hj1 : ((j + 1 : Nat) : Int) - 1 = (j : Int) := by omega
    have hj8 : (j : Int) < 8 := by omega
    clear r0 hy
    go_enter Try.func64, Try.ntmps64
    go_wp2
    go_ret
    exact ⟨rfl, HB0.out⟩
set_option maxRecDepth 100000 in
set_option maxHeartbeats 1600000 in
theorem kt_any {b : Int} (hb : 0 ≤ b ∧ b ≤ 1099511627776) {i : Nat} (hi : i ≤ 8) (w : World) : Calls Try.prog 37 #[.int .u64 b, .int .i64 (i : Int)] w fun e w' => e = .returned (.int .u64 (kA b i)) ∧ w = w' := by
  have h1 : IntKind.u64.wrap (16 * (i : Int)) = 16 * (i : Int) := by rw [IntKind.wrap_u64]; omega
  have h2 : IntKind.u64.wrap (b + 64) = b + 64 := by rw [IntKind.wrap_u64]; omega
  have h3 : IntKind.u64.wrap (b + 64 + 16 * (i : Int)) = b + 64 + 16 * (i : Int) := by rw [IntKind.wrap_u64]; omega
  go_enter Try.func37, Try.ntmps37
  go_wp2
  go_ret
  exact ⟨rfl, rfl⟩
set_option maxRecDepth 100000 in
set_option maxHeartbeats 1600000 in
theorem pt_any {b : Int} (hb : 0 ≤ b ∧ b ≤ 1099511627776) {i : Nat} (hi : i ≤ 8) (w : World) : Calls Try.prog 38 #[.int .u64 b, .int .i64 (i : Int)] w fun e w' => e = .returned (.int .u64 (pA b i)) ∧ w = w' := by
  have h1 : IntKind.u64.wrap (16 * (i : Int)) = 16 * (i : Int) := by rw [IntKind.wrap_u64]; omega
  have h2 : IntKind.u64.wrap (b + 72) = b + 72 := by rw [IntKind.wrap_u64]; omega
  have h3 : IntKind.u64.wrap (b + 72 + 16 * (i : Int)) = b + 72 + 16 * (i : Int) := by rw [IntKind.wrap_u64]; omega
  go_enter Try.func38, Try.ntmps38
  go_wp2
  go_ret
  exact ⟨rfl, rfl⟩
end Go.Proofs.Ytbadlmicbbjkaaa
