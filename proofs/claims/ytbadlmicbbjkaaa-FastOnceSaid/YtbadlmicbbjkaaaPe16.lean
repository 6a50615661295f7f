/- Texts of this claim, packed: N9Sm, N9Rfl. -/
import Derived.Test.YtbadlmicbbjkaaaPe14
import Derived.Test.YtbadlmicbbjkaaaPe15
import Derived.Test.YtbadlmicbbjkaaaPe10
import Derived.Test.YtbadlmicbbjkaaaPe05
/- fast's small functions, and the document's: isBase, may, mayHave, ahead; kt, pt, ahead, may; of any node; conditions: numbers of the width. -/
namespace Go.Proofs.Ytbadlmicbbjkaaa
open Go.RowKit
set_option linter.unusedVariables false
/-- May a node stand there? -/
def bOk (b : Int) : Bool := decide (b % 64 = 0) && decide (0 < b) && decide (b ≤ 1099511627776)
theorem bOk_iff (b : Int) : bOk b = true ↔ b % 64 = 0 ∧ 0 < b ∧ b ≤ 1099511627776 := by simp [bOk, and_assoc]
theorem tmod64 {b : Int} (h : 0 ≤ b) : b.tmod 64 = b % 64 := Int.tmod_eq_emod_of_nonneg h
set_option maxRecDepth 100000 in
set_option maxHeartbeats 1600000 in
theorem isBase_any {b : Int} (hb : 0 ≤ b) (w : World) : Calls Try.prog 42 #[.int .u64 b] w fun e w' => e = .returned (.bool (bOk b)) ∧ w = w' := by
  obtain ⟨R, hR⟩ : ∃ R, R = bOk b := ⟨_, rfl⟩
  rw [← hR]
  have HR := Lib.hid hR
  have hm := tmod64 hb
  clear hR
  obtain h1 | h1 : b % 64 = 0 ∨ b % 64 ≠ 0 := by omega
  · have hm1 : b.tmod 64 = 0 := by omega
    clear hm
    obtain h2 | h2 : 0 < b ∨ ¬ 0 < b := by omega
    · obtain h3 | h3 : b ≤ 1099511627776 ∨ ¬ b ≤ 1099511627776 := by omega
      · have HRt := Lib.hid (show R = true by rw [HR.out]; exact (bOk_iff b).2 ⟨h1, h2, h3⟩)
        go_enter Try.func42, Try.ntmps42
        go_wp2
        go_ret
        exact ⟨by rw [HRt.out]; rfl, rfl⟩
      · have HRt := Lib.hid (show R = false by rw [HR.out, Bool.eq_false_iff]; intro h; have := (bOk_iff b).1 h; omega)
        go_enter Try.func42, Try.ntmps42
        go_wp2
        go_ret
        exact ⟨by rw [HRt.out]; rfl, rfl⟩
    · have HRt := Lib.hid (show R = false by rw [HR.out, Bool.eq_false_iff]; intro h; have := (bOk_iff b).1 h; omega)
      go_enter Try.func42, Try.ntmps42
      go_wp2
      go_ret
      exact ⟨by rw [HRt.out]; rfl, rfl⟩
  · have hm1 : (b.tmod 64 == 0) = false := by rw [hm]; simpa using h1
    have HRt := Lib.hid (show R = false by rw [HR.out, Bool.eq_false_iff]; intro h; have := (bOk_iff b).1 h; omega)
    clear hm
    go_enter Try.func42, Try.ntmps42
    go_wp2
    go_ret
    exact ⟨by rw [HRt.out]; rfl, rfl⟩
set_option maxRecDepth 100000 in
set_option maxHeartbeats 1600000 in
theorem fmay_any {b : Int} (hb : 0 ≤ b) (n : Nd) (w : World) : Calls Try.prog 44 #[.int .u64 b, n.V] w fun e w' => e = .returned (.bool (bOk b && n.may 0 false)) ∧ Below w.heap.size w w' := by
  have R0 := Lib.hid (Row.new w 27 n.cl.toArray)
  have HB := Lib.hid (isBase_any hb (w.alloc (.cells n.cl.toArray 27)))
  have HM := Lib.hid (nMay_any n 0 false (w.alloc (.cells n.cl.toArray 27)))
  have HB0 := Lib.hid (alloc_low w (.cells n.cl.toArray 27))
  generalize bOk b = c at HB ⊢
  generalize n.may 0 false = m at HM ⊢
  cases c with
  | false =>
    go_enter Try.func44, Try.ntmps44
    go_wp2_with (go_at_call 42; refine HB.out.mono ?_; rintro e w' ⟨rfl, rfl⟩)
    go_ret
    exact ⟨rfl, HB0.out⟩
  | true =>
    go_enter Try.func44, Try.ntmps44
    go_wp2_with (first
      | (go_at_call 42; refine HB.out.mono ?_; rintro e w' ⟨rfl, rfl⟩)
      | (refine wpList_load_midg (by rfl) _ _ rfl w.heap.size 0 rfl n.cl _ (ndR R0.out) Try.underlying27 rfl ndI ?_)
      | (go_at_call 67; refine HM.out.mono ?_; rintro e w2 ⟨rfl, h2⟩))
    go_ret
    exact ⟨rfl, low_and HB0.out h2⟩
/-- May a key be in a node, by its Low? -/
def Nd.mayHave (n : Nd) (key : Int) : Bool := decide (n.lo < key) || (decide (key = n.lo) && decide (n.l = 0))
set_option maxRecDepth 100000 in
set_option maxHeartbeats 1600000 in
theorem mayHave_any (n : Nd) (key : Int) (w : World) : Calls Try.prog 53 #[n.V, .int .u64 key] w fun e w' => e = .returned (.bool (n.mayHave key)) ∧ Below w.heap.size w w' := by
  have r0 := Row.new w 27 n.cl.toArray
  have c0 : (w.alloc (.cells n.cl.toArray 27)).cell? ⟨w.heap.size, 0, none⟩ = some (.int .i64 n.l) := ndAt_at r0 0
  have c1 : (w.alloc (.cells n.cl.toArray 27)).cell? ⟨w.heap.size, 1, none⟩ = some (.int .u64 n.lo) := ndAt_at r0 1
  have HB0 := Lib.hid (alloc_low w (.cells n.cl.toArray 27))
  obtain ⟨R, hR⟩ : ∃ R, R = n.mayHave key := ⟨_, rfl⟩
  rw [← hR]
  unfold Nd.mayHave at hR
  clear r0
  obtain h1 | h1 : n.lo < key ∨ ¬ n.lo < key := by omega
  · have HR := Lib.hid (show R = true by rw [hR, decide_eq_true h1]; rfl)
    clear hR
    go_enter Try.func53, Try.ntmps53
    go_wp2
    go_ret
    exact ⟨by rw [HR.out]; rfl, HB0.out⟩
  · obtain h2 | h2 : key = n.lo ∨ key ≠ n.lo := by omega
    · have h2b : (key == n.lo) = true := by simpa using h2
      obtain h3 | h3 : n.l = 0 ∨ n.l ≠ 0 := by omega
      · have HR := Lib.hid (show R = true by rw [hR]; simp [h2, h3])
        rw [h3] at c0
        clear hR h2
        go_enter Try.func53, Try.ntmps53
        go_wp2
        go_ret
        exact ⟨by rw [HR.out]; rfl, HB0.out⟩
      · have HR := Lib.hid (show R = false by rw [hR]; simp [h3]; omega)
        have h3b : (n.l == 0) = false := by simpa using h3
        clear hR h2
        go_enter Try.func53, Try.ntmps53
        go_wp2
        go_ret
        exact ⟨by rw [HR.out]; rfl, HB0.out⟩
    · have h2b : (key == n.lo) = false := by simpa using h2
      have HR := Lib.hid (show R = false by rw [hR]; simp [h2]; omega)
      clear hR
      go_enter Try.func53, Try.ntmps53
      go_wp2
      go_ret
      exact ⟨by rw [HR.out]; rfl, HB0.out⟩
set_option maxRecDepth 100000 in
set_option maxHeartbeats 1600000 in
theorem fahead_any (n : Nd) {p : Nat} (hp : p ≤ 8) (w : World) : Calls Try.prog 58 #[n.V, .int .i64 (p : Int)] w fun e w' => e = .returned (.int .u64 (n.ahd p)) ∧ Below w.heap.size w w' := by
  have r0 := Row.new w 27 n.cl.toArray
  have c4 : (w.alloc (.cells n.cl.toArray 27)).cell? ⟨w.heap.size, 4, none⟩ = some (.int .u64 n.fi) := ndAt_at r0 4
  have HB0 := Lib.hid (alloc_low w (.cells n.cl.toArray 27))
  obtain rfl | ⟨j, rfl⟩ : p = 0 ∨ ∃ j, p = j + 1 := by cases p; exact .inl rfl; exact .inr ⟨_, rfl⟩
  · rw [n.ahd_zero]
    clear r0
    go_enter Try.func58, Try.ntmps58
    go_wp2
    go_ret
    exact ⟨rfl, HB0.out⟩
  · have cj := ndAt_ptr r0 (i := j) (by omega)
    rw [n.ahd_succ]
    obtain ⟨y, hy⟩ : ∃ y, y = n.ptr j := ⟨_, rfl⟩
    rw [← hy] at cj ⊢
    have hj1 : ((j + 1 : Nat) : Int) - 1 = (j : Int) := by omega
    have hj8 : (j : Int) < 8 := by omega
    clear r0 hy
    go_enter Try.func58, Try.ntmps58
    go_wp2
    go_ret
    exact ⟨rfl, HB0.out⟩
set_option maxRecDepth 100000 in
set_option maxHeartbeats 1600000 in
theorem r9ahead_any (n : Nd) {p : Nat} (hp : p ≤ 8) (w : World) : Calls Try.prog 64 #[n.V, .int .i64 (p : Int)] w fun e w' => e = .returned (.int .u64 (n.ahd p)) ∧ Below w.heap.size w w' := by
  have r0 := Row.new w 27 n.cl.toArray
  have c4 : (w.alloc (.cells n.cl.toArray 27)).cell? ⟨w.heap.size, 4, none⟩ = some (.int .u64 n.fi) := ndAt_at r0 4
  have HB0 := Lib.hid (alloc_low w (.cells n.cl.toArray 27))
  obtain rfl | ⟨j, rfl⟩ : p = 0 ∨ ∃ j, p = j + 1 := by cases p; exact .inl rfl; exact .inr ⟨_, rfl⟩
  · rw [n.ahd_zero]
    clear r0
    go_enter Try.func64, Try.ntmps64
    go_wp2
    go_ret
    exact ⟨rfl, HB0.out⟩
  · have cj := ndAt_ptr r0 (i := j) (by omega)
    rw [n.ahd_succ]
    obtain ⟨y, hy⟩ : ∃ y, y = n.ptr j := ⟨_, rfl⟩
    rw [← hy] at cj ⊢
    have hj1 : ((j + 1 : Nat) : Int) - 1 = (j : Int) := by omega
    have hj8 : (j : Int) < 8 := by omega
    clear r0 hy
    go_enter Try.func64, Try.ntmps64
    go_wp2
    go_ret
    exact ⟨rfl, HB0.out⟩
set_option maxRecDepth 100000 in
set_option maxHeartbeats 1600000 in
theorem kt_any {b : Int} (hb : 0 ≤ b ∧ b ≤ 1099511627776) {i : Nat} (hi : i ≤ 8) (w : World) : Calls Try.prog 37 #[.int .u64 b, .int .i64 (i : Int)] w fun e w' => e = .returned (.int .u64 (kA b i)) ∧ w = w' := by
  have h1 : IntKind.u64.wrap (16 * (i : Int)) = 16 * (i : Int) := by rw [IntKind.wrap_u64]; omega
  have h2 : IntKind.u64.wrap (b + 64) = b + 64 := by rw [IntKind.wrap_u64]; omega
  have h3 : IntKind.u64.wrap (b + 64 + 16 * (i : Int)) = b + 64 + 16 * (i : Int) := by rw [IntKind.wrap_u64]; omega
  go_enter Try.func37, Try.ntmps37
  go_wp2
  go_ret
  exact ⟨rfl, rfl⟩
set_option maxRecDepth 100000 in
set_option maxHeartbeats 1600000 in
theorem pt_any {b : Int} (hb : 0 ≤ b ∧ b ≤ 1099511627776) {i : Nat} (hi : i ≤ 8) (w : World) : Calls Try.prog 38 #[.int .u64 b, .int .i64 (i : Int)] w fun e w' => e = .returned (.int .u64 (pA b i)) ∧ w = w' := by
  have h1 : IntKind.u64.wrap (16 * (i : Int)) = 16 * (i : Int) := by rw [IntKind.wrap_u64]; omega
  have h2 : IntKind.u64.wrap (b + 72) = b + 72 := by rw [IntKind.wrap_u64]; omega
  have h3 : IntKind.u64.wrap (b + 72 + 16 * (i : Int)) = b + 72 + 16 * (i : Int) := by rw [IntKind.wrap_u64]; omega
  go_enter Try.func38, Try.ntmps38
  go_wp2
  go_ret
  exact ⟨rfl, rfl⟩
end Go.Proofs.Ytbadlmicbbjkaaa
/- fast's areNew and refusal, the document's had and may: of any node; conditions: numbers of the width. -/
namespace Go.Proofs.Ytbadlmicbbjkaaa
open Go.RowKit
set_option linter.unusedVariables false
/-- Has a node a pointer? -/
def Nd.had (n : Nd) (p : Int) : Bool := (p == 0) || (p == n.fi) || (List.range n.len).any (fun i => n.ptr i == p)
/-- Why a node is not changed. -/
def refE (b : Int) (n : Nd) (l : List Int) : Int := if (bOk b && n.may 0 false && l.all (fun p => !n.had p)) = true then (if 0 ≤ n.inv then 7 else 0) else 2
theorem had_yes {n : Nd} {p : Int} {k : Nat} (hk : k < n.len) (h : n.ptr k = p) : n.had p = true := by
  unfold Nd.had
  rw [Bool.or_eq_true]
  right
  rw [List.any_eq_true]
  exact ⟨k, List.mem_range.2 hk, by simpa using h⟩
theorem had_no {n : Nd} {p : Int} (h0 : p ≠ 0) (h1 : p ≠ n.fi) (h : ∀ i, i < n.len → n.ptr i ≠ p) : n.had p = false := by
  unfold Nd.had
  rw [Bool.eq_false_iff]
  simp only [ne_eq, Bool.or_eq_true, beq_iff_eq, h0, h1, false_or, List.any_eq_true, List.mem_range, not_exists, not_and]
  exact h
theorem had_end {n : Nd} {p : Int} (h : ∀ i, i < n.len → n.ptr i ≠ p) : n.had p = ((p == 0) || (p == n.fi)) := by
  unfold Nd.had
  rw [show (List.range n.len).any (fun i => n.ptr i == p) = false by rw [Bool.eq_false_iff]; simpa using h, Bool.or_false]
set_option maxRecDepth 100000 in
set_option maxHeartbeats 4000000 in
theorem r9had_any (n : Nd) (p : Int) (w : World) : Calls Try.prog 61 #[n.V, .int .u64 p] w fun e w' => e = .returned (.bool (n.had p)) ∧ Below w.heap.size w w' := by
  have r0 := Row.new w 27 n.cl.toArray
  obtain ⟨Wa, hWa⟩ : ∃ Wa, Wa = w.alloc (.cells n.cl.toArray 27) := ⟨_, rfl⟩
  rw [← hWa] at r0
  have HB0 := Lib.hid (show Below w.heap.size w Wa by rw [hWa]; exact alloc_low _ _)
  have HRR := Lib.hid (fun W' (hb : Below Wa.heap.size Wa W') => (show NdAt W' w.heap.size n from r0.below hb r0.lt))
  have HC4 := Lib.hid (fun W' (hb : Below Wa.heap.size Wa W') => (show W'.cell? ⟨w.heap.size, 4, none⟩ = some (.int .u64 n.fi) from ndAt_at (HRR.out W' hb) 4))
  have HWa := Lib.hid hWa
  have HL := Lib.hid (fun W' => r8Len_any n W')
  have hln := n.len_le
  have HY := Lib.hid (fun k hk h => had_yes (n := n) (p := p) (k := k) hk h)
  have HE := Lib.hid (fun h => had_end (n := n) (p := p) h)
  obtain ⟨F, hF⟩ : ∃ F, F = n.had p := ⟨_, rfl⟩
  rw [← hF] at HY HE
  rw [← hF]
  clear r0 hWa hF
  go_enter Try.func61, Try.ntmps61
  go_wp2_with fail
  rw [← HWa.out]
  go_loopw [5] (fun i wr => ∃ k : Nat, k ≤ n.len ∧ i = .int .i64 (k : Int) ∧ (∀ j, j < k → n.ptr j ≠ p) ∧ Below Wa.heap.size Wa wr) (fun i _ => n.len - (intOf i).toNat)
  case atStart => exact ⟨0, by omega, rfl, fun p hp => by omega, Below.refl _ _⟩
  case round =>
    rename World => wr
    obtain ⟨k, hk, rfl, hne, hb⟩ := hrel
    have HNE := Lib.hid hne
    clear hne
    by_cases hlt : k < n.len
    · have hk8 : (k : Int) < 8 := by omega
      have HPt := Lib.hid (fun W' (hb : Below Wa.heap.size Wa W') => ndAt_ptr (HRR.out W' hb) (i := k) (by omega))
      have HYk := Lib.hid (HY.out k hlt)
      obtain ⟨y, hy⟩ : ∃ y, y = n.ptr k := ⟨_, rfl⟩
      rw [← hy] at HPt HYk
      have HYe := Lib.hid hy
      clear hy
      obtain rfl | hyp : y = p ∨ y ≠ p := by omega
      · have HFt := Lib.hid (HYk.out rfl)
        go_wp2_with (first
          | (refine wpList_load_mid rfl _ _ rfl w.heap.size 0 rfl n.cl _ (ndR (HRR.out _ (by assumption))) Try.underlying27 rfl ndI ?_)
          | (go_at_call 39; refine (HL.out _).mono ?_; rintro e w2 ⟨rfl, hb2⟩; have hb2 := low_and hb hb2; have ck := HPt.out _ hb2))
        go_ret
        exact ⟨by rw [HFt.out]; rfl, low_and HB0.out hb2⟩
      · have hyb : (y == p) = false := by simpa using hyp
        go_wp2_with (first
          | (refine wpList_load_mid rfl _ _ rfl w.heap.size 0 rfl n.cl _ (ndR (HRR.out _ (by assumption))) Try.underlying27 rfl ndI ?_)
          | (go_at_call 39; refine (HL.out _).mono ?_; rintro e w2 ⟨rfl, hb2⟩; have hb2 := low_and hb hb2; have ck := HPt.out _ hb2))
        refine ⟨⟨k + 1, by omega, by go_num, fun j hj => ?_, hb2⟩, by simp [intOf]; omega⟩
        rcases Nat.lt_or_eq_of_le (Nat.le_of_lt_succ hj) with h | rfl
        · exact HNE.out j h
        · rw [← HYe.out]; exact hyp
    · obtain rfl : k = n.len := by omega
      have HFk := Lib.hid (HE.out HNE.out)
      obtain rfl | h0 : p = 0 ∨ p ≠ 0 := by omega
      · go_wp2_with (first
          | (refine wpList_load_mid rfl _ _ rfl w.heap.size 0 rfl n.cl _ (ndR (HRR.out _ (by assumption))) Try.underlying27 rfl ndI ?_)
          | (go_at_call 39; refine (HL.out _).mono ?_; rintro e w2 ⟨rfl, hb2⟩; have hb2 := low_and hb hb2; have c4 := HC4.out _ hb2))
        go_ret
        exact ⟨by rw [HFk.out]; rfl, low_and HB0.out hb2⟩
      · have h0b : (p == 0) = false := by simpa using h0
        go_wp2_with (first
          | (refine wpList_load_mid rfl _ _ rfl w.heap.size 0 rfl n.cl _ (ndR (HRR.out _ (by assumption))) Try.underlying27 rfl ndI ?_)
          | (go_at_call 39; refine (HL.out _).mono ?_; rintro e w2 ⟨rfl, hb2⟩; have hb2 := low_and hb hb2; have c4 := HC4.out _ hb2))
        go_ret
        exact ⟨by rw [HFk.out, h0b]; rfl, low_and HB0.out hb2⟩
/-- A slice of addresses that reads as a list, in worlds to come. -/
theorem AdsAt.low {w w' : World} {v : Value} {l : List Int} (h : AdsAt w v l) (hb : Below w.heap.size w w') : AdsAt w' v l := by
  obtain ⟨A, cap, rfl, h⟩ := h
  refine ⟨A, cap, rfl, fun h0 => ?_⟩
  obtain ⟨g, o, rfl, hc⟩ := h h0
  exact ⟨g, o, rfl, fun i x hx => (hb.cell (p := ⟨g, o + i, none⟩) (w.block_lt_of_cell? _ (hc i x hx))).trans (hc i x hx)⟩
theorem run_ptrs (g : Nat) {L : Nat} (hL : L ≤ 8) (W : World) : (Instr.sliceAt 25 (.pointer (some ⟨g, 13, none⟩)) none (some (.int .i64 (L : Int))) none).run Try.prog W = .ok (.slice (some ⟨g, 13, none⟩) L 8) W := by
  have hal : Try.prog.arrayLen 25 = 8 := by simp [Program.arrayLen, Try.underlying25]
  have hel : Try.prog.elem 25 = 23 := by simp [Program.elem, Try.underlying25]
  have hz := Try.sizeOf23
  rw [run_sliceAt_array_h W 25 ⟨g, 13, none⟩ (by simp [Program.arrayLen, Program.elem, Try.underlying25]) .i64 (L : Int) (by omega) (by rw [hal]; omega)]
  rw [hal, hel]
  go_simp
set_option maxRecDepth 100000 in
set_option maxHeartbeats 4000000 in
theorem areNew_any (n : Nd) {w : World} {v : Value} {l : List Int} (h : AdsAt w v l) (hl : l.length ≤ 1000) : Calls Try.prog 69 #[n.V, v] w fun e w' => e = .returned (.bool (l.all fun p => !n.had p)) ∧ Below w.heap.size w w' := by
  obtain ⟨A, cap, rfl, hA0⟩ := h
  have r0 := Row.new w 27 n.cl.toArray
  obtain ⟨Wa, hWa⟩ : ∃ Wa, Wa = w.alloc (.cells n.cl.toArray 27) := ⟨_, rfl⟩
  rw [← hWa] at r0
  have hb0 : Below w.heap.size w Wa := by rw [hWa]; exact alloc_low _ _
  have HB0 := Lib.hid hb0
  have HRR := Lib.hid (fun W' (hb : Below Wa.heap.size Wa W') => (show NdAt W' w.heap.size n from r0.below hb r0.lt))
  have HC4 := Lib.hid (fun W' (hb : Below Wa.heap.size Wa W') => (show W'.cell? ⟨w.heap.size, 4, none⟩ = some (.int .u64 n.fi) from ndAt_at (HRR.out W' hb) 4))
  have HWa := Lib.hid hWa
  have HL := Lib.hid (fun W' => len_any n W')
  have hln := n.len_le
  obtain ⟨m, hm⟩ : ∃ m, m = l.length := ⟨_, rfl⟩
  have HA := Lib.hid (fun (h0 : 0 < m) => (show ∃ g o, A = some ⟨g, o, none⟩ ∧ ∀ k, k < m → ∀ W', Below Wa.heap.size Wa W' → W'.cell? ⟨g, o + k, none⟩ = some (.int .u64 (l.getD k 0)) by
    obtain ⟨g, o, rfl, hc⟩ := hA0 (by omega)
    refine ⟨g, o, rfl, fun k hk W' hb => ?_⟩
    have hx := hc k (l.getD k 0) (by rw [List.getD_eq_getElem?_getD, List.getElem?_eq_getElem (by omega)]; rfl)
    have hbb := low_and hb0 hb
    exact (hbb.cell (p := ⟨g, o + k, none⟩) (w.block_lt_of_cell? _ hx)).trans hx))
  have HAll := Lib.hid (show (∀ k, k < m → n.had (l.getD k 0) = false) → (l.all fun p => !n.had p) = true by
    intro h
    rw [List.all_eq_true]
    intro x hx
    obtain ⟨k, hk, rfl⟩ := List.getElem_of_mem hx
    have := h k (by omega)
    rw [List.getD_eq_getElem?_getD, List.getElem?_eq_getElem hk] at this
    simpa using this)
  have HAny := Lib.hid (show ∀ k, k < m → n.had (l.getD k 0) = true → (l.all fun p => !n.had p) = false by
    intro k hk h
    rw [Bool.eq_false_iff]
    intro hh
    rw [List.all_eq_true] at hh
    have := hh (l.getD k 0) (by rw [List.getD_eq_getElem?_getD, List.getElem?_eq_getElem (by omega)]; exact List.getElem_mem _)
    rw [h] at this
    cases this)
  obtain ⟨F, hF⟩ : ∃ F, F = (l.all fun p => !n.had p) := ⟨_, rfl⟩
  rw [← hF] at HAll HAny
  rw [← hF, ← hm]
  rw [← hm] at hl
  clear r0 hWa hF hm hA0 hb0
  go_enter Try.func69, Try.ntmps69
  go_wp2_with fail
  rw [← HWa.out]
  go_loopw [11] (fun i wr => ∃ k : Nat, k ≤ m ∧ i = .int .i64 (k : Int) ∧ (∀ j, j < k → n.had (l.getD j 0) = false) ∧ Below Wa.heap.size Wa wr) (fun i _ => m - (intOf i).toNat)
  case atStart => exact ⟨0, by omega, rfl, fun p hp => by omega, Below.refl _ _⟩
  case round =>
    rename World => wr
    obtain ⟨k, hk, rfl, hne, hb⟩ := hrel
    have HNE := Lib.hid hne
    clear hne
    by_cases hlt : k < m
    · obtain ⟨g, o, rfl, hcl⟩ := HA.out (by omega)
      have ca := hcl k hlt wr hb
      have c4 := HC4.out wr hb
      have hki : (k : Int) < (m : Int) := by omega
      have HAk := Lib.hid (HAny.out k hlt)
      have HNk := Lib.hid (fun h0 h1 h => had_no (n := n) (p := l.getD k 0) h0 h1 h)
      have HYk := Lib.hid (fun j hj h => had_yes (n := n) (p := l.getD k 0) (k := j) hj h)
      have HZk := Lib.hid (show l.getD k 0 = 0 → n.had (l.getD k 0) = true from fun h => by rw [h]; rfl)
      have HWk := Lib.hid (show l.getD k 0 = n.fi → n.had (l.getD k 0) = true from fun h => by unfold Nd.had; rw [h]; simp)
      obtain ⟨p, hp⟩ : ∃ p, p = l.getD k 0 := ⟨_, rfl⟩
      rw [← hp] at ca HAk HNk HYk HZk HWk
      have HP := Lib.hid hp
      clear hp hcl
      obtain h0 | h0 : p = 0 ∨ p ≠ 0 := by omega
      · have HFf := Lib.hid (HAk.out (HZk.out h0))
        rw [h0] at ca
        clear h0
        go_wp2
        go_ret
        exact ⟨by rw [HFf.out]; rfl, low_and HB0.out hb⟩
      · have h0b : (p == 0) = false := by simpa using h0
        obtain h1 | h1 : p = n.fi ∨ p ≠ n.fi := by omega
        · have HFf := Lib.hid (HAk.out (HWk.out h1))
          have h1b : (p == n.fi) = true := by simpa using h1
          clear h1
          go_wp2
          go_ret
          exact ⟨by rw [HFf.out]; rfl, low_and HB0.out hb⟩
        · have h1b : (p == n.fi) = false := by simpa using h1
          have HNk2 := Lib.hid (HNk.out h0 h1)
          have hsl := fun W => run_ptrs w.heap.size hln W
          clear h1
          go_wp2_with (first
            | (refine wpList_load_mid rfl _ _ rfl w.heap.size 0 rfl n.cl _ (ndR (HRR.out _ (by assumption))) Try.underlying27 rfl ndI ?_)
            | (go_at_call 49; refine (HL.out _).mono ?_; rintro e w2 ⟨rfl, hb2⟩; have hb2 := low_and hb hb2))
          go_loopw [28] (fun i wr => ∃ j : Nat, j ≤ n.len ∧ i = .int .i64 (j : Int) ∧ (∀ q, q < j → n.ptr q ≠ p) ∧ Below Wa.heap.size Wa wr) (fun i _ => n.len - (intOf i).toNat)
          case atStart => exact ⟨0, by omega, rfl, fun p hp => by omega, hb2⟩
          case round =>
            rename World => wq
            obtain ⟨j, hj, rfl, hnj, hbq⟩ := hrel
            have HNJ := Lib.hid hnj
            clear hnj
            by_cases hjl : j < n.len
            · have hj8 : (j : Int) < (n.len : Int) := by omega
              have cj := ndAt_ptr (HRR.out _ hbq) (i := j) (by omega)
              have HYj := Lib.hid (HYk.out j hjl)
              obtain ⟨y, hy⟩ : ∃ y, y = n.ptr j := ⟨_, rfl⟩
              rw [← hy] at cj HYj
              have HYe := Lib.hid hy
              clear hy
              obtain hyp | hyp : p = y ∨ p ≠ y := by omega
              · have HFf := Lib.hid (HAk.out (HYj.out hyp.symm))
                have hyb : (p == y) = true := by simpa using hyp
                clear hyp
                go_wp2
                go_ret
                exact ⟨by rw [HFf.out]; rfl, low_and HB0.out hbq⟩
              · have hyb : (p == y) = false := by simpa using hyp
                go_wp2
                refine ⟨⟨j + 1, by omega, by go_num, fun q hq => ?_, hbq⟩, by simp [intOf]; omega⟩
                rcases Nat.lt_or_eq_of_le (Nat.le_of_lt_succ hq) with h | rfl
                · exact HNJ.out q h
                · rw [← HYe.out]; exact fun e => hyp e.symm
            · obtain rfl : j = n.len := by omega
              have HNo := Lib.hid (HNk2.out HNJ.out)
              go_wp2
              refine ⟨⟨k + 1, by omega, by go_num, fun q hq => ?_, hbq⟩, by simp [intOf]; omega⟩
              rcases Nat.lt_or_eq_of_le (Nat.le_of_lt_succ hq) with h | rfl
              · exact HNE.out q h
              · rw [← HP.out]; exact HNo.out
    · obtain rfl : k = m := by omega
      have HFf := Lib.hid (HAll.out HNE.out)
      go_wp2
      go_ret
      exact ⟨by rw [HFf.out]; rfl, low_and HB0.out hb⟩
theorem refE_cases (b : Int) (n : Nd) (l : List Int) : refE b n l = if (bOk b && n.may 0 false) = true then (if (l.all fun p => !n.had p) = true then (if 0 ≤ n.inv then 7 else 0) else 2) else 2 := by
  unfold refE
  cases (bOk b && n.may 0 false) <;> cases (l.all fun p => !n.had p) <;> simp
set_option maxRecDepth 100000 in
set_option maxHeartbeats 4000000 in
theorem refusal_any {b : Int} (hb : 0 ≤ b) (n : Nd) {w : World} {v : Value} {l : List Int} (h : AdsAt w v l) (hl : l.length ≤ 1000) : Calls Try.prog 51 #[.int .u64 b, n.V, v] w fun e w' => e = .returned (.int .i64 (refE b n l)) ∧ Below w.heap.size w w' := by
  have r0 := Row.new w 27 n.cl.toArray
  obtain ⟨Wa, hWa⟩ : ∃ Wa, Wa = w.alloc (.cells n.cl.toArray 27) := ⟨_, rfl⟩
  rw [← hWa] at r0
  have hb0 : Below w.heap.size w Wa := by rw [hWa]; exact alloc_low _ _
  have HB0 := Lib.hid hb0
  have HRR := Lib.hid (fun W' (hb : Below Wa.heap.size Wa W') => (show NdAt W' w.heap.size n from r0.below hb r0.lt))
  have HWa := Lib.hid hWa
  have HM := Lib.hid (fun W' => fmay_any hb n W')
  have HN := Lib.hid (fun W' (hb : Below Wa.heap.size Wa W') => areNew_any n (h.low (low_and hb0 hb)) hl)
  have HI := Lib.hid (fun W' => nInv_any n W')
  have HE := refE_cases b n l
  obtain ⟨A, cap, rfl, _⟩ := h
  generalize refE b n l = E at HE ⊢
  generalize (bOk b && n.may 0 false) = c at HM HE
  generalize (l.all fun p => !n.had p) = d at HN HE
  generalize l.length = m at HN hl ⊢
  have hi0 : 0 ≤ n.inv ∨ ¬ 0 ≤ n.inv := by omega
  generalize n.inv = iv at HI HE hi0
  have hr0 := Below.refl Wa.heap.size Wa
  clear r0 hWa hb0
  cases c with
  | false =>
    have HE2 := Lib.hid (show E = 2 from HE)
    clear HE
    go_enter Try.func51, Try.ntmps51
    go_wp2_with (first
      | (rw [← HWa.out]; refine wpList_load_mid rfl _ _ rfl w.heap.size 0 rfl n.cl _ (ndR (HRR.out _ (by assumption))) Try.underlying27 rfl ndI ?_)
      | (go_at_call 44; refine (HM.out _).mono ?_; rintro e w1 ⟨rfl, h1⟩; have h1 := low_and hr0 h1))
    go_ret
    exact ⟨by rw [HE2.out]; rfl, low_and HB0.out h1⟩
  | true =>
    cases d with
    | false =>
      have HE2 := Lib.hid (show E = 2 from HE)
      clear HE
      go_enter Try.func51, Try.ntmps51
      go_wp2_with (first
        | (rw [← HWa.out]; refine wpList_load_mid rfl _ _ rfl w.heap.size 0 rfl n.cl _ (ndR (HRR.out _ (by assumption))) Try.underlying27 rfl ndI ?_)
        | (refine wpList_load_midg (by rfl) _ _ rfl w.heap.size 0 rfl n.cl _ (ndR (HRR.out _ (by assumption))) Try.underlying27 rfl ndI ?_)
        | (go_at_call 44; refine (HM.out _).mono ?_; rintro e w1 ⟨rfl, h1⟩; have h1 := low_and hr0 h1)
        | (go_at_call 69; refine (HN.out _ h1).mono ?_; rintro e w2 ⟨rfl, h2⟩; have h2 := low_and h1 h2))
      go_ret
      exact ⟨by rw [HE2.out]; rfl, low_and HB0.out h2⟩
    | true =>
      rcases hi0 with hi | hi
      · have HE2 := Lib.hid (show E = 7 by rw [HE, if_pos rfl, if_pos rfl, if_pos hi])
        clear HE
        go_enter Try.func51, Try.ntmps51
        go_wp2_with (first
          | (rw [← HWa.out]; refine wpList_load_mid rfl _ _ rfl w.heap.size 0 rfl n.cl _ (ndR (HRR.out _ (by assumption))) Try.underlying27 rfl ndI ?_)
          | (refine wpList_load_mid rfl _ _ rfl w.heap.size 0 rfl n.cl _ (ndR (HRR.out _ (by assumption))) Try.underlying27 rfl ndI ?_)
          | (refine wpList_load_midg (by rfl) _ _ rfl w.heap.size 0 rfl n.cl _ (ndR (HRR.out _ (by assumption))) Try.underlying27 rfl ndI ?_)
          | (go_at_call 44; refine (HM.out _).mono ?_; rintro e w1 ⟨rfl, h1⟩; have h1 := low_and hr0 h1)
          | (go_at_call 69; refine (HN.out _ h1).mono ?_; rintro e w2 ⟨rfl, h2⟩; have h2 := low_and h1 h2)
          | (go_at_call 22; refine (HI.out _).mono ?_; rintro e w3 ⟨rfl, h3⟩; have h3 := low_and h2 h3))
        go_ret
        exact ⟨by rw [HE2.out]; rfl, low_and HB0.out h3⟩
      · have HE2 := Lib.hid (show E = 0 by rw [HE, if_pos rfl, if_pos rfl, if_neg hi])
        clear HE
        go_enter Try.func51, Try.ntmps51
        go_wp2_with (first
          | (rw [← HWa.out]; refine wpList_load_mid rfl _ _ rfl w.heap.size 0 rfl n.cl _ (ndR (HRR.out _ (by assumption))) Try.underlying27 rfl ndI ?_)
          | (refine wpList_load_mid rfl _ _ rfl w.heap.size 0 rfl n.cl _ (ndR (HRR.out _ (by assumption))) Try.underlying27 rfl ndI ?_)
          | (refine wpList_load_midg (by rfl) _ _ rfl w.heap.size 0 rfl n.cl _ (ndR (HRR.out _ (by assumption))) Try.underlying27 rfl ndI ?_)
          | (go_at_call 44; refine (HM.out _).mono ?_; rintro e w1 ⟨rfl, h1⟩; have h1 := low_and hr0 h1)
          | (go_at_call 69; refine (HN.out _ h1).mono ?_; rintro e w2 ⟨rfl, h2⟩; have h2 := low_and h1 h2)
          | (go_at_call 22; refine (HI.out _).mono ?_; rintro e w3 ⟨rfl, h3⟩; have h3 := low_and h2 h3))
        go_ret
        exact ⟨by rw [HE2.out]; rfl, low_and HB0.out h3⟩
set_option maxRecDepth 100000 in
set_option maxHeartbeats 4000000 in
theorem r9may_any {b : Int} (hb : 0 ≤ b) (n : Nd) (w : World) : Calls Try.prog 60 #[.int .u64 b, n.V] w fun e w' => e = .returned (.int .i64 (refE b n [])) ∧ Below w.heap.size w w' := by
  have r0 := Row.new w 27 n.cl.toArray
  obtain ⟨Wa, hWa⟩ : ∃ Wa, Wa = w.alloc (.cells n.cl.toArray 27) := ⟨_, rfl⟩
  rw [← hWa] at r0
  have hb0 : Below w.heap.size w Wa := by rw [hWa]; exact alloc_low _ _
  have HB0 := Lib.hid hb0
  have HRR := Lib.hid (fun W' (hb : Below Wa.heap.size Wa W') => (show NdAt W' w.heap.size n from r0.below hb r0.lt))
  have HWa := Lib.hid hWa
  have HM := Lib.hid (fun W' => r8May_any n 0 false W')
  have HI := Lib.hid (fun W' => r8Inv_any n W')
  have HE := refE_cases b n []
  simp only [List.all_nil, if_true] at HE
  generalize refE b n [] = E at HE ⊢
  have hm64 := tmod64 hb
  have hbo := bOk_iff b
  generalize n.may 0 false = d at HM HE
  generalize bOk b = c at HE hbo
  have hi0 : 0 ≤ n.inv ∨ ¬ 0 ≤ n.inv := by omega
  generalize n.inv = iv at HI HE hi0
  have hr0 := Below.refl Wa.heap.size Wa
  clear r0 hWa hb0
  cases c with
  | false =>
    have HE2 := Lib.hid (show E = 2 by rw [HE]; rfl)
    clear HE
    have hno : b = 0 ∨ (b ≠ 0 ∧ 1099511627776 < b) ∨ (b ≠ 0 ∧ ¬ 1099511627776 < b ∧ b % 64 ≠ 0) := by
      have : ¬ (b % 64 = 0 ∧ 0 < b ∧ b ≤ 1099511627776) := fun h => by have := hbo.2 h; cases this
      omega
    clear hbo
    rcases hno with rfl | ⟨h1, h2⟩ | ⟨h1, h2, h3⟩
    · clear hm64
      go_enter Try.func60, Try.ntmps60
      go_wp2
      go_ret
      exact ⟨by rw [HE2.out]; rfl, by rw [← HWa.out]; exact HB0.out⟩
    · have h1b : (b == 0) = false := by simpa using h1
      clear hm64
      go_enter Try.func60, Try.ntmps60
      go_wp2
      go_ret
      exact ⟨by rw [HE2.out]; rfl, by rw [← HWa.out]; exact HB0.out⟩
    · have h1b : (b == 0) = false := by simpa using h1
      have h3b : (b.tmod 64 != 0) = true := by rw [hm64]; simpa using h3
      clear hm64
      go_enter Try.func60, Try.ntmps60
      go_wp2
      go_ret
      exact ⟨by rw [HE2.out]; rfl, by rw [← HWa.out]; exact HB0.out⟩
  | true =>
    obtain ⟨g1, g2, g3⟩ := hbo.1 rfl
    have h1b : (b == 0) = false := by simp; omega
    have h2b : ¬ 1099511627776 < b := by omega
    have h3b : (b % 64 != 0) = false := by simpa using g1
    clear hm64 hbo g1
    cases d with
    | false =>
      have HE2 := Lib.hid (show E = 2 by rw [HE]; rfl)
      clear HE
      go_enter Try.func60, Try.ntmps60
      go_wp2_with (first
        | (rw [← HWa.out]; refine wpList_load_midg (by rfl) _ _ rfl w.heap.size 0 rfl n.cl _ (ndR (HRR.out _ (by assumption))) Try.underlying27 rfl ndI ?_)
        | (go_at_call 16; refine (HM.out _).mono ?_; rintro e w1 ⟨rfl, h1⟩; have h1 := low_and hr0 h1))
      go_ret
      exact ⟨by rw [HE2.out]; rfl, low_and HB0.out h1⟩
    | true =>
      rcases hi0 with hi | hi
      · have HE2 := Lib.hid (show E = 7 by rw [HE, show (true && true) = true from rfl, if_pos rfl, if_pos hi])
        clear HE
        go_enter Try.func60, Try.ntmps60
        go_wp2_with (first
          | (rw [← HWa.out]; refine wpList_load_midg (by rfl) _ _ rfl w.heap.size 0 rfl n.cl _ (ndR (HRR.out _ (by assumption))) Try.underlying27 rfl ndI ?_)
          | (refine wpList_load_mid rfl _ _ rfl w.heap.size 0 rfl n.cl _ (ndR (HRR.out _ (by assumption))) Try.underlying27 rfl ndI ?_)
          | (go_at_call 16; refine (HM.out _).mono ?_; rintro e w1 ⟨rfl, h1⟩; have h1 := low_and hr0 h1)
          | (go_at_call 18; refine (HI.out _).mono ?_; rintro e w3 ⟨rfl, h3⟩; have h3 := low_and h1 h3))
        go_ret
        exact ⟨by rw [HE2.out]; rfl, low_and HB0.out h3⟩
      · have HE2 := Lib.hid (show E = 0 by rw [HE, show (true && true) = true from rfl, if_pos rfl, if_neg hi])
        clear HE
        go_enter Try.func60, Try.ntmps60
        go_wp2_with (first
          | (rw [← HWa.out]; refine wpList_load_midg (by rfl) _ _ rfl w.heap.size 0 rfl n.cl _ (ndR (HRR.out _ (by assumption))) Try.underlying27 rfl ndI ?_)
          | (refine wpList_load_mid rfl _ _ rfl w.heap.size 0 rfl n.cl _ (ndR (HRR.out _ (by assumption))) Try.underlying27 rfl ndI ?_)
          | (go_at_call 16; refine (HM.out _).mono ?_; rintro e w1 ⟨rfl, h1⟩; have h1 := low_and hr0 h1)
          | (go_at_call 18; refine (HI.out _).mono ?_; rintro e w3 ⟨rfl, h3⟩; have h3 := low_and h1 h3))
        go_ret
        exact ⟨by rw [HE2.out]; rfl, low_and HB0.out h3⟩
end Go.Proofs.Ytbadlmicbbjkaaa
