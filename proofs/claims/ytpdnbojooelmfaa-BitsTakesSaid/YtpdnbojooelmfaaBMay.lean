/- May, and the document's Bits, Lowest, May: of any word, any bound; without conditions. -/
import Derived.Test.YtpdnbojooelmfaaBLow
import Derived.Test.YtpdnbojooelmfaaHMath
namespace Go.Proofs.Ytpdnbojooelmfaa
open Go.RowKit
set_option linter.unusedVariables false
/-- No bit from n on is set. -/
def mayS (b : Nat) (n : Int) : Bool := decide (∀ x ∈ upB b 64, ((x : Nat) : Int) < n)
theorem all_lt {b : Nat} (hb : b < 18446744073709551616) {m : Nat} : b < 2 ^ m ↔ ∀ x ∈ upB b 64, x < m := by
  constructor
  · intro h x hx
    obtain ⟨_, ht⟩ := mem_upB.1 hx
    refine Classical.byContradiction fun hn => ?_
    have := Nat.testBit_lt_two_pow (Nat.lt_of_lt_of_le h (Nat.pow_le_pow_right (by decide) (show m ≤ x by omega)))
    rw [this] at ht; cases ht
  · intro h
    refine Nat.lt_pow_two_of_testBit b fun i hi => ?_
    rw [Bool.eq_false_iff]
    intro ht
    have := h i (mem_upB.2 ⟨bit_lt hb ht, ht⟩)
    omega
theorem shr_may {b : Nat} (hb : b < 18446744073709551616) {y : Int} (h0 : 0 ≤ y) : ∃ q : Nat, Op.shift .shr .u64 (b : Int) .i64 y = pure (.int .u64 (q : Int)) ∧ ((q : Int) == 0) = mayS b y := by
  refine ⟨b / 2 ^ min y.toNat 64, ?_, ?_⟩
  · unfold Op.shift
    rw [if_neg (by omega)]
    simp only
    have e : (2 : Int) ^ min y.toNat IntKind.u64.bits = ((2 ^ min y.toNat 64 : Nat) : Int) := by rw [show IntKind.u64.bits = 64 from rfl]; simp
    rw [e]
    congr 2
    rw [Int.fdiv_eq_ediv_of_nonneg _ (Int.natCast_nonneg _)]
    rfl
  · unfold mayS
    rw [Bool.eq_iff_iff]
    simp only [beq_iff_eq, decide_eq_true_eq]
    have hp : 0 < 2 ^ min y.toNat 64 := Nat.two_pow_pos _
    have h1 : ((b / 2 ^ min y.toNat 64 : Nat) : Int) = 0 ↔ b < 2 ^ min y.toNat 64 := by
      rw [Int.natCast_eq_zero, Nat.div_eq_zero_iff]
      omega
    rw [h1, all_lt hb]
    constructor
    · intro h x hx
      have := h x hx
      omega
    · intro h x hx
      have := h x hx
      have := (mem_upB.1 hx).1
      omega
theorem may_neg {b : Nat} {n : Int} (h : n ≤ 0) : mayS b n = mayS b 0 := by
  unfold mayS
  rw [Bool.eq_iff_iff]
  simp only [decide_eq_true_eq]
  constructor
  · intro hh x hx; have := hh x hx; omega
  · intro hh x hx; have := hh x hx; omega
theorem bMay_any {b : Nat} (hb : b < 18446744073709551616) (n : Int) (w : World) : Calls Try.prog 22 #[wv b, .int .i64 n] w fun e w' => e = .returned (.bool (mayS b n)) ∧ w = w' := by
  by_cases h : 0 ≤ n
  · obtain ⟨q, hs, hq⟩ := shr_may hb h
    have hm : max n 0 = n := by omega
    generalize mayS b n = r at *
    unfold wv
    go_enter Try.func22, Try.ntmps22
    go_wp2
    go_ret
    exact ⟨rfl, rfl⟩
  · obtain ⟨q, hs, hq⟩ := shr_may hb (Int.le_refl 0)
    rw [may_neg (by omega)]
    have hm : max n 0 = 0 := by omega
    generalize mayS b 0 = r at *
    unfold wv
    go_enter Try.func22, Try.ntmps22
    go_wp2
    go_ret
    exact ⟨rfl, rfl⟩
def ivn (n : Nat) : Value := .int .i64 (n : Int)
theorem infoI : (Try.prog.info? 3).map (fun i => (i.zero, i.size, i.bytes)) = some (some (.int .i64 0), 1, 8) := by kernel_rfl
/-- What the document's Bits answers: the places of the bits that are set, rising, in new memory. -/
def BitsEnd (b : Nat) (w : World) (e : Ending) (w' : World) : Prop := ∃ v, e = .returned v ∧ w'.ownsRow w.heap.size 3 1 v (upB b 64).length ((upB b 64).map ivn) ∧ Below w.heap.size w w'
def BitsRel (b : Nat) (w : World) (o v : Value) (wr : World) : Prop := ∃ i : Nat, v = .int .i64 (i : Int) ∧ i ≤ 64 ∧ wr.ownsRow w.heap.size 3 1 o (upB b i).length ((upB b i).map ivn) ∧ Below w.heap.size w wr
/-- The least bit that is not set, below n; -1. -/
def lowR (r : Option Nat) : Int := match r with | some x => (x : Int) | none => -1
theorem lowB_at {b : Nat} (hb : b < 18446744073709551616) {n : Int} {i : Nat} (hi : i < 64) (hn : (i : Int) < n) (hset : ∀ k, k < i → b.testBit k = true) (h : b.testBit i = false) : lowB b n = some i := by
  have h1 : upB (notB b) (i + 1) = [i] := by
    rw [upB_succ, notB_bit hb, h, decide_eq_true hi]
    have : upB (notB b) i = [] := by
      unfold upB
      rw [List.filter_eq_nil_iff]
      intro k hk
      have hk' := List.mem_range.1 hk
      rw [notB_bit hb, hset k hk']
      simp
    rw [this]; rfl
  have h2 := upB_pre (notB b) (show i + 1 ≤ 64 by omega)
  rw [h1] at h2
  exact low_some (q := []) h2 hn (by simp)
theorem lowB_none {b : Nat} (hb : b < 18446744073709551616) {n : Int} (hset : ∀ k : Nat, (k : Int) < n → k < 64 → b.testBit k = true) : lowB b n = none := by
  refine low_none fun y hy => ?_
  obtain ⟨h64, ht⟩ := mem_upB.1 hy
  refine Classical.byContradiction fun hn => ?_
  rw [notB_bit hb, hset y (by omega) h64] at ht
  simp at ht
theorem own_cell {w : World} {B n : Nat} {l : List Nat} {g cap : Nat} (h : w.ownsRow B 3 1 (.slice (some ⟨g, 0, none⟩) n cap) n (l.map ivn)) {i : Nat} (hi : i < l.length) : w.cell? ⟨g, i, none⟩ = some (ivn (gd l i)) := by
  obtain ⟨A, c, hv, _, _, hs, _⟩ := own_sl h
  simp only [Value.slice.injEq, true_and] at hv
  obtain ⟨rfl, rfl⟩ := hv
  have := hs.some_ (i := i) (by simpa using hi)
  rw [add_lit] at this
  rw [this]
  simp [gd, hi]
theorem may_last {b : Nat} {n : Int} {m : Nat} (hl : (upB b 64).length = m + 1) : mayS b n = decide (((gd (upB b 64) m : Nat) : Int) < n) := by
  unfold mayS
  rw [Bool.eq_iff_iff]
  simp only [decide_eq_true_eq]
  constructor
  · intro h; exact h _ (gd_mem (by omega))
  · intro h x hx
    obtain ⟨j, hj, e⟩ := List.getElem_of_mem hx
    have h2 : gd (upB b 64) m = (upB b 64)[m] := by simp [gd, hl]
    by_cases e3 : j = m
    · subst e3; rw [← e, ← h2]; exact h
    · have := List.pairwise_iff_getElem.1 (upB_sorted b 64) j m hj (by omega) (by omega)
      omega
theorem may_empty {b : Nat} {n : Int} (hl : (upB b 64).length = 0) : mayS b n = true := by
  have : upB b 64 = [] := List.eq_nil_of_length_eq_zero hl
  unfold mayS
  rw [this]; simp
end Go.Proofs.Ytpdnbojooelmfaa
