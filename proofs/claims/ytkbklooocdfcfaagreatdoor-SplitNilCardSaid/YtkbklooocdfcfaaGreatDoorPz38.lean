/- Texts of this claim, packed: BAll, BLow, BMay. -/
import Derived.Test.YtkbklooocdfcfaaGreatDoorPz05
import Derived.Test.YtkbklooocdfcfaaGreatDoorPz04
import Derived.RangeFuncFrom
import Derived.RangeFuncNested
import Derived.RangeFuncBound
import Derived.RangeFuncCalls
import Derived.RangeFuncLeaves
import Derived.RangeFuncBox
import Derived.Shelf.Abstract
import Derived.Shelf.RegionOpen
import Derived.WalkKit
import Derived.OwnWalkIn
import Derived.TacticsInMore
import Derived.LoopNIn
import Derived.LoopIn
import Derived.Maps.AppendAt
set_option linter.unusedVariables false
set_option maxRecDepth 100000
set_option maxHeartbeats 6400000
namespace Go.Proofs.YtkbklooocdfcfaaGreatDoor
open Go.RowKit Go.Shelf
attribute [local go_sem] Oper.semAt_some
def Kb (bx : Nat) (A B : World) : Prop := B.heap[bx]? = A.heap[bx]?
end Go.Proofs.YtkbklooocdfcfaaGreatDoor
namespace Go.Proofs.YtkbklooocdfcfaaGreatDoor
open Go.RowKit
def mayS (b : Nat) (n : Int) : Bool := decide (∀ x ∈ upB b 64, ((x : Nat) : Int) < n)
theorem all_lt {b : Nat} (hb : b < 18446744073709551616) {m : Nat} : b < 2 ^ m ↔ ∀ x ∈ upB b 64, x < m := by
 constructor
 ·intro h x hx
  obtain ⟨_, ht⟩ := mem_upB.1 hx
  refine Classical.byContradiction fun hn => ?_
  have := Nat.testBit_lt_two_pow (Nat.lt_of_lt_of_le h (Nat.pow_le_pow_right (by decide) (show m <= x by omega)))
  rw [this] at ht; cases ht
 ·intro h
  refine Nat.lt_pow_two_of_testBit b fun i hi => ?_
  rw [Bool.eq_false_iff]
  intro ht
  have := h i (mem_upB.2 ⟨bit_lt hb ht, ht⟩)
  omega
theorem shr_may {b : Nat} (hb : b < 18446744073709551616) {y : Int} (h0 : 0 <= y) : ∃ q : Nat, Op.shift .shr .u64 (b : Int) .i64 y = pure (.int .u64 (q : Int)) /\ ((q : Int) == 0) = mayS b y := by
 refine ⟨b / 2 ^ min y.toNat 64, ?_, ?_⟩
 ·unfold Op.shift
  rw [if_neg (by omega)]
  simp only
  have e : (2 : Int) ^ min y.toNat IntKind.u64.bits = ((2 ^ min y.toNat 64 : Nat) : Int) := by rw [show IntKind.u64.bits = 64 from rfl]; simp
  rw [e]
  congr 2
  rw [Int.fdiv_eq_ediv_of_nonneg _ (Int.natCast_nonneg _)]
  rfl
 ·unfold mayS
  rw [Bool.eq_iff_iff]
  simp only [beq_iff_eq, decide_eq_true_eq]
  have hp : 0 < 2 ^ min y.toNat 64 := Nat.two_pow_pos _
  have h1 : ((b / 2 ^ min y.toNat 64 : Nat) : Int) = 0 ↔ b < 2 ^ min y.toNat 64 := by
   rw [Int.natCast_eq_zero, Nat.div_eq_zero_iff]
   omega
  rw [h1, all_lt hb]
  constructor
  ·intro h x hx
   have := h x hx
   omega
  ·intro h x hx
   have := h x hx
   have := (mem_upB.1 hx).1
   omega
theorem may_neg {b : Nat} {n : Int} (h : n <= 0) : mayS b n = mayS b 0 := by
 unfold mayS
 rw [Bool.eq_iff_iff]
 simp only [decide_eq_true_eq]
 constructor
 ·intro hh x hx; have := hh x hx; omega
 ·intro hh x hx; have := hh x hx; omega
theorem bMay_any {b : Nat} (hb : b < 18446744073709551616) (n : Int) (w : World) : Calls Tryz.prog 97 #[wv b, .int .i64 n] w fun e w' => e = .returned (.bool (mayS b n)) /\ w = w' := by
 by_cases h : 0 <= n
 ·obtain ⟨q, hs, hq⟩ := shr_may hb h
  have hm : max n 0 = n := by omega
  generalize mayS b n = r at *
  unfold wv
  go_enter Tryz.func97, Tryz.ntmps97
  go_wp2
  go_ret
  exact ⟨rfl, rfl⟩
 ·obtain ⟨q, hs, hq⟩ := shr_may hb (Int.le_refl 0)
  rw [may_neg (by omega)]
  have hm : max n 0 = 0 := by omega
  generalize mayS b 0 = r at *
  unfold wv
  go_enter Tryz.func97, Tryz.ntmps97
  go_wp2
  go_ret
  exact ⟨rfl, rfl⟩
end Go.Proofs.YtkbklooocdfcfaaGreatDoor
