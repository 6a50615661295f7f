/- Texts of this claim, packed: BAll, BLow, BMay. -/
import Derived.Test.YtahojhaeebmpoaaGreatDoorPq06
import Derived.Test.YtahojhaeebmpoaaGreatDoorPq05
import Derived.RangeFuncFrom
import Derived.RangeFuncNested
import Derived.RangeFuncBound
import Derived.RangeFuncCalls
import Derived.RangeFuncLeaves
import Derived.RangeFuncBox
import Derived.Shelf.Abstract
import Derived.Shelf.RegionOpen
import Derived.WalkKit
import Derived.OwnWalkIn
import Derived.TacticsInMore
import Derived.LoopNIn
import Derived.LoopIn
import Derived.Maps.AppendAt
/- The iterator over the bits that are set: it calls yield once for each, rising, till it is told to stop; and Lowest, Count, by it; of any word; without conditions. -/
namespace Go.Proofs.YtahojhaeebmpoaaGreatDoor
open Go.RowKit Go.Shelf
set_option linter.unusedVariables false
attribute [local go_sem] Oper.semAt_some

/-- The block bx stays as it is. -/
def Kb (bx : Nat) (A B : World) : Prop := B.heap[bx]? = A.heap[bx]?
theorem Kb.t {bx : Nat} {A B C : World} (h : Kb bx A B) (k : Kb bx B C) : Kb bx A C := k.trans h
theorem Kb.refl (bx : Nat) (A : World) : Kb bx A A := rfl
theorem Kb.b {bx : Nat} {w : World} (hb : bx < w.heap.size) (W : World) (l : Nat) (o o' : Obj) (hl : w.heap.size ≤ l) (h : W.heap[l]? = some o) (_ : o.isCells = false) (_ : o.isWalk = false) : Kb bx W (W.putObj l o') :=
  (belowK_b (n₀ := w.heap.size) (Nat.le_refl _) W l o o' hl h ‹_› ‹_›).block bx hb
theorem Kb.set {bx : Nat} {W : World} {p : Addr} (hp : bx ≠ p.block) (u : Value) : Kb bx W (W.setCell p u) := heap_setCell_other _ _ _ _ hp
theorem Kb.cell {bx : Nat} {A B : World} (h : Kb bx A B) {v : Value} (hc : A.cell? ⟨bx, 0, none⟩ = some v) : B.cell? ⟨bx, 0, none⟩ = some v := (World.cell?_of_block (a := ⟨bx, 0, none⟩) h).trans hc
end Go.Proofs.YtahojhaeebmpoaaGreatDoor
/- Count and Lowest: how many bits are set; the least that is not set, below a bound; of any word, any bound; without conditions. -/
namespace Go.Proofs.YtahojhaeebmpoaaGreatDoor
open Go.RowKit Go.Shelf
set_option linter.unusedVariables false
attribute [local go_sem] Oper.semAt_some
end Go.Proofs.YtahojhaeebmpoaaGreatDoor
/- May, and the document's Bits, Lowest, May: of any word, any bound; without conditions. -/
namespace Go.Proofs.YtahojhaeebmpoaaGreatDoor
open Go.RowKit
set_option linter.unusedVariables false
/-- No bit from n on is set. -/
def mayS (b : Nat) (n : Int) : Bool := decide (∀ x ∈ upB b 64, ((x : Nat) : Int) < n)
theorem all_lt {b : Nat} (hb : b < 18446744073709551616) {m : Nat} : b < 2 ^ m ↔ ∀ x ∈ upB b 64, x < m := by
  constructor
  · intro h x hx
    obtain ⟨_, ht⟩ := mem_upB.1 hx
    refine Classical.byContradiction fun hn => ?_
    have := Nat.testBit_lt_two_pow (Nat.lt_of_lt_of_le h (Nat.pow_le_pow_right (by decide) (show m ≤ x by omega)))
    rw [this] at ht; cases ht
  · intro h
    refine Nat.lt_pow_two_of_testBit b fun i hi => ?_
    rw [Bool.eq_false_iff]
    intro ht
    have := h i (mem_upB.2 ⟨bit_lt hb ht, ht⟩)
    omega
theorem shr_may {b : Nat} (hb : b < 18446744073709551616) {y : Int} (h0 : 0 ≤ y) : ∃ q : Nat, Op.shift .shr .u64 (b : Int) .i64 y = pure (.int .u64 (q : Int)) ∧ ((q : Int) == 0) = mayS b y := by
  refine ⟨b / 2 ^ min y.toNat 64, ?_, ?_⟩
  · unfold Op.shift
    rw [if_neg (by omega)]
    simp only
    have e : (2 : Int) ^ min y.toNat IntKind.u64.bits = ((2 ^ min y.toNat 64 : Nat) : Int) := by rw [show IntKind.u64.bits = 64 from rfl]; simp
    rw [e]
    congr 2
    rw [Int.fdiv_eq_ediv_of_nonneg _ (Int.natCast_nonneg _)]
    rfl
  · unfold mayS
    rw [Bool.eq_iff_iff]
    simp only [beq_iff_eq, decide_eq_true_eq]
    have hp : 0 < 2 ^ min y.toNat 64 := Nat.two_pow_pos _
    have h1 : ((b / 2 ^ min y.toNat 64 : Nat) : Int) = 0 ↔ b < 2 ^ min y.toNat 64 := by
      rw [Int.natCast_eq_zero, Nat.div_eq_zero_iff]
      omega
    rw [h1, all_lt hb]
    constructor
    · intro h x hx
      have := h x hx
      omega
    · intro h x hx
      have := h x hx
      have := (mem_upB.1 hx).1
      omega
theorem may_neg {b : Nat} {n : Int} (h : n ≤ 0) : mayS b n = mayS b 0 := by
  unfold mayS
  rw [Bool.eq_iff_iff]
  simp only [decide_eq_true_eq]
  constructor
  · intro hh x hx; have := hh x hx; omega
  · intro hh x hx; have := hh x hx; omega
theorem bMay_any {b : Nat} (hb : b < 18446744073709551616) (n : Int) (w : World) : Calls Tryz.prog 81 #[wv b, .int .i64 n] w fun e w' => e = .returned (.bool (mayS b n)) ∧ w = w' := by
  by_cases h : 0 ≤ n
  · obtain ⟨q, hs, hq⟩ := shr_may hb h
    have hm : max n 0 = n := by omega
    generalize mayS b n = r at *
    unfold wv
    go_enter Tryz.func81, Tryz.ntmps81
    go_wp2
    go_ret
    exact ⟨rfl, rfl⟩
  · obtain ⟨q, hs, hq⟩ := shr_may hb (Int.le_refl 0)
    rw [may_neg (by omega)]
    have hm : max n 0 = 0 := by omega
    generalize mayS b 0 = r at *
    unfold wv
    go_enter Tryz.func81, Tryz.ntmps81
    go_wp2
    go_ret
    exact ⟨rfl, rfl⟩
def ivn (n : Nat) : Value := .int .i64 (n : Int)
theorem infoI : (Tryz.prog.info? 3).map (fun i => (i.zero, i.size, i.bytes)) = some (some (.int .i64 0), 1, 8) := by kernel_rfl
/-- What the document's Bits answers: the places of the bits that are set, rising, in new memory. -/
def BitsEnd (b : Nat) (w : World) (e : Ending) (w' : World) : Prop := ∃ v, e = .returned v ∧ w'.ownsRow w.heap.size 3 1 v (upB b 64).length ((upB b 64).map ivn) ∧ Below w.heap.size w w'
def BitsRel (b : Nat) (w : World) (o v : Value) (wr : World) : Prop := ∃ i : Nat, v = .int .i64 (i : Int) ∧ i ≤ 64 ∧ wr.ownsRow w.heap.size 3 1 o (upB b i).length ((upB b i).map ivn) ∧ Below w.heap.size w wr
set_option maxRecDepth 100000 in
set_option maxHeartbeats 2000000 in
theorem rBits_any {b : Nat} (hb : b < 18446744073709551616) (w : World) : Calls Tryz.prog 29 #[wv b] w (BitsEnd b w) := by
  obtain ⟨i0, hi, hz0, hz1, hz2⟩ := info_parts infoI
  have HH := Lib.hid (fun j W => rHas_any hb j W)
  unfold wv at HH ⊢
  go_enter Tryz.func29, Tryz.ntmps29
  go_wp2
  go_loopw [3, 4] (fun o v wr => BitsRel b w o v wr) (fun _ v _ => 64 - (intOf v).toNat)
  case atStart => exact ⟨0, rfl, by omega, World.ownsRow_nil _ _ _ _, Below.refl _ _⟩
  case round =>
    rename World => wr
    obtain ⟨i, rfl, hi64, ho, hB⟩ := hrel
    have HO := Lib.hid ho
    have HB := Lib.hid hB
    clear ho hB
    by_cases hlt : i < 64
    · have HI := Lib.hid (HH.out (i : Int) wr)
      have hhi : hasB b (i : Int) = b.testBit i := by rw [hasB_in ⟨by omega, by omega⟩]; rfl
      rw [hhi] at HI
      have hlen := upB_len b i
      by_cases ht : b.testBit i = true
      · rw [ht] at HI
        have HS := Lib.hid (show upB b (i + 1) = upB b i ++ [i] by rw [upB_succ, if_pos ht])
        clear ht hhi
        go_wp2_with fail
        refine HI.out.mono ?_
        rintro e w1 ⟨rfl, rfl⟩
        obtain ⟨L, hL⟩ : ∃ L, L = (upB b i).length := ⟨_, rfl⟩
        rw [← hL] at HO hlen
        have HLL := Lib.hid hL
        clear hL
        go_wp2_with (at_builtin; refine wpList_append_own _ rfl _ _ 47 rfl w.heap.size 3 i0 (.int .i64 0) 1 8 Tryz.underlying47 hi hz0 hz1 hz2 rfl (by decide) _ _ _ rfl (HO.out.alloc _) ⟨wr.heap.size, 0, none⟩ 1 1 [ivn i] rfl rfl ?qc1 ?qc2 ?qc3 ?qc4 ?qc5 ?_)
        case qc1 => intro j u hj; cases j with
          | zero => rw [add_zero']; simp at hj; subst hj; simp [ivn]
          | succ j => simp at hj
        case qc2 => intro u hu; simp at hu; subst hu; rfl
        case qc3 => unfold maxLen; omega
        case qc4 => omega
        case qc5 => have := HB.out.size; simp; omega
        intro v' w1 hown hgrow hnil
        have HO2 := Lib.hid hown
        have HB2 := Lib.hid ((HB.out.alloc HB.out.size _).grown hgrow (by have := HB.out.size; simp; omega) (fun k hk => own_from HO.out k hk))
        clear hown hgrow hnil
        go_wp2
        go_roundw
        case rel => exact ⟨i + 1, by go_num, by omega, by rw [HS.out, List.length_append, List.map_append, ← HLL.out]; exact HO2.out, HB2.out⟩
        case measure => simp [intOf]; omega
      · have hf : b.testBit i = false := by simpa using ht
        rw [hf] at HI
        have HS := Lib.hid (show upB b (i + 1) = upB b i by rw [upB_succ, if_neg ht])
        clear ht hhi hf
        go_wp2_with fail
        refine HI.out.mono ?_
        rintro e w1 ⟨rfl, rfl⟩
        go_wp2
        go_roundw
        case rel => exact ⟨i + 1, by go_num, by omega, by rw [HS.out]; exact HO.out, HB.out⟩
        case measure => simp [intOf]; omega
    · obtain rfl : i = 64 := by omega
      go_wp2
      go_ret
      exact ⟨_, rfl, HO.out, HB.out⟩
theorem own_cell {w : World} {B n : Nat} {l : List Nat} {g cap : Nat} (h : w.ownsRow B 3 1 (.slice (some ⟨g, 0, none⟩) n cap) n (l.map ivn)) {i : Nat} (hi : i < l.length) : w.cell? ⟨g, i, none⟩ = some (ivn (gd l i)) := by
  obtain ⟨A, c, hv, _, _, hs, _⟩ := own_sl h
  simp only [Value.slice.injEq, true_and] at hv
  obtain ⟨rfl, rfl⟩ := hv
  have := hs.some_ (i := i) (by simpa using hi)
  rw [add_lit] at this
  rw [this]
  simp [gd, hi]
theorem may_last {b : Nat} {n : Int} {m : Nat} (hl : (upB b 64).length = m + 1) : mayS b n = decide (((gd (upB b 64) m : Nat) : Int) < n) := by
  unfold mayS
  rw [Bool.eq_iff_iff]
  simp only [decide_eq_true_eq]
  constructor
  · intro h; exact h _ (gd_mem (by omega))
  · intro h x hx
    obtain ⟨j, hj, e⟩ := List.getElem_of_mem hx
    have h2 : gd (upB b 64) m = (upB b 64)[m] := by simp [gd, hl]
    by_cases e3 : j = m
    · subst e3; rw [← e, ← h2]; exact h
    · have := List.pairwise_iff_getElem.1 (upB_sorted b 64) j m hj (by omega) (by omega)
      omega
theorem may_empty {b : Nat} {n : Int} (hl : (upB b 64).length = 0) : mayS b n = true := by
  have : upB b 64 = [] := List.eq_nil_of_length_eq_zero hl
  unfold mayS
  rw [this]; simp
set_option maxRecDepth 100000 in
set_option maxHeartbeats 1000000 in
theorem rMay_any {b : Nat} (hb : b < 18446744073709551616) (n : Int) (w : World) : Calls Tryz.prog 41 #[wv b, .int .i64 n] w fun e w' => e = .returned (.bool (mayS b n)) ∧ Below w.heap.size w w' := by
  have HB := Lib.hid (rBits_any hb w)
  have h64 := upB_len b 64
  cases hl : (upB b 64).length with
  | zero =>
    rw [may_empty hl]
    have HL := Lib.hid hl
    clear hl h64 hb
    unfold wv at HB ⊢
    go_enter Tryz.func41, Tryz.ntmps41
    go_wp2_with fail
    refine HB.out.mono ?_
    rintro e w1 ⟨v, rfl, ho, hbb⟩
    have HBB := Lib.hid hbb
    obtain ⟨A, c, hv, _⟩ := own_sl ho
    subst hv
    clear ho hbb
    rw [HL.out]
    go_wp2
    go_ret
    exact ⟨rfl, HBB.out⟩
  | succ m =>
    rw [may_last hl]
    rw [hl] at h64
    obtain ⟨x, hx⟩ : ∃ x, x = gd (upB b 64) m := ⟨_, rfl⟩
    rw [← hx]
    have HX := Lib.hid hx
    have HL := Lib.hid hl
    clear hl hb hx
    unfold wv at HB ⊢
    go_enter Tryz.func41, Tryz.ntmps41
    go_wp2_with fail
    refine HB.out.mono ?_
    rintro e w1 ⟨v, rfl, ho, hbb⟩
    have HBB := Lib.hid hbb
    obtain ⟨g, c, hv, _⟩ := own_some ho (by rw [HL.out]; omega)
    subst hv
    have hc := own_cell ho (i := m) (by rw [HL.out]; omega)
    rw [HL.out]
    clear ho hbb
    rw [← HX.out] at hc
    unfold ivn at hc
    have hz : (((m + 1 : Nat) : Int) == 0) = false := by rw [Bool.eq_false_iff]; intro h; have := beq_iff_eq.1 h; omega
    have hz' : ((m : Int) + 1 == 0) = false := hz
    go_wp2
    go_ret
    exact ⟨rfl, HBB.out⟩
end Go.Proofs.YtahojhaeebmpoaaGreatDoor
