/- The iterator over the bits that are set: it calls yield once for each, rising, till it is told to stop; and Lowest, Count, by it; of any word; without conditions. -/
import Derived.Test.YtpdnbojooelmfaaBRef
import Derived.RangeFuncFrom
import Derived.RangeFuncNested
import Derived.RangeFuncBound
import Derived.RangeFuncCalls
import Derived.RangeFuncLeaves
import Derived.RangeFuncBox
import Derived.Shelf.Abstract
import Derived.Shelf.RegionOpen
import Derived.WalkKit
import Derived.OwnWalkIn
import Derived.TacticsInMore
import Derived.LoopNIn
import Derived.LoopIn
import Derived.Maps.AppendAt
namespace Go.Proofs.Ytpdnbojooelmfaa
open Go.RowKit Go.Shelf
set_option linter.unusedVariables false
attribute [local go_sem] Oper.semAt_some

/-- The block bx stays as it is. -/
def Kb (bx : Nat) (A B : World) : Prop := B.heap[bx]? = A.heap[bx]?
theorem Kb.t {bx : Nat} {A B C : World} (h : Kb bx A B) (k : Kb bx B C) : Kb bx A C := k.trans h
theorem Kb.refl (bx : Nat) (A : World) : Kb bx A A := rfl
theorem Kb.b {bx : Nat} {w : World} (hb : bx < w.heap.size) (W : World) (l : Nat) (o o' : Obj) (hl : w.heap.size ≤ l) (h : W.heap[l]? = some o) (_ : o.isCells = false) (_ : o.isWalk = false) : Kb bx W (W.putObj l o') :=
  (belowK_b (n₀ := w.heap.size) (Nat.le_refl _) W l o o' hl h ‹_› ‹_›).block bx hb
theorem Kb.set {bx : Nat} {W : World} {p : Addr} (hp : bx ≠ p.block) (u : Value) : Kb bx W (W.setCell p u) := heap_setCell_other _ _ _ _ hp
theorem Kb.cell {bx : Nat} {A B : World} (h : Kb bx A B) {v : Value} (hc : A.cell? ⟨bx, 0, none⟩ = some v) : B.cell? ⟨bx, 0, none⟩ = some v := (World.cell?_of_block (a := ⟨bx, 0, none⟩) h).trans hc
set_option maxRecDepth 100000 in
set_option maxHeartbeats 1600000 in
theorem all1_in (l bx : Nat) {b : Nat} (hb : b < 18446744073709551616) (J Jx : List Nat → World → Prop)
    (hY : ∀ pre x W, J pre W → pre.length < 64 → YieldAt Fence.wide 4 Try.prog l #[.int .i64 ((x : Nat) : Int)] W fun e W' =>
      (e = .returned (.bool true) ∧ J (pre ++ [x]) W' ∧ Kb bx W W') ∨ (e = .returned (.bool false) ∧ Jx (pre ++ [x]) W'))
    (W : World) (hbx : W.cell? ⟨bx, 0, none⟩ = some (wv b)) (h0 : J [] W) :
    CallsIn Fence.wide 5 Try.prog 40 #[.func (.yield l) #[] #[], .pointer (some ⟨bx, 0, none⟩)] W fun e W' => (∃ v, e = .returned v) ∧
      ((∃ ys, ys = upB b 64 ∧ J ys W') ∨ (∃ pre, pre <+: upB b 64 ∧ Jx pre W')) := by
  have HY := Lib.hid hY
  have H0 := Lib.hid h0
  have HC := Lib.hid hbx
  clear hY h0 hbx
  refine callsIn_of_wp Try.func40 rfl trivial ?_ rfl
  simp only [Try.ntmps40, List.size_toArray, List.length_cons, List.length_nil, Nat.reduceAdd, Nat.reduceSub, Array.replicate_succ, Array.replicate_zero, List.push_toArray, List.append_toArray, List.nil_append, List.cons_append]
  gi_wp2
  gi_loopw [4] (fun a wr => ∃ i : Nat, a = .int .i64 (i : Int) ∧ i ≤ 64 ∧ J (upB b i) wr ∧ wr.cell? ⟨bx, 0, none⟩ = some (wv b)) (fun a _ => 64 - (intOf a).toNat)
  case atStart => exact ⟨0, rfl, by omega, H0.out, HC.out⟩
  case round =>
    rename World => wr
    obtain ⟨i, rfl, hi, hJ, hcb⟩ := hrel
    have HJ := Lib.hid hJ
    have HCB := Lib.hid hcb
    clear hJ
    by_cases hlt : i < 64
    · have HH := Lib.hid (bHas_any hb (j := (i : Int)) (by omega) (by omega) wr)
      have hhi : hasB b (i : Int) = b.testBit i := by rw [hasB_in ⟨by omega, by omega⟩]; rfl
      rw [hhi] at HH
      by_cases ht : b.testBit i = true
      · rw [ht] at HH
        have HS := Lib.hid (show upB b (i + 1) = upB b i ++ [i] by rw [upB_succ, if_pos ht])
        clear ht hhi
        unfold wv at HH hcb
        gi_wp2_with (refine ⟨trivial, ?_⟩; gi_at_call 41; refine (callsIn_wide.2 HH.out).mono ?_; rintro e w' ⟨rfl, rfl⟩; obtain ⟨fn, tmps, assign, body, hy, hR⟩ := HY.out _ i _ HJ.out (Nat.lt_of_le_of_lt (upB_len b i) hlt))
        refine hR.mono ?_
        rintro e W3 (⟨rfl, hJ4, hk4⟩ | ⟨rfl, hJx⟩)
        · have HJ4 := Lib.hid hJ4
          have HC4 := Lib.hid (hk4.cell HCB.out)
          clear hJ4 hk4
          gi_wp2
          go_roundw
          case rel => exact ⟨i + 1, by go_num, by omega, by rw [HS.out]; exact HJ4.out, HC4.out⟩
          case measure => simp [intOf]; omega
        · have HJx := Lib.hid hJx
          clear hJx
          gi_wp2
          refine bodyPost_ret (results_none rfl _ _ _) rfl ?_
          refine ⟨⟨_, rfl⟩, .inr ⟨_, ?_, HJx.out⟩⟩
          rw [← HS.out]
          exact upB_pre b (by omega)
      · have hf : b.testBit i = false := by simpa using ht
        rw [hf] at HH
        have HS := Lib.hid (show upB b (i + 1) = upB b i by rw [upB_succ, if_neg ht])
        clear ht hhi hf
        unfold wv at HH hcb
        gi_wp2_with (refine ⟨trivial, ?_⟩; gi_at_call 41; refine (callsIn_wide.2 HH.out).mono ?_; rintro e w' ⟨rfl, rfl⟩)
        refine ⟨(fun f hf => by cases hf), ?_⟩
        gi_wp2
        go_roundw
        case rel => exact ⟨i + 1, by go_num, by omega, by rw [HS.out]; exact HJ.out, HCB.out⟩
        case measure => simp [intOf]; omega
    · obtain rfl : i = 64 := by omega
      gi_wp2
      go_end0
      exact ⟨⟨_, rfl⟩, .inl ⟨_, rfl, HJ.out⟩⟩
/-- The iterator, as its callers take it. -/
theorem all_stops {bx b : Nat} (hb : b < 18446744073709551616) {w : World} (hc : w.cell? ⟨bx, 0, none⟩ = some (wv b)) :
    SeqStopsK Fence.wide 5 Try.prog 40 #[.pointer (some ⟨bx, 0, none⟩)] (fun x : Nat => #[Value.int .i64 (x : Int)]) (Kb bx) (fun ys => ys = upB b 64) (fun pre => pre <+: upB b 64) 64 w :=
  fun l J Jx W hW _ _ hY h0 => all1_in l bx hb J Jx hY W ((hW.cell (p := ⟨bx, 0, none⟩) (w.block_lt_of_cell? _ hc)).trans hc) h0
theorem all_any (b : Nat) (w : World) : Calls Try.prog 32 #[wv b] w fun e w' => e = .returned (.func (.func 40) #[] #[.pointer (some ⟨w.heap.size, 0, none⟩)]) ∧ w' = w.alloc (.cells #[wv b] 31) := by
  unfold wv
  go_enter Try.func32, Try.ntmps32
  go_wp2
  go_ret
  exact ⟨rfl, rfl⟩
end Go.Proofs.Ytpdnbojooelmfaa
