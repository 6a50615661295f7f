/- The iterator over where nodes' blocks may begin: it calls yield once for each, rising, till it is told to stop; for any number of slabs, where geo.rooms holds what its initialiser lays. -/
import Derived.Test.YtlpampbdnbjphaaDoorGeoC
import Derived.RangeFuncFrom
import Derived.RangeFuncNested
import Derived.RangeFuncBound
import Derived.RangeFuncCalls
import Derived.RangeFuncLeaves
import Derived.RangeFuncBox
import Derived.Shelf.Abstract
import Derived.Shelf.RegionOpen
import Derived.WalkKit
import Derived.OwnWalkIn
import Derived.TacticsInMore
import Derived.LoopNIn
import Derived.LoopIn
import Derived.Maps.AppendAt
namespace Go.Proofs.YtlpampbdnbjphaaDoor
open Go.RowKit Go.Sort Go.Shelf
set_option linter.unusedVariables false
attribute [local go_sem] Oper.semAt_some

/-- The k-th of all roots. -/
def rootAt (k : Nat) : Int := blkA ((k / 5 : Nat) + 1) 3 (k % 5 : Nat)
def rootsN (s : Int) : Nat := if 1 ≤ s ∧ s ≤ 64 then 5 * s.toNat else 0
def upR (k : Nat) : List Int := (List.range k).map rootAt
def rootsL (s : Int) : List Int := upR (rootsN s)
theorem upR_succ (k : Nat) : upR (k + 1) = upR k ++ [rootAt k] := by simp [upR, List.range_succ]
theorem upR_len (k : Nat) : (upR k).length = k := by simp [upR]
theorem upR_pre {i j : Nat} (h : i ≤ j) : upR i <+: upR j := by
  induction j with
  | zero => obtain rfl : i = 0 := by omega
            exact List.prefix_refl _
  | succ j ih =>
    by_cases e : i = j + 1
    · rw [e]; exact List.prefix_refl _
    · rw [upR_succ]; exact (ih (by omega)).trans (List.prefix_append _ _)
theorem rootAt_in {k : Nat} (h : k < 320) : rootAt k = 1024 * ((k / 5 : Nat) + 1) + 64 + ((k % 5 : Nat) : Int) * 192 := by
  have hb : blC 3 = 5 := rfl
  have hy : byC 3 = 192 := rfl
  unfold rootAt
  rw [blkA_yes ⟨by omega, by omega, by omega, by omega⟩, hy]
theorem rootAt_lt {i j : Nat} (h : i < j) (hj : j < 320) : rootAt i < rootAt j := by
  rw [rootAt_in hj, rootAt_in (by omega)]
  omega
theorem Gr.grown {w w' : World} (h : Gr w w') : w.grownBy w' none :=
  ⟨h.all.os, h.all.tape, h.all.output, h.all.size, fun k hk _ => h.all.block k hk⟩
theorem Rms.keeps {w w' : World} {n : Nat} (h : Rms w) (g : Below n w w') (hn : 0 < n) : Rms w' := by
  obtain ⟨t, h⟩ := h
  exact ⟨t, (g.block _ hn).trans h⟩
set_option maxRecDepth 100000 in
set_option maxHeartbeats 1600000 in
theorem roots1_in (l bx n₀ : Nat) (s : Int) (hs1 : s ≤ 9223372036854775807) (hn : 0 < n₀) (J Jx : List Int → World → Prop) (Bg : Nat) (hA : AbidesFrom Bg J)
    (hY : ∀ pre x W, J pre W → pre.length < rootsN s → YieldAt Fence.wide 4 Tryd.prog l #[.int .u64 x] W fun e W' =>
      (e = .returned (.bool true) ∧ J (pre ++ [x]) W' ∧ Below n₀ W W') ∨ (e = .returned (.bool false) ∧ Jx (pre ++ [x]) W'))
    (W : World) (hbx : W.cell? ⟨bx, 0, none⟩ = some (.int .i64 s)) (R : Rms W) (h0 : J [] W) :
    CallsIn Fence.wide 5 Tryd.prog 29 #[.func (.yield l) #[] #[], .pointer (some ⟨bx, 0, none⟩)] W fun e W' => (∃ v, e = .returned v) ∧
      ((∃ ys, ys = rootsL s ∧ J ys W') ∨ (∃ pre, pre <+: rootsL s ∧ Jx pre W')) := by
  have HG := Lib.hid fun pre (A B : World) (h : J pre A) (g : Gr A B) => hA pre A B none h g.grown (fun r e => by cases e)
  by_cases h : 1 ≤ s ∧ s ≤ 64
  · obtain ⟨z, hz⟩ : ∃ z, z = sizeN s := ⟨_, rfl⟩
    have tz : (z == 0) = false := by rw [hz]; unfold sizeN; rw [if_pos h]; simp; omega
    have HZ := Lib.hid fun w => size_any s w
    rw [← hz] at HZ
    have hN : rootsN s = 5 * s.toNat := if_pos h
    have HL := Lib.hid (show rootsL s = upR (5 * s.toNat) by unfold rootsL; rw [hN])
    rw [hN] at hY
    have HY := Lib.hid hY
    have H0 := Lib.hid h0
    have HR := Lib.hid R
    obtain ⟨h1, h2⟩ := h
    clear hz hN hY h0 R hA
    refine callsIn_of_wp Tryd.func29 rfl trivial ?_ rfl
    simp only [Tryd.ntmps29, List.size_toArray, List.length_cons, List.length_nil, Nat.reduceAdd, Nat.reduceSub, Array.replicate_succ, Array.replicate_zero, List.push_toArray, List.append_toArray, List.nil_append, List.cons_append]
    gi_wp2_with (refine ⟨trivial, ?_⟩; gi_at_call 19; refine (callsIn_wide.2 (HZ.out _)).mono ?_; rintro e w' ⟨rfl, rfl⟩)
    gi_loopw [9] (fun a wr => ∃ i : Nat, a = .int .i64 i ∧ (i : Int) ≤ s ∧ J (upR (5 * i)) wr ∧ Rms wr) (fun a _ => s.toNat - (intOf a).toNat)
    case atStart => exact ⟨0, rfl, by omega, H0.out, HR.out⟩
    case round =>
      obtain ⟨i, rfl, hi, hJ, hR⟩ := hrel
      have HJ := Lib.hid hJ
      have HRr := Lib.hid hR
      clear hJ hR
      by_cases hlt : (i : Int) < s
      · gi_wp2_with (refine ⟨trivial, ?_⟩; gi_at_call 30; refine (callsIn_wide.2 (blocks_any 3 _ HRr.out)).mono ?_; rintro e w' ⟨rfl, hg⟩; have HJ := Lib.hid (HG.out _ _ _ HJ.out hg); have HRr := Lib.hid (HRr.out.gr hg); clear hg; rw [show blC 3 = 5 from rfl])
        gi_loopw [13] (fun b wr => ∃ j : Nat, b = .int .i64 j ∧ j ≤ 5 ∧ J (upR (5 * i + j)) wr ∧ Rms wr) (fun b _ => 5 - (intOf b).toNat)
        case atStart => exact ⟨0, rfl, by omega, HJ.out, HRr.out⟩
        case round =>
          rename World => w2
          obtain ⟨j, rfl, hj, hJ2, hR2⟩ := hrel
          have HJ2 := Lib.hid hJ2
          have HR2 := Lib.hid hR2
          clear hJ2 hR2
          by_cases hj5 : j < 5
          · have hbk : blkA ((i : Int) + 1) 3 (j : Int) = rootAt (5 * i + j) := by
              unfold rootAt
              rw [show (5 * i + j) / 5 = i by omega, show (5 * i + j) % 5 = j by omega]
            obtain ⟨x, hx⟩ : ∃ x, x = rootAt (5 * i + j) := ⟨_, rfl⟩
            rw [← hx] at hbk
            have HX := Lib.hid hx
            have HB := Lib.hid fun (w : World) (R : Rms w) => block_any ((i : Int) + 1) 3 (j : Int) w R
            rw [hbk] at HB
            clear hx hbk
            gi_wp2_with (refine ⟨trivial, ?_⟩; gi_at_call 31; refine (callsIn_wide.2 (HB.out _ HR2.out)).mono ?_; rintro e w' ⟨rfl, hg⟩; have HJ3 := Lib.hid (HG.out _ _ _ HJ2.out hg); have HR3 := Lib.hid (HR2.out.gr hg); clear hg; obtain ⟨fn, tmps, assign, body, hy, hR⟩ := HY.out _ x _ HJ3.out (by rw [upR_len]; omega))
            refine hR.mono ?_
            rintro e W3 (⟨rfl, hJ4, hk4⟩ | ⟨rfl, hJx⟩)
            · have HJ4 := Lib.hid hJ4
              have HR4 := Lib.hid (HR3.out.keeps hk4 hn)
              clear hJ4 hk4
              gi_wp2
              go_roundw
              case rel => exact ⟨j + 1, by go_num, by omega, by rw [show 5 * i + (j + 1) = 5 * i + j + 1 by omega, upR_succ, ← HX.out]; exact HJ4.out, HR4.out⟩
              case measure => simp [intOf]; omega
            · have HJx := Lib.hid hJx
              clear hJx
              gi_wp2
              refine bodyPost_ret (results_none rfl _ _ _) rfl ?_
              refine ⟨⟨_, rfl⟩, .inr ⟨_, ?_, HJx.out⟩⟩
              rw [HL.out, HX.out, ← upR_succ]
              exact upR_pre (by omega)
          · obtain rfl : j = 5 := by omega
            gi_wp2
            go_roundw
            case rel => exact ⟨i + 1, by go_num, by omega, by rw [show 5 * (i + 1) = 5 * i + 5 by omega]; exact HJ2.out, HR2.out⟩
            case measure => simp [intOf]; omega
      · have he : (i : Int) = s := by omega
        gi_wp2
        go_end0
        refine ⟨⟨_, rfl⟩, .inl ?_⟩
        rw [HL.out, show 5 * s.toNat = 5 * i by omega]
        exact HJ.out
  · obtain ⟨z, hz⟩ : ∃ z, z = sizeN s := ⟨_, rfl⟩
    have tz : (z == 0) = true := by rw [hz]; unfold sizeN; rw [if_neg h]; rfl
    have HZ := Lib.hid fun w => size_any s w
    rw [← hz] at HZ
    have HL := Lib.hid (show rootsL s = [] by unfold rootsL rootsN; rw [if_neg h]; rfl)
    have H0 := Lib.hid h0
    clear hz hY h0 R hA h HG
    refine callsIn_of_wp Tryd.func29 rfl trivial ?_ rfl
    simp only [Tryd.ntmps29, List.size_toArray, List.length_cons, List.length_nil, Nat.reduceAdd, Nat.reduceSub, Array.replicate_succ, Array.replicate_zero, List.push_toArray, List.append_toArray, List.nil_append, List.cons_append]
    gi_wp2_with (refine ⟨trivial, ?_⟩; gi_at_call 19; refine (callsIn_wide.2 (HZ.out _)).mono ?_; rintro e w' ⟨rfl, rfl⟩)
    refine bodyPost_ret (results_none rfl _ _ _) rfl ?_
    refine ⟨⟨_, rfl⟩, .inl ?_⟩
    rw [HL.out]
    exact ⟨_, rfl, H0.out⟩
/-- The iterator, as its callers take it. -/
theorem roots_stops {bx n₀ : Nat} {s : Int} {w : World} (hs1 : s ≤ 9223372036854775807) (hn : 0 < n₀) (hb : w.cell? ⟨bx, 0, none⟩ = some (.int .i64 s)) (R : Rms w) :
    SeqStopsK Fence.wide 5 Tryd.prog 29 #[.pointer (some ⟨bx, 0, none⟩)] (fun x : Int => #[Value.int .u64 x]) (Below n₀) (fun ys => ys = rootsL s) (fun pre => pre <+: rootsL s) (rootsN s) w :=
  fun l J Jx W hW hJ _ hY h0 => roots1_in l bx n₀ s hs1 hn J Jx _ hJ hY W ((hW.cell (p := ⟨bx, 0, none⟩) (w.block_lt_of_cell? _ hb)).trans hb) (R.below hW) h0
theorem roots_any (s : Int) (w : World) : Calls Tryd.prog 24 #[.int .i64 s] w fun e w' => e = .returned (.func (.func 29) #[] #[.pointer (some ⟨w.heap.size, 0, none⟩)]) ∧ w' = w.alloc (.cells #[.int .i64 s] 3) := by
  go_enter Tryd.func24, Tryd.ntmps24
  go_wp2
  go_ret
  exact ⟨rfl, rfl⟩
end Go.Proofs.YtlpampbdnbjphaaDoor
