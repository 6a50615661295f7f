/- Texts of this claim, packed: 7Iter0. -/
import Derived.Test.YtgclbeagifoifaaPc07
import Derived.Test.YtgclbeagifoifaaPc08
import Derived.Shelf.Abstract
import Derived.Shelf.RegionOpen
import Derived.OwnWalkIn
import Derived.TacticsInMore
import Derived.LoopNIn
import Derived.LoopIn
/- What is answered of no table: Held, Drop, Copy, Same; the iterator over the locks where there is none. -/
namespace Go.Proofs.Ytgclbeagifoifaa
open Go.RowKit Go.Shelf
set_option linter.unusedVariables false
attribute [local go_sem] Oper.semAt_some
def encA (x : Nat) : Array Value := #[.int .u64 (x : Int)]
theorem locks_any (p : Option Addr) (c : Int) (w : World) : Calls Try.prog 36 #[.pointer p, .int .i64 c] w fun e w' => e = .returned (.func (.func 39) #[] #[.pointer (some ⟨w.heap.size, 0, none⟩), .pointer (some ⟨w.heap.size + 1, 0, none⟩)]) ∧ w' = (w.alloc (.cells #[.pointer p] 24)).alloc (.cells #[.int .i64 c] 3) := by
  go_enter Try.func36, Try.ntmps36
  go_wp2
  go_ret
  exact ⟨rfl, rfl⟩
theorem grown_stays7 {W0 W W' : World} {row : Option Nat} (h : Below W0.heap.size W0 W) (hg : W.grownBy W' row) (hr : ∀ r, row = some r → W0.heap.size ≤ r ∧ ∃ o : Obj, W.heap[r]? = some o ∧ o.isCells = false) : Below W0.heap.size W0 W' :=
  h.trans ⟨hg.os, hg.tape, hg.output, hg.size, fun k hk => hg.block k (Nat.lt_of_lt_of_le hk h.size) (fun e => by have := (hr k e.symm).1; omega)⟩
set_option maxRecDepth 100000 in
set_option maxHeartbeats 1600000 in
theorem kiter_none {w : World} {p : Option Addr} (h : NoTab w p) (bx bc : Nat) (I : Nat → World → Prop) (hbx : w.cell? ⟨bx, 0, none⟩ = some (.pointer p)) :
    Tells Fence.wide 5 Try.prog 39 #[.pointer (some ⟨bx, 0, none⟩), .pointer (some ⟨bc, 0, none⟩)] encA [] w I := by
  intro l J W hW hJ hY h0
  have hbox : W.cell? ⟨bx, 0, none⟩ = some (.pointer p) := (hW.cell (p := ⟨bx, 0, none⟩) (block_lt_of_cell hbx)).trans hbx
  have HN := Lib.hid (knone_no (h.below hW))
  have H0 := Lib.hid h0
  clear hJ hY h0 hbx h hW
  refine callsIn_of_wp Try.func39 rfl trivial ?_ rfl
  simp only [Try.ntmps39, List.size_toArray, List.length_cons, List.length_nil, Nat.reduceAdd, Nat.reduceSub, Array.replicate_succ, Array.replicate_zero, List.push_toArray, List.append_toArray, List.nil_append, List.cons_append]
  gi_wp2_with (refine ⟨trivial, ?_⟩; gi_at_call 30; refine (callsIn_wide.2 HN.out).mono ?_; rintro e w' ⟨rfl, rfl⟩)
  (try simp only [Exit.inBlock, Exit.then])
  refine bodyPost_ret (results_none rfl _ _ _) rfl ?_
  exact ⟨⟨_, rfl⟩, H0.out⟩
set_option maxRecDepth 100000 in
set_option maxHeartbeats 1600000 in
/-- Held where the iterator tells none. -/
theorem held_of {w : World} {p : Option Addr} {c : Int}
    (hT : ∀ (W : World) (bx bc : Nat) (I : Nat → World → Prop), Below w.heap.size w W → W.cell? ⟨bx, 0, none⟩ = some (.pointer p) → W.cell? ⟨bc, 0, none⟩ = some (.int .i64 c) → (∀ k W', I k W' → Below W.heap.size W W') → Tells Fence.wide 5 Try.prog 39 #[.pointer (some ⟨bx, 0, none⟩), .pointer (some ⟨bc, 0, none⟩)] encA [] W I) :
    Calls Try.prog 28 #[.pointer p, .int .i64 c] w fun e w' => e = .returned (.slice none 0 0) ∧ Below w.heap.size w w' := by
  refine (callsIn_wide (n := 6)).1 ?_
  refine callsIn_of_wp_marks Try.func28 rfl trivial ?_ rfl
  simp only [Try.ntmps28, List.size_toArray, List.length_cons, List.length_nil, Nat.reduceAdd, Nat.reduceSub, Array.replicate_succ, Array.replicate_zero, List.push_toArray, List.append_toArray, List.nil_append, List.cons_append]
  gi_wp2_with (refine ⟨trivial, ?_⟩; gi_at_call 36; refine (callsIn_wide.2 (locks_any _ _ _)).mono ?_; rintro e w' ⟨rfl, rfl⟩)
  obtain ⟨W0, hW0⟩ : ∃ W0, W0 = (((w.alloc (.cells #[.slice none 0 0] 38)).alloc (.cells #[.pointer p] 24)).alloc (.cells #[.int .i64 c] 3)) := ⟨_, rfl⟩
  rw [← hW0]
  have hb0 : Below w.heap.size w W0 := by
    rw [hW0]
    exact Below.and (Below.and (alloc_below _ _) (alloc_below _ _)) (alloc_below _ _)
  have r1 : Row W0 w.heap.size 38 #[.slice none 0 0] := by
    rw [hW0]
    exact ((Row.new _ _ _).alloc _).alloc _
  have r3 : Row W0 (w.heap.size + 1) 24 #[.pointer p] := by
    rw [hW0]
    refine Row.alloc ?_ _
    have := Row.new (w.alloc (.cells #[.slice none 0 0] 38)) 24 #[.pointer p]
    simpa using this
  have r4 : Row W0 (w.heap.size + 1 + 1) 3 #[.int .i64 c] := by
    rw [hW0]
    have := Row.new ((w.alloc (.cells #[.slice none 0 0] 38)).alloc (.cells #[.pointer p] 24)) 3 #[.int .i64 c]
    simpa using this
  have HB0 := Lib.hid hb0
  have HR := Lib.hid r1
  have HT := Lib.hid (hT W0 (w.heap.size + 1) (w.heap.size + 1 + 1) (fun _ W => Below W0.heap.size W0 W) hb0 (r3.cell 0) (r4.cell 0) (fun _ _ h => h))
  clear hW0 hT hb0 r1 r3 r4
  refine range_all rfl (by omega) (gf := 39) (lb := #[.pointer (some ⟨w.heap.size + 1, 0, none⟩), .pointer (some ⟨w.heap.size + 1 + 1, 0, none⟩)]) rfl trivial (enters_of Try.func39 (by kernel_rfl) rfl) [] (encs := encA) (fun _ => rfl) (fun _ W => Below W0.heap.size W0 W)
    (fun k W W' row hI hg hr => grown_stays7 hI hg hr) (Below.refl _ _) HT.out
    (fun x => { tmps := #[.pointer p, .int .i64 c, undef, undef, .slice none 0 0, .pointer (some ⟨w.heap.size, 0, none⟩), .int .u64 (x : Int), .pointer p, .int .i64 c,
      .func (.func 39) #[] #[.pointer (some ⟨w.heap.size + 1, 0, none⟩), .pointer (some ⟨w.heap.size + 1 + 1, 0, none⟩)], .int .u64 (x : Int), undef, undef, undef, undef, undef], defers := [] }) ?assign ?body ?done
  case assign =>
    intro l x W K hK
    dsimp only [encA]
    gi_wp2
    exact hK
  case body =>
    rintro l k x W hx
    cases hx
  case done =>
    rintro D W hD hI hK
    have hb := grown_stays7 hI (grownBy_putObj' W D (.deferred none)) (fun r e => by cases e; exact ⟨hD, _, hK, rfl⟩)
    have hc := (HR.out.below hI HR.out.lt).cell 0
    simp only [List.getElem?_toArray, List.getElem?_cons_succ, List.getElem?_cons_zero] at hc
    gi_wp2
    refine ⟨by simp, .inl ⟨_, _, rfl, run_takeDeferred hK, ?_⟩⟩
    exact ⟨_, results_tmp rfl _ _ _, rfl, Below.and HB0.out hb⟩
theorem held_no {w : World} {p : Option Addr} (h : NoTab w p) (c : Int) : Calls Try.prog 28 #[.pointer p, .int .i64 c] w fun e w' => e = .returned (.slice none 0 0) ∧ Below w.heap.size w w' :=
  held_of fun W bx bc I hb hc _ _ => kiter_none (h.below hb) bx bc I hc
theorem drop_out {p : Option Addr} {w : World} {c : Int} (h : ∀ W, Below w.heap.size w W → Calls Try.prog 33 #[.pointer p, .int .i64 c] W fun e w' => e = .returned (.bool false) ∧ W = w') :
    Calls Try.prog 20 #[.pointer p, .int .i64 c] w fun e w' => e = .returned (.tuple #[]) ∧ Below w.heap.size w w' := by
  have H := Lib.hid (h _ (alloc_below w (.cells #[.pointer p] 24)))
  clear h
  go_enter Try.func20, Try.ntmps20
  go_wp2_with fail
  refine H.out.mono ?_
  rintro e w1 ⟨rfl, rfl⟩
  go_wp2
  refine bodyPost_ret (results_none rfl _ _ _) rfl ?_
  exact ⟨rfl, alloc_below _ _⟩
theorem copy_no {p : Option Addr} {w : World} (h : NoTab w p) : Calls Try.prog 10 #[.pointer p] w fun e w' => e = .returned (.pointer none) ∧ w = w' := by
  have H := Lib.hid (knone_no h)
  clear h
  go_enter Try.func10, Try.ntmps10
  go_wp2_with fail
  refine H.out.mono ?_
  rintro e w1 ⟨rfl, rfl⟩
  go_wp2
  go_ret
  exact ⟨rfl, rfl⟩
theorem same_no {p q : Option Addr} {w : World} (h : NoTab w p) (hq : NoTab w q) : Calls Try.prog 12 #[.pointer p, .pointer q] w fun e w' => e = .returned (.bool true) ∧ w = w' := by
  have H := Lib.hid (knone_no h)
  have H2 := Lib.hid (knone_no hq)
  clear h hq
  go_enter Try.func12, Try.ntmps12
  go_wp2_with fail
  refine H.out.mono ?_
  rintro e w1 ⟨rfl, rfl⟩
  go_wp2_with fail
  refine H.out.mono ?_
  rintro e w1 ⟨rfl, rfl⟩
  go_wp2_with fail
  refine H2.out.mono ?_
  rintro e w1 ⟨rfl, rfl⟩
  go_wp2
  go_ret
  exact ⟨rfl, rfl⟩
theorem noTab_new (w : World) : NoTab (w.alloc (.cells Try.zeroCells55 55)) (some ⟨w.heap.size, 0, none⟩) := .inr ⟨_, rfl, by rw [zeros_t]; exact Row.new w _ _⟩
end Go.Proofs.Ytgclbeagifoifaa
