/- No memory, nil or zero: what Load, Evict, Fence, Stats, Copy, Same, Lines and Crash make of it; and Lines of a memory with nothing pending. -/
import Derived.Test.YtedefebdfcgjeaaPFence
import Derived.Test.YtedefebdfcgjeaaPCrash
import Derived.Test.YtedefebdfcgjeaaPNew
import Derived.BigQuiet
namespace Go.Proofs.Ytedefebdfcgjeaa
open Go.RowKit Go.Shelf
set_option linter.unusedVariables false
attribute [local go_sem] Oper.semAt_some

theorem load_no {p : Option Addr} {w : World} (h : NoMem w p) (a : Int) : Calls Try.prog 9 #[.pointer p, .int .u64 a] w fun e w' => e = .returned (.tuple #[.int .u64 0, .int .i64 1]) ∧ w = w' := by
  have H := Lib.hid (refused_no h true a)
  clear h
  go_enter Try.func9, Try.ntmps9
  go_wp2_with fail
  refine H.out.mono ?_
  rintro e w1 ⟨rfl, rfl⟩
  go_wp2
  go_ret2
  exact ⟨rfl, rfl⟩
theorem fence_no {p : Option Addr} {w : World} (h : NoMem w p) (c : Int) : Calls Try.prog 25 #[.pointer p, .int .i64 c] w fun e w' => e = .returned (.int .i64 1) ∧ w = w' := by
  have HC := Lib.hid (isClient_any c w)
  have H := Lib.hid fun f => refused_no h f 0
  clear h
  go_enter Try.func25, Try.ntmps25
  go_wp2_with fail
  refine HC.out.mono ?_
  rintro e w1 ⟨rfl, rfl⟩
  go_wp2_with fail
  refine (H.out _).mono ?_
  rintro e w1 ⟨rfl, rfl⟩
  go_wp2
  go_ret
  exact ⟨rfl, rfl⟩
theorem stats_no {p : Option Addr} {w : World} (h : NoMem w p) : Calls Try.prog 13 #[.pointer p] w fun e w' => e = .returned (.agg #[.int .u64 0, .int .u64 0, .int .u64 0, .int .u64 0]) ∧ Below w.heap.size w w' := by
  have H := Lib.hid fun W (hb : Below w.heap.size w W) => none_no (h.below hb)
  clear h
  go_enter Try.func13, Try.ntmps13
  go_wp2_with fail
  refine (H.out _ (alloc_below _ _)).mono ?_
  rintro e w1 ⟨rfl, rfl⟩
  go_wp2
  refine bodyPost_ret (results_cell_row rfl _ _ w.heap.size 43 #[.int .u64 0, .int .u64 0, .int .u64 0, .int .u64 0] _ _ rfl (heap_alloc_new _ _) Try.underlying43 rfl (by kernel_rfl)) rfl ?_
  exact ⟨rfl, alloc_below _ _⟩
theorem grown_stays {W0 W W' : World} {row : Option Nat} (h : Below W0.heap.size W0 W) (hg : W.grownBy W' row) (hr : ∀ r, row = some r → W0.heap.size ≤ r ∧ ∃ o : Obj, W.heap[r]? = some o ∧ o.isCells = false) : Below W0.heap.size W0 W' :=
  h.trans ⟨hg.os, hg.tape, hg.output, hg.size, fun k hk => hg.block k (Nat.lt_of_lt_of_le hk h.size) (fun e => by have := (hr k e.symm).1; omega)⟩
theorem nzFrom_none (n i j : Nat) : nzFrom (List.replicate n ([] : List (Nat × Nat))) i j = [] := by
  induction n generalizing i j with
  | zero => rfl
  | succ n ih => rw [List.replicate_succ]; unfold nzFrom; rw [if_pos rfl]; exact ih _ _
theorem zero_nz (nl : Nat) : nz (St.zero nl).pend = [] := nzFrom_none nl 0 0
end Go.Proofs.Ytedefebdfcgjeaa
