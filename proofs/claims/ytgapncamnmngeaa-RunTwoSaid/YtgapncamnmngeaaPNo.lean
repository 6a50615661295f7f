/- No memory, nil or zero: what Load, Evict, Fence, Stats, Copy, Same, Lines and Crash make of it; and Lines of a memory with nothing pending. -/
import Derived.Test.YtgapncamnmngeaaPFence
import Derived.Test.YtgapncamnmngeaaPCrash
import Derived.Test.YtgapncamnmngeaaPNew
import Derived.BigQuiet
namespace Go.Proofs.Ytgapncamnmngeaa
open Go.RowKit Go.Shelf
set_option linter.unusedVariables false
attribute [local go_sem] Oper.semAt_some

theorem load_no {p : Option Addr} {w : World} (h : NoMem w p) (a : Int) : Calls Try.prog 28 #[.pointer p, .int .u64 a] w fun e w' => e = .returned (.tuple #[.int .u64 0, .int .i64 1]) ∧ w = w' := by
  have H := Lib.hid (refused_no h true a)
  clear h
  go_enter Try.func28, Try.ntmps28
  go_wp2_with fail
  refine H.out.mono ?_
  rintro e w1 ⟨rfl, rfl⟩
  go_wp2
  go_ret2
  exact ⟨rfl, rfl⟩
theorem evict_no {p : Option Addr} {w : World} (h : NoMem w p) (a n : Int) : Calls Try.prog 36 #[.pointer p, .int .u64 a, .int .i64 n] w fun e w' => e = .returned (.tuple #[.int .i64 0, .int .i64 1]) ∧ w = w' := by
  have H := Lib.hid fun f => refused_no h f a
  clear h
  go_enter Try.func36, Try.ntmps36
  go_wp2_with fail
  refine (H.out _).mono ?_
  rintro e w1 ⟨rfl, rfl⟩
  go_wp2
  go_ret2
  exact ⟨rfl, rfl⟩
theorem fence_no {p : Option Addr} {w : World} (h : NoMem w p) (c : Int) : Calls Try.prog 53 #[.pointer p, .int .i64 c] w fun e w' => e = .returned (.int .i64 1) ∧ w = w' := by
  have HC := Lib.hid (isClient_any c w)
  have H := Lib.hid fun f => refused_no h f 0
  clear h
  go_enter Try.func53, Try.ntmps53
  go_wp2_with fail
  refine HC.out.mono ?_
  rintro e w1 ⟨rfl, rfl⟩
  go_wp2_with fail
  refine (H.out _).mono ?_
  rintro e w1 ⟨rfl, rfl⟩
  go_wp2
  go_ret
  exact ⟨rfl, rfl⟩
theorem copy_no {p : Option Addr} {w : World} (h : NoMem w p) : Calls Try.prog 22 #[.pointer p] w fun e w' => e = .returned (.pointer none) ∧ Below w.heap.size w w' := by
  have H := Lib.hid fun W (hb : Below w.heap.size w W) => none_no (h.below hb)
  clear h
  go_enter Try.func22, Try.ntmps22
  go_wp2_with fail
  refine (H.out _ (alloc_below _ _)).mono ?_
  rintro e w1 ⟨rfl, rfl⟩
  go_wp2
  go_ret
  exact ⟨rfl, alloc_below _ _⟩
theorem stats_no {p : Option Addr} {w : World} (h : NoMem w p) : Calls Try.prog 15 #[.pointer p] w fun e w' => e = .returned (.agg #[.int .u64 0, .int .u64 0, .int .u64 0, .int .u64 0]) ∧ Below w.heap.size w w' := by
  have H := Lib.hid fun W (hb : Below w.heap.size w W) => none_no (h.below hb)
  clear h
  go_enter Try.func15, Try.ntmps15
  go_wp2_with fail
  refine (H.out _ (alloc_below _ _)).mono ?_
  rintro e w1 ⟨rfl, rfl⟩
  go_wp2
  refine bodyPost_ret (results_cell_row rfl _ _ w.heap.size 38 #[.int .u64 0, .int .u64 0, .int .u64 0, .int .u64 0] _ _ rfl (heap_alloc_new _ _) Try.underlying38 rfl (by kernel_rfl)) rfl ?_
  exact ⟨rfl, alloc_below _ _⟩
set_option maxRecDepth 100000 in
set_option maxHeartbeats 1600000 in
theorem iter_none {w : World} {p : Option Addr} (h : NoMem w p) (bx : Nat) (I : Nat → World → Prop) (hbx : w.cell? ⟨bx, 0, none⟩ = some (.pointer p)) :
    Tells Fence.wide 5 Try.prog 47 #[.pointer (some ⟨bx, 0, none⟩)] encN [] w I := by
  intro l J W hW hJ hY h0
  have hbox : W.cell? ⟨bx, 0, none⟩ = some (.pointer p) := (hW.cell (p := ⟨bx, 0, none⟩) (block_lt_of_cell hbx)).trans hbx
  have HN := Lib.hid (none_no (h.below hW))
  have H0 := Lib.hid h0
  clear hJ hY h0 hbx h hW
  refine callsIn_of_wp Try.func47 rfl trivial ?_ rfl
  simp only [Try.ntmps47, List.size_toArray, List.length_cons, List.length_nil, Nat.reduceAdd, Nat.reduceSub, Array.replicate_succ, Array.replicate_zero, List.push_toArray, List.append_toArray, List.nil_append, List.cons_append]
  gi_wp2_with (refine ⟨trivial, ?_⟩; gi_at_call 32; refine (callsIn_wide.2 HN.out).mono ?_; rintro e w' ⟨rfl, rfl⟩)
  (try simp only [Exit.inBlock, Exit.then])
  refine bodyPost_ret (results_none rfl _ _ _) rfl ?_
  exact ⟨⟨_, rfl⟩, H0.out⟩
theorem grown_stays {W0 W W' : World} {row : Option Nat} (h : Below W0.heap.size W0 W) (hg : W.grownBy W' row) (hr : ∀ r, row = some r → W0.heap.size ≤ r ∧ ∃ o : Obj, W.heap[r]? = some o ∧ o.isCells = false) : Below W0.heap.size W0 W' :=
  h.trans ⟨hg.os, hg.tape, hg.output, hg.size, fun k hk => hg.block k (Nat.lt_of_lt_of_le hk h.size) (fun e => by have := (hr k e.symm).1; omega)⟩
set_option maxRecDepth 100000 in
set_option maxHeartbeats 1600000 in
theorem crash_no {w : World} {p : Option Addr} (h : NoMem w p) (A : Option Addr) (n cap : Nat) : Calls Try.prog 23 #[.pointer p, .slice A n cap] w fun e w' => e = .returned (.tuple #[]) ∧ Below w.heap.size w w' := by
  refine (callsIn_wide (n := 6)).1 ?_
  refine callsIn_of_wp_marks Try.func23 rfl trivial ?_ rfl
  simp only [Try.ntmps23, List.size_toArray, List.length_cons, List.length_nil, Nat.reduceAdd, Nat.reduceSub, Array.replicate_succ, Array.replicate_zero, List.push_toArray, List.append_toArray, List.nil_append, List.cons_append]
  gi_wp2_with (refine ⟨trivial, ?_⟩; gi_at_call 35; refine (callsIn_wide.2 (lines_any _ _)).mono ?_; rintro e w' ⟨rfl, rfl⟩)
  obtain ⟨W0, hW0⟩ : ∃ W0, W0 = (((w.alloc (.cells #[.pointer p] 23)).alloc (.cells #[.slice A n cap] 49)).alloc (.cells #[.pointer p] 23)) := ⟨_, rfl⟩
  rw [← hW0]
  have hb0 : Below w.heap.size w W0 := by
    rw [hW0]
    exact Below.and (Below.and (alloc_below _ _) (alloc_below _ _)) (alloc_below _ _)
  have r3 : Row W0 (w.heap.size + 1 + 1) 23 #[.pointer p] := by
    rw [hW0]
    exact row_at (by simp)
  have hm0 := h.below hb0
  have HB0 := Lib.hid hb0
  clear hW0 h
  refine range_all rfl (by omega) (gf := 47) (lb := #[.pointer (some ⟨w.heap.size + 1 + 1, 0, none⟩)]) rfl trivial (enters_of Try.func47 (by kernel_rfl) rfl) [] (encs := encN) (fun _ => rfl) (fun _ W => Below W0.heap.size W0 W)
    (fun k W W' row hI hg hr => grown_stays hI hg hr) (Below.refl _ _) (iter_none hm0 (w.heap.size + 1 + 1) _ (r3.cell 0))
    (fun x => { tmps := #[.pointer p, .slice A n cap, .pointer (some ⟨w.heap.size, 0, none⟩), .pointer (some ⟨w.heap.size + 1, 0, none⟩), .int .i64 (x.1 : Int), .int .i64 (x.2 : Int), .pointer p,
      .func (.func 47) #[] #[.pointer (some ⟨w.heap.size + 1 + 1, 0, none⟩)], .int .i64 (x.1 : Int), .int .i64 (x.2 : Int), undef, undef, undef, undef, undef, undef, undef, undef, undef, undef, undef, undef, undef, undef, undef, undef, undef], defers := [] }) ?assign ?body ?done
  case assign =>
    intro l x W K hK
    dsimp only [encN]
    gi_wp2
    exact hK
  case body =>
    rintro l k x W hx
    cases hx
  case done =>
    rintro D W hD hI hK
    gi_wp2
    refine ⟨by simp, .inl ⟨_, _, rfl, run_takeDeferred hK, ?_⟩⟩
    have hb := grown_stays hI (grownBy_putObj' W D (.deferred none)) (fun r e => by cases e; exact ⟨hD, _, hK, rfl⟩)
    exact ⟨_, results_none rfl _ _ _, rfl, Below.and HB0.out hb⟩
set_option maxRecDepth 100000 in
set_option maxHeartbeats 1600000 in
/-- Lines where the iterator tells none. -/
theorem lines_of {w : World} {p : Option Addr}
    (hT : ∀ (W : World) (bx : Nat) (I : Nat → World → Prop), Below w.heap.size w W → W.cell? ⟨bx, 0, none⟩ = some (.pointer p) → (∀ k W', I k W' → Below W.heap.size W W') → Tells Fence.wide 5 Try.prog 47 #[.pointer (some ⟨bx, 0, none⟩)] encN [] W I) :
    Calls Try.prog 20 #[.pointer p] w fun e w' => e = .returned (.slice none 0 0) ∧ Below w.heap.size w w' := by
  refine (callsIn_wide (n := 6)).1 ?_
  refine callsIn_of_wp_marks Try.func20 rfl trivial ?_ rfl
  simp only [Try.ntmps20, List.size_toArray, List.length_cons, List.length_nil, Nat.reduceAdd, Nat.reduceSub, Array.replicate_succ, Array.replicate_zero, List.push_toArray, List.append_toArray, List.nil_append, List.cons_append]
  gi_wp2_with (refine ⟨trivial, ?_⟩; gi_at_call 35; refine (callsIn_wide.2 (lines_any _ _)).mono ?_; rintro e w' ⟨rfl, rfl⟩)
  obtain ⟨W0, hW0⟩ : ∃ W0, W0 = ((w.alloc (.cells #[.slice none 0 0] 45)).alloc (.cells #[.pointer p] 23)) := ⟨_, rfl⟩
  rw [← hW0]
  have hb0 : Below w.heap.size w W0 := by
    rw [hW0]
    exact Below.and (alloc_below _ _) (alloc_below _ _)
  have r1 : Row W0 w.heap.size 45 #[.slice none 0 0] := by
    rw [hW0]
    exact (Row.new _ _ _).alloc _
  have r3 : Row W0 (w.heap.size + 1) 23 #[.pointer p] := by
    rw [hW0]
    exact row_at (by simp)
  have HB0 := Lib.hid hb0
  have HR := Lib.hid r1
  have HT := Lib.hid (hT W0 (w.heap.size + 1) (fun _ W => Below W0.heap.size W0 W) hb0 (r3.cell 0) (fun _ _ h => h))
  clear hW0 hT hb0 r1 r3
  refine range_all rfl (by omega) (gf := 47) (lb := #[.pointer (some ⟨w.heap.size + 1, 0, none⟩)]) rfl trivial (enters_of Try.func47 (by kernel_rfl) rfl) [] (encs := encN) (fun _ => rfl) (fun _ W => Below W0.heap.size W0 W)
    (fun k W W' row hI hg hr => grown_stays hI hg hr) (Below.refl _ _) HT.out
    (fun x => { tmps := #[.pointer p, undef, .slice none 0 0, .pointer (some ⟨w.heap.size, 0, none⟩), undef, .int .i64 (x.2 : Int), .pointer p,
      .func (.func 47) #[] #[.pointer (some ⟨w.heap.size + 1, 0, none⟩)], .int .i64 (x.1 : Int), .int .i64 (x.2 : Int), undef, undef, undef, undef, undef, undef, undef], defers := [] }) ?assign ?body ?done
  case assign =>
    intro l x W K hK
    dsimp only [encN]
    gi_wp2
    exact hK
  case body =>
    rintro l k x W hx
    cases hx
  case done =>
    rintro D W hD hI hK
    have hb := grown_stays hI (grownBy_putObj' W D (.deferred none)) (fun r e => by cases e; exact ⟨hD, _, hK, rfl⟩)
    have hc := (HR.out.below hI HR.out.lt).cell 0
    simp only [List.getElem?_toArray, List.getElem?_cons_succ, List.getElem?_cons_zero] at hc
    gi_wp2
    refine ⟨by simp, .inl ⟨_, _, rfl, run_takeDeferred hK, ?_⟩⟩
    exact ⟨_, results_tmp rfl _ _ _, rfl, Below.and HB0.out hb⟩
theorem lines_no {w : World} {p : Option Addr} (h : NoMem w p) : Calls Try.prog 20 #[.pointer p] w fun e w' => e = .returned (.slice none 0 0) ∧ Below w.heap.size w w' :=
  lines_of fun W bx I hb hc _ => iter_none (h.below hb) bx I hc
theorem lines_zero {w : World} {y : Lay} {s : St} (h : MemAt w y s) (hz : nz s.pend = []) : Calls Try.prog 20 #[.pointer (some ⟨y.g, 0, none⟩)] w fun e w' => e = .returned (.slice none 0 0) ∧ Below w.heap.size w w' :=
  lines_of fun W bx I hb hc hI => by
    have := iter_tells (h.below hb) bx I hc (fun k W' hk j v hj _ hv => by rw [((h.below hb).below (hI k W' hk)).pen.cellAt j (by omega)]; exact hv)
    rwa [hz] at this
theorem nzFrom_none (n i j : Nat) : nzFrom (List.replicate n ([] : List (Nat × Nat))) i j = [] := by
  induction n generalizing i j with
  | zero => rfl
  | succ n ih => rw [List.replicate_succ]; unfold nzFrom; rw [if_pos rfl]; exact ih _ _
theorem zero_nz (nl : Nat) : nz (St.zero nl).pend = [] := nzFrom_none nl 0 0
end Go.Proofs.Ytgapncamnmngeaa
