/- The law's made and want: the stores of a change that is asked for; of any change, any node; conditions: numbers of the width. -/
import Derived.Test.YtbadlmicbbjkaaaN9Ref4
import Derived.Test.YtbadlmicbbjkaaaN9Ref2
import Derived.Test.YtbadlmicbbjkaaaN9Prog
import Derived.Test.YtbadlmicbbjkaaaN9Arg
namespace Go.Proofs.Ytbadlmicbbjkaaa
open Go.RowKit
set_option linter.unusedVariables false
set_option linter.unusedSimpArgs false
/-- The change that is asked for, by its number modulo 6. -/
def askP (base : Int) (n : Nd) (d key ptr : Int) : List (Int × Int) × Int :=
  if d = 0 then insP base n key ptr else if d = 1 then delP base n key else if d = 2 then repP base n else if d = 3 then swapP base n key ptr else if d = 4 then cutP base n key else linkP base n ptr
def kd9 (k : Int) : Int := (IntKind.u64.wrap k).tmod 6
theorem kd9_lt (k : Int) : 0 ≤ kd9 k ∧ kd9 k < 6 := by
  unfold kd9
  rw [IntKind.wrap_u64, Int.tmod_eq_emod_of_nonneg (by omega)]
  omega
set_option maxRecDepth 100000 in
set_option maxHeartbeats 2000000 in
theorem made_any {base : Int} (hb : 0 ≤ base) (n : Nd) (k key ptr : Int) (w : World) : Calls Try.prog 9 #[.int .u64 base, n.V, .agg #[.int .i64 k, .int .u64 key, .int .u64 ptr]] w (PutsOut w (askP base n (kd9 k) key ptr)) := by
  have r0 := Row.new w 27 n.cl.toArray
  have r1 := r0.below (alloc_low (w.alloc (.cells n.cl.toArray 27)) (.cells #[.int .i64 k, .int .u64 key, .int .u64 ptr] 29)) r0.lt
  have ra := Row.new (w.alloc (.cells n.cl.toArray 27)) 29 #[.int .i64 k, .int .u64 key, .int .u64 ptr]
  rw [show (w.alloc (.cells n.cl.toArray 27)).heap.size = w.heap.size + 1 by simp] at ra
  have hb0 := low_and (alloc_low w (.cells n.cl.toArray 27)) (alloc_low (w.alloc (.cells n.cl.toArray 27)) (.cells #[.int .i64 k, .int .u64 key, .int .u64 ptr] 29))
  obtain ⟨Wa, hWa⟩ : ∃ Wa, Wa = (w.alloc (.cells n.cl.toArray 27)).alloc (.cells #[.int .i64 k, .int .u64 key, .int .u64 ptr] 29) := ⟨_, rfl⟩
  rw [← hWa] at r1 ra hb0
  have a0 : Wa.cell? ⟨w.heap.size + 1, 0, none⟩ = some (.int .i64 k) := ra.cell 0
  have a1 : Wa.cell? ⟨w.heap.size + 1, 1, none⟩ = some (.int .u64 key) := ra.cell 1
  have a2 : Wa.cell? ⟨w.heap.size + 1, 2, none⟩ = some (.int .u64 ptr) := ra.cell 2
  have HB0 := Lib.hid hb0
  have HWa := Lib.hid hWa
  have HWs := Lib.hid (show w.heap.size ≤ Wa.heap.size from hb0.size)
  obtain ⟨g0, g1⟩ := kd9_lt k
  have hk : kd9 k = (IntKind.u64.wrap k).tmod 6 := rfl
  generalize hd : kd9 k = d at hk g0 g1 ⊢
  clear hWa hb0 r0 ra hd
  obtain rfl | rfl | rfl | rfl | rfl | rfl : d = 0 ∨ d = 1 ∨ d = 2 ∨ d = 3 ∨ d = 4 ∨ d = 5 := by omega
  · rw [show askP base n 0 key ptr = insP base n key ptr from rfl]
    have HC := Lib.hid (fun W' => ins_any hb n key ptr W')
    have t0 : ((IntKind.u64.wrap k).tmod 6 == 0) = true := by rw [← hk]; rfl
    clear hk
    generalize insP base n key ptr = R at HC ⊢
    go_enter Try.func9, Try.ntmps9
    go_wp2_with (first
      | (rw [← HWa.out]; go_simp)
      | ((with_reducible refine show_load ?_); refine wpList_load_mid rfl 27 _ rfl w.heap.size 0 rfl n.cl _ (ndR r1) Try.underlying27 rfl ndI ?_)
      | (go_at_call 24; refine (HC.out _).mono ?_; rintro e w1 ⟨⟨v1, rfl, ho⟩, h1⟩))
    go_ret2
    exact ⟨⟨_, rfl, ownS_mono ho HWs.out⟩, low_and HB0.out h1⟩
  · rw [show askP base n 1 key ptr = delP base n key from rfl]
    have HC := Lib.hid (fun W' => del_any hb n key W')
    have t0 : ((IntKind.u64.wrap k).tmod 6 == 0) = false := by rw [← hk]; rfl
    have t1 : ((IntKind.u64.wrap k).tmod 6 == 1) = true := by rw [← hk]; rfl
    clear hk
    generalize delP base n key = R at HC ⊢
    go_enter Try.func9, Try.ntmps9
    go_wp2_with (first
      | (rw [← HWa.out]; go_simp)
      | ((with_reducible refine show_load ?_); refine wpList_load_mid rfl 27 _ rfl w.heap.size 0 rfl n.cl _ (ndR r1) Try.underlying27 rfl ndI ?_)
      | (go_at_call 25; refine (HC.out _).mono ?_; rintro e w1 ⟨⟨v1, rfl, ho⟩, h1⟩))
    go_ret2
    exact ⟨⟨_, rfl, ownS_mono ho HWs.out⟩, low_and HB0.out h1⟩
  · rw [show askP base n 2 key ptr = repP base n from rfl]
    have HC := Lib.hid (fun W' => rep_any hb n W')
    have t0 : ((IntKind.u64.wrap k).tmod 6 == 0) = false := by rw [← hk]; rfl
    have t1 : ((IntKind.u64.wrap k).tmod 6 == 1) = false := by rw [← hk]; rfl
    have t2 : ((IntKind.u64.wrap k).tmod 6 == 2) = true := by rw [← hk]; rfl
    clear hk
    generalize repP base n = R at HC ⊢
    go_enter Try.func9, Try.ntmps9
    go_wp2_with (first
      | (rw [← HWa.out]; go_simp)
      | ((with_reducible refine show_load ?_); refine wpList_load_mid rfl 27 _ rfl w.heap.size 0 rfl n.cl _ (ndR r1) Try.underlying27 rfl ndI ?_)
      | (go_at_call 21; refine (HC.out _).mono ?_; rintro e w1 ⟨⟨v1, rfl, ho⟩, h1⟩))
    go_ret2
    exact ⟨⟨_, rfl, ownS_mono ho HWs.out⟩, low_and HB0.out h1⟩
  · rw [show askP base n 3 key ptr = swapP base n key ptr from rfl]
    have HC := Lib.hid (fun W' => swap_any hb n key ptr W')
    have t0 : ((IntKind.u64.wrap k).tmod 6 == 0) = false := by rw [← hk]; rfl
    have t1 : ((IntKind.u64.wrap k).tmod 6 == 1) = false := by rw [← hk]; rfl
    have t2 : ((IntKind.u64.wrap k).tmod 6 == 2) = false := by rw [← hk]; rfl
    have t3 : ((IntKind.u64.wrap k).tmod 6 == 3) = true := by rw [← hk]; rfl
    clear hk
    generalize swapP base n key ptr = R at HC ⊢
    go_enter Try.func9, Try.ntmps9
    go_wp2_with (first
      | (rw [← HWa.out]; go_simp)
      | ((with_reducible refine show_load ?_); refine wpList_load_mid rfl 27 _ rfl w.heap.size 0 rfl n.cl _ (ndR r1) Try.underlying27 rfl ndI ?_)
      | (go_at_call 26; refine (HC.out _).mono ?_; rintro e w1 ⟨⟨v1, rfl, ho⟩, h1⟩))
    go_ret2
    exact ⟨⟨_, rfl, ownS_mono ho HWs.out⟩, low_and HB0.out h1⟩
  · rw [show askP base n 4 key ptr = cutP base n key from rfl]
    have HC := Lib.hid (fun W' => cut_any hb n key W')
    have t0 : ((IntKind.u64.wrap k).tmod 6 == 0) = false := by rw [← hk]; rfl
    have t1 : ((IntKind.u64.wrap k).tmod 6 == 1) = false := by rw [← hk]; rfl
    have t2 : ((IntKind.u64.wrap k).tmod 6 == 2) = false := by rw [← hk]; rfl
    have t3 : ((IntKind.u64.wrap k).tmod 6 == 3) = false := by rw [← hk]; rfl
    have t4 : ((IntKind.u64.wrap k).tmod 6 == 4) = true := by rw [← hk]; rfl
    clear hk
    generalize cutP base n key = R at HC ⊢
    go_enter Try.func9, Try.ntmps9
    go_wp2_with (first
      | (rw [← HWa.out]; go_simp)
      | ((with_reducible refine show_load ?_); refine wpList_load_mid rfl 27 _ rfl w.heap.size 0 rfl n.cl _ (ndR r1) Try.underlying27 rfl ndI ?_)
      | (go_at_call 27; refine (HC.out _).mono ?_; rintro e w1 ⟨⟨v1, rfl, ho⟩, h1⟩))
    go_ret2
    exact ⟨⟨_, rfl, ownS_mono ho HWs.out⟩, low_and HB0.out h1⟩
  · rw [show askP base n 5 key ptr = linkP base n ptr from rfl]
    have HC := Lib.hid (fun W' => link_any hb n ptr W')
    have t0 : ((IntKind.u64.wrap k).tmod 6 == 0) = false := by rw [← hk]; rfl
    have t1 : ((IntKind.u64.wrap k).tmod 6 == 1) = false := by rw [← hk]; rfl
    have t2 : ((IntKind.u64.wrap k).tmod 6 == 2) = false := by rw [← hk]; rfl
    have t3 : ((IntKind.u64.wrap k).tmod 6 == 3) = false := by rw [← hk]; rfl
    have t4 : ((IntKind.u64.wrap k).tmod 6 == 4) = false := by rw [← hk]; rfl
    clear hk
    generalize linkP base n ptr = R at HC ⊢
    go_enter Try.func9, Try.ntmps9
    go_wp2_with (first
      | (rw [← HWa.out]; go_simp)
      | ((with_reducible refine show_load ?_); refine wpList_load_mid rfl 27 _ rfl w.heap.size 0 rfl n.cl _ (ndR r1) Try.underlying27 rfl ndI ?_)
      | (go_at_call 28; refine (HC.out _).mono ?_; rintro e w1 ⟨⟨v1, rfl, ho⟩, h1⟩))
    go_ret2
    exact ⟨⟨_, rfl, ownS_mono ho HWs.out⟩, low_and HB0.out h1⟩
set_option maxRecDepth 100000 in
set_option maxHeartbeats 2000000 in
theorem want_any {base : Int} (hb : 0 ≤ base) (n : Nd) (k key ptr : Int) (w : World) : Calls Try.prog 10 #[.int .u64 base, n.V, .agg #[.int .i64 k, .int .u64 key, .int .u64 ptr]] w (PutsOut w (askP base n (kd9 k) key ptr)) := by
  have r0 := Row.new w 27 n.cl.toArray
  have r1 := r0.below (alloc_low (w.alloc (.cells n.cl.toArray 27)) (.cells #[.int .i64 k, .int .u64 key, .int .u64 ptr] 29)) r0.lt
  have ra := Row.new (w.alloc (.cells n.cl.toArray 27)) 29 #[.int .i64 k, .int .u64 key, .int .u64 ptr]
  rw [show (w.alloc (.cells n.cl.toArray 27)).heap.size = w.heap.size + 1 by simp] at ra
  have hb0 := low_and (alloc_low w (.cells n.cl.toArray 27)) (alloc_low (w.alloc (.cells n.cl.toArray 27)) (.cells #[.int .i64 k, .int .u64 key, .int .u64 ptr] 29))
  obtain ⟨Wa, hWa⟩ : ∃ Wa, Wa = (w.alloc (.cells n.cl.toArray 27)).alloc (.cells #[.int .i64 k, .int .u64 key, .int .u64 ptr] 29) := ⟨_, rfl⟩
  rw [← hWa] at r1 ra hb0
  have a0 : Wa.cell? ⟨w.heap.size + 1, 0, none⟩ = some (.int .i64 k) := ra.cell 0
  have a1 : Wa.cell? ⟨w.heap.size + 1, 1, none⟩ = some (.int .u64 key) := ra.cell 1
  have a2 : Wa.cell? ⟨w.heap.size + 1, 2, none⟩ = some (.int .u64 ptr) := ra.cell 2
  have HB0 := Lib.hid hb0
  have HWa := Lib.hid hWa
  have HWs := Lib.hid (show w.heap.size ≤ Wa.heap.size from hb0.size)
  obtain ⟨g0, g1⟩ := kd9_lt k
  have hk : kd9 k = (IntKind.u64.wrap k).tmod 6 := rfl
  generalize hd : kd9 k = d at hk g0 g1 ⊢
  clear hWa hb0 r0 ra hd
  obtain rfl | rfl | rfl | rfl | rfl | rfl : d = 0 ∨ d = 1 ∨ d = 2 ∨ d = 3 ∨ d = 4 ∨ d = 5 := by omega
  · rw [show askP base n 0 key ptr = insP base n key ptr from rfl]
    have HC := Lib.hid (fun W' => r9ins_any hb n key ptr W')
    have t0 : ((IntKind.u64.wrap k).tmod 6 == 0) = true := by rw [← hk]; rfl
    clear hk
    generalize insP base n key ptr = R at HC ⊢
    go_enter Try.func10, Try.ntmps10
    go_wp2_with (first
      | (rw [← HWa.out]; go_simp)
      | ((with_reducible refine show_load ?_); refine wpList_load_mid rfl 27 _ rfl w.heap.size 0 rfl n.cl _ (ndR r1) Try.underlying27 rfl ndI ?_)
      | (go_at_call 29; refine (HC.out _).mono ?_; rintro e w1 ⟨⟨v1, rfl, ho⟩, h1⟩))
    go_ret2
    exact ⟨⟨_, rfl, ownS_mono ho HWs.out⟩, low_and HB0.out h1⟩
  · rw [show askP base n 1 key ptr = delP base n key from rfl]
    have HC := Lib.hid (fun W' => r9del_any hb n key W')
    have t0 : ((IntKind.u64.wrap k).tmod 6 == 0) = false := by rw [← hk]; rfl
    have t1 : ((IntKind.u64.wrap k).tmod 6 == 1) = true := by rw [← hk]; rfl
    clear hk
    generalize delP base n key = R at HC ⊢
    go_enter Try.func10, Try.ntmps10
    go_wp2_with (first
      | (rw [← HWa.out]; go_simp)
      | ((with_reducible refine show_load ?_); refine wpList_load_mid rfl 27 _ rfl w.heap.size 0 rfl n.cl _ (ndR r1) Try.underlying27 rfl ndI ?_)
      | (go_at_call 30; refine (HC.out _).mono ?_; rintro e w1 ⟨⟨v1, rfl, ho⟩, h1⟩))
    go_ret2
    exact ⟨⟨_, rfl, ownS_mono ho HWs.out⟩, low_and HB0.out h1⟩
  · rw [show askP base n 2 key ptr = repP base n from rfl]
    have HC := Lib.hid (fun W' => r9rep_any hb n W')
    have t0 : ((IntKind.u64.wrap k).tmod 6 == 0) = false := by rw [← hk]; rfl
    have t1 : ((IntKind.u64.wrap k).tmod 6 == 1) = false := by rw [← hk]; rfl
    have t2 : ((IntKind.u64.wrap k).tmod 6 == 2) = true := by rw [← hk]; rfl
    clear hk
    generalize repP base n = R at HC ⊢
    go_enter Try.func10, Try.ntmps10
    go_wp2_with (first
      | (rw [← HWa.out]; go_simp)
      | ((with_reducible refine show_load ?_); refine wpList_load_mid rfl 27 _ rfl w.heap.size 0 rfl n.cl _ (ndR r1) Try.underlying27 rfl ndI ?_)
      | (go_at_call 31; refine (HC.out _).mono ?_; rintro e w1 ⟨⟨v1, rfl, ho⟩, h1⟩))
    go_ret2
    exact ⟨⟨_, rfl, ownS_mono ho HWs.out⟩, low_and HB0.out h1⟩
  · rw [show askP base n 3 key ptr = swapP base n key ptr from rfl]
    have HC := Lib.hid (fun W' => r9swap_any hb n key ptr W')
    have t0 : ((IntKind.u64.wrap k).tmod 6 == 0) = false := by rw [← hk]; rfl
    have t1 : ((IntKind.u64.wrap k).tmod 6 == 1) = false := by rw [← hk]; rfl
    have t2 : ((IntKind.u64.wrap k).tmod 6 == 2) = false := by rw [← hk]; rfl
    have t3 : ((IntKind.u64.wrap k).tmod 6 == 3) = true := by rw [← hk]; rfl
    clear hk
    generalize swapP base n key ptr = R at HC ⊢
    go_enter Try.func10, Try.ntmps10
    go_wp2_with (first
      | (rw [← HWa.out]; go_simp)
      | ((with_reducible refine show_load ?_); refine wpList_load_mid rfl 27 _ rfl w.heap.size 0 rfl n.cl _ (ndR r1) Try.underlying27 rfl ndI ?_)
      | (go_at_call 32; refine (HC.out _).mono ?_; rintro e w1 ⟨⟨v1, rfl, ho⟩, h1⟩))
    go_ret2
    exact ⟨⟨_, rfl, ownS_mono ho HWs.out⟩, low_and HB0.out h1⟩
  · rw [show askP base n 4 key ptr = cutP base n key from rfl]
    have HC := Lib.hid (fun W' => r9cut_any hb n key W')
    have t0 : ((IntKind.u64.wrap k).tmod 6 == 0) = false := by rw [← hk]; rfl
    have t1 : ((IntKind.u64.wrap k).tmod 6 == 1) = false := by rw [← hk]; rfl
    have t2 : ((IntKind.u64.wrap k).tmod 6 == 2) = false := by rw [← hk]; rfl
    have t3 : ((IntKind.u64.wrap k).tmod 6 == 3) = false := by rw [← hk]; rfl
    have t4 : ((IntKind.u64.wrap k).tmod 6 == 4) = true := by rw [← hk]; rfl
    clear hk
    generalize cutP base n key = R at HC ⊢
    go_enter Try.func10, Try.ntmps10
    go_wp2_with (first
      | (rw [← HWa.out]; go_simp)
      | ((with_reducible refine show_load ?_); refine wpList_load_mid rfl 27 _ rfl w.heap.size 0 rfl n.cl _ (ndR r1) Try.underlying27 rfl ndI ?_)
      | (go_at_call 33; refine (HC.out _).mono ?_; rintro e w1 ⟨⟨v1, rfl, ho⟩, h1⟩))
    go_ret2
    exact ⟨⟨_, rfl, ownS_mono ho HWs.out⟩, low_and HB0.out h1⟩
  · rw [show askP base n 5 key ptr = linkP base n ptr from rfl]
    have HC := Lib.hid (fun W' => r9link_any hb n ptr W')
    have t0 : ((IntKind.u64.wrap k).tmod 6 == 0) = false := by rw [← hk]; rfl
    have t1 : ((IntKind.u64.wrap k).tmod 6 == 1) = false := by rw [← hk]; rfl
    have t2 : ((IntKind.u64.wrap k).tmod 6 == 2) = false := by rw [← hk]; rfl
    have t3 : ((IntKind.u64.wrap k).tmod 6 == 3) = false := by rw [← hk]; rfl
    have t4 : ((IntKind.u64.wrap k).tmod 6 == 4) = false := by rw [← hk]; rfl
    clear hk
    generalize linkP base n ptr = R at HC ⊢
    go_enter Try.func10, Try.ntmps10
    go_wp2_with (first
      | (rw [← HWa.out]; go_simp)
      | ((with_reducible refine show_load ?_); refine wpList_load_mid rfl 27 _ rfl w.heap.size 0 rfl n.cl _ (ndR r1) Try.underlying27 rfl ndI ?_)
      | (go_at_call 34; refine (HC.out _).mono ?_; rintro e w1 ⟨⟨v1, rfl, ho⟩, h1⟩))
    go_ret2
    exact ⟨⟨_, rfl, ownS_mono ho HWs.out⟩, low_and HB0.out h1⟩
end Go.Proofs.Ytbadlmicbbjkaaa
