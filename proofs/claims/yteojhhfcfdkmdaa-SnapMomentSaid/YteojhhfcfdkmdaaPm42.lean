/- Texts of this claim, packed: SnPu. -/
import Derived.Test.YteojhhfcfdkmdaaPm40
import Derived.Test.YteojhhfcfdkmdaaPm35
set_option linter.unusedSimpArgs false
set_option linter.unusedVariables false
/- The law's puts: the stores of a change that is asked for; conditions: none. -/
namespace Go.Proofs.Yteojhhfcfdkmdaa
open Go.RowKit
set_option linter.unusedVariables false
set_option linter.unusedSimpArgs false
/-- Which change it is, by its number modulo 5; of Link the one to the right. -/
def k11 (k : Int) : Int := (IntKind.u64.wrap k).tmod 5
theorem k11_lt (k : Int) : 0 ≤ k11 k ∧ k11 k < 5 := by
  unfold k11
  rw [IntKind.wrap_u64, Int.tmod_eq_emod_of_nonneg (by omega)]
  omega
def d11 (e : Int) : Int := if e = 0 then 0 else if e = 1 then 1 else if e = 2 then 3 else if e = 3 then 4 else 5
def p11 (e ptr : Int) : Int := if e = 4 then 1280 else ptr
def ask11 (n : Nd) (k key ptr : Int) : List (Int × Int) × Int := askP 1088 n (d11 (k11 k)) key (p11 (k11 k) ptr)
theorem d11_lt {e : Int} (h : 0 ≤ e ∧ e < 5) : 0 ≤ d11 e ∧ d11 e < 6 ∧ (d11 e = 5 → e = 4) := by
  obtain ⟨h1, h2⟩ := h
  rcases (by omega : e = 0 ∨ e = 1 ∨ e = 2 ∨ e = 3 ∨ e = 4) with rfl | rfl | rfl | rfl | rfl <;> exact ⟨by decide, by decide, by decide⟩
set_option maxRecDepth 100000 in
set_option maxHeartbeats 2000000 in
theorem puts11_any (n : Nd) (k key ptr : Int) (w : World) : Calls Try.prog 24 #[n.V, .agg #[.int .i64 k, .int .u64 key, .int .u64 ptr]] w (PutsOut w (ask11 n k key ptr)) := by
  have r0 := Row.new w 27 n.cl.toArray
  have r1 := r0.below (alloc_low (w.alloc (.cells n.cl.toArray 27)) (.cells #[.int .i64 k, .int .u64 key, .int .u64 ptr] 68)) r0.lt
  have ra := Row.new (w.alloc (.cells n.cl.toArray 27)) 68 #[.int .i64 k, .int .u64 key, .int .u64 ptr]
  rw [show (w.alloc (.cells n.cl.toArray 27)).heap.size = w.heap.size + 1 by simp] at ra
  have hb0 := low_and (alloc_low w (.cells n.cl.toArray 27)) (alloc_low (w.alloc (.cells n.cl.toArray 27)) (.cells #[.int .i64 k, .int .u64 key, .int .u64 ptr] 68))
  obtain ⟨Wa, hWa⟩ : ∃ Wa, Wa = (w.alloc (.cells n.cl.toArray 27)).alloc (.cells #[.int .i64 k, .int .u64 key, .int .u64 ptr] 68) := ⟨_, rfl⟩
  rw [← hWa] at r1 ra hb0
  have a0 : Wa.cell? ⟨w.heap.size + 1, 0, none⟩ = some (.int .i64 k) := ra.cell 0
  have a1 : Wa.cell? ⟨w.heap.size + 1, 1, none⟩ = some (.int .u64 key) := ra.cell 1
  have a2 : Wa.cell? ⟨w.heap.size + 1, 2, none⟩ = some (.int .u64 ptr) := ra.cell 2
  have HB0 := Lib.hid hb0
  have HWa := Lib.hid hWa
  have HWs := Lib.hid (show w.heap.size ≤ Wa.heap.size from hb0.size)
  obtain ⟨g0, g1⟩ := k11_lt k
  unfold ask11
  have hk : k11 k = (IntKind.u64.wrap k).tmod 5 := rfl
  generalize hd : k11 k = d at hk g0 g1 ⊢
  clear hWa hb0 r0 ra hd
  obtain rfl | rfl | rfl | rfl | rfl : d = 0 ∨ d = 1 ∨ d = 2 ∨ d = 3 ∨ d = 4 := by omega
  · rw [show askP 1088 n (d11 0) key (p11 0 ptr) = insP 1088 n key ptr from rfl]
    have HC := Lib.hid (fun W' => ins_any (base := 1088) (by decide) n key ptr W')
    have t0 : ((IntKind.u64.wrap k).tmod 5 == 0) = true := by rw [← hk]; rfl
    clear hk
    generalize insP 1088 n key ptr = R at HC ⊢
    go_enter Try.func24, Try.ntmps24
    go_wp2_with (first
      | (rw [← HWa.out]; go_simp)
      | ((with_reducible refine show_loadN ?_); refine wpList_load_mid rfl 27 _ rfl w.heap.size 0 rfl n.cl _ (ndR r1) Try.underlying27 rfl ndI ?_)
      | (go_at_call 42; refine (HC.out _).mono ?_; rintro e w1 ⟨⟨v1, rfl, ho⟩, h1⟩))
    go_ret2
    exact ⟨⟨_, rfl, ownS_mono ho HWs.out⟩, low_and HB0.out h1⟩
  · rw [show askP 1088 n (d11 1) key (p11 1 ptr) = delP 1088 n key from rfl]
    have HC := Lib.hid (fun W' => del_any (base := 1088) (by decide) n key W')
    have t0 : ((IntKind.u64.wrap k).tmod 5 == 0) = false := by rw [← hk]; rfl
    have t1 : ((IntKind.u64.wrap k).tmod 5 == 1) = true := by rw [← hk]; rfl
    clear hk
    generalize delP 1088 n key = R at HC ⊢
    go_enter Try.func24, Try.ntmps24
    go_wp2_with (first
      | (rw [← HWa.out]; go_simp)
      | ((with_reducible refine show_loadN ?_); refine wpList_load_mid rfl 27 _ rfl w.heap.size 0 rfl n.cl _ (ndR r1) Try.underlying27 rfl ndI ?_)
      | (go_at_call 43; refine (HC.out _).mono ?_; rintro e w1 ⟨⟨v1, rfl, ho⟩, h1⟩))
    go_ret2
    exact ⟨⟨_, rfl, ownS_mono ho HWs.out⟩, low_and HB0.out h1⟩
  · rw [show askP 1088 n (d11 2) key (p11 2 ptr) = swapP 1088 n key ptr from rfl]
    have HC := Lib.hid (fun W' => swap_any (base := 1088) (by decide) n key ptr W')
    have t0 : ((IntKind.u64.wrap k).tmod 5 == 0) = false := by rw [← hk]; rfl
    have t1 : ((IntKind.u64.wrap k).tmod 5 == 1) = false := by rw [← hk]; rfl
    have t2 : ((IntKind.u64.wrap k).tmod 5 == 2) = true := by rw [← hk]; rfl
    clear hk
    generalize swapP 1088 n key ptr = R at HC ⊢
    go_enter Try.func24, Try.ntmps24
    go_wp2_with (first
      | (rw [← HWa.out]; go_simp)
      | ((with_reducible refine show_loadN ?_); refine wpList_load_mid rfl 27 _ rfl w.heap.size 0 rfl n.cl _ (ndR r1) Try.underlying27 rfl ndI ?_)
      | (go_at_call 44; refine (HC.out _).mono ?_; rintro e w1 ⟨⟨v1, rfl, ho⟩, h1⟩))
    go_ret2
    exact ⟨⟨_, rfl, ownS_mono ho HWs.out⟩, low_and HB0.out h1⟩
  · rw [show askP 1088 n (d11 3) key (p11 3 ptr) = cutP 1088 n key from rfl]
    have HC := Lib.hid (fun W' => cut_any (base := 1088) (by decide) n key W')
    have t0 : ((IntKind.u64.wrap k).tmod 5 == 0) = false := by rw [← hk]; rfl
    have t1 : ((IntKind.u64.wrap k).tmod 5 == 1) = false := by rw [← hk]; rfl
    have t2 : ((IntKind.u64.wrap k).tmod 5 == 2) = false := by rw [← hk]; rfl
    have t3 : ((IntKind.u64.wrap k).tmod 5 == 3) = true := by rw [← hk]; rfl
    clear hk
    generalize cutP 1088 n key = R at HC ⊢
    go_enter Try.func24, Try.ntmps24
    go_wp2_with (first
      | (rw [← HWa.out]; go_simp)
      | ((with_reducible refine show_loadN ?_); refine wpList_load_mid rfl 27 _ rfl w.heap.size 0 rfl n.cl _ (ndR r1) Try.underlying27 rfl ndI ?_)
      | (go_at_call 45; refine (HC.out _).mono ?_; rintro e w1 ⟨⟨v1, rfl, ho⟩, h1⟩))
    go_ret2
    exact ⟨⟨_, rfl, ownS_mono ho HWs.out⟩, low_and HB0.out h1⟩
  · rw [show askP 1088 n (d11 4) key (p11 4 ptr) = linkP 1088 n 1280 from rfl]
    have HC := Lib.hid (fun W' => link_any (base := 1088) (by decide) n 1280 W')
    have t0 : ((IntKind.u64.wrap k).tmod 5 == 0) = false := by rw [← hk]; rfl
    have t1 : ((IntKind.u64.wrap k).tmod 5 == 1) = false := by rw [← hk]; rfl
    have t2 : ((IntKind.u64.wrap k).tmod 5 == 2) = false := by rw [← hk]; rfl
    have t3 : ((IntKind.u64.wrap k).tmod 5 == 3) = false := by rw [← hk]; rfl
    clear hk
    generalize linkP 1088 n 1280 = R at HC ⊢
    go_enter Try.func24, Try.ntmps24
    go_wp2_with (first
      | (rw [← HWa.out]; go_simp)
      | ((with_reducible refine show_loadN ?_); refine wpList_load_mid rfl 27 _ rfl w.heap.size 0 rfl n.cl _ (ndR r1) Try.underlying27 rfl ndI ?_)
      | (go_at_call 46; refine (HC.out _).mono ?_; rintro e w1 ⟨⟨v1, rfl, ho⟩, h1⟩))
    go_ret2
    exact ⟨⟨_, rfl, ownS_mono ho HWs.out⟩, low_and HB0.out h1⟩
end Go.Proofs.Yteojhhfcfdkmdaa
