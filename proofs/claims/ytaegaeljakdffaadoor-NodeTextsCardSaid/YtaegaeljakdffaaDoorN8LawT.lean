/- NodeTexts: the law is true of any node whose numbers are such as it can have; where the library's table of powers lies as it was laid. -/
import Derived.Test.YtaegaeljakdffaaDoorN8RefX
import Derived.Test.YtaegaeljakdffaaDoorN8Known
namespace Go.Proofs.YtaegaeljakdffaaDoor
open Go.RowKit
set_option linter.unusedVariables false
/-- A node, its level from 0 on. -/
def Nd.up (n : Nd) : Nd := if n.l < 0 then { n with l := 0 } else n
theorem up_wf {n : Nd} (h : n.Wf) : n.up.Wf := by
  unfold Nd.up
  split
  · exact ⟨by show (-9223372036854775808 : Int) ≤ 0; decide, by show (0 : Int) ≤ 9223372036854775807; decide, h.lo, h.nx, h.ct, h.fi, h.ks, h.ps⟩
  · exact h
theorem up_lv (n : Nd) : 0 ≤ n.up.l := by
  unfold Nd.up
  split
  · exact Int.le_refl _
  · omega
theorem text_up {n : Nd} (hw : n.Wf) (hl : 0 ≤ n.l) (w : World) (T : Pow w) : Calls Tryd.prog 4 #[n.V] w fun e w' => e = .returned (.string (txB n n.es n.es.length)) ∧ Below w.heap.size w w' := by
  rw [tx_join]
  exact nText_any n hw hl w T
theorem up_neg {w : World} {g : Nat} {n : Nd} (h : NdAt w g n) (hl : n.l < 0) : NdAt (w.setCell ⟨g, 0, none⟩ (.int .i64 0)) g n.up := by
  have e : n.up = { n with l := 0 } := by unfold Nd.up; rw [if_pos hl]
  rw [e]
  exact Row.set h 0 (.int .i64 0)
set_option maxRecDepth 100000 in
set_option maxHeartbeats 8000000 in
theorem lawTexts (n : Nd) (hw : n.Wf) (w : World) (T : Pow w) : Calls Tryd.prog 3 #[n.V] w fun e w' => e = .returned (.bool true) ∧ Below w.heap.size w w' := by
  have r0 : NdAt (w.alloc (.cells n.cl.toArray 27)) w.heap.size n := Row.new w 27 n.cl.toArray
  obtain ⟨Wa, hWa⟩ : ∃ Wa, Wa = w.alloc (.cells n.cl.toArray 27) := ⟨_, rfl⟩
  rw [← hWa] at r0
  have hbA : Below w.heap.size w Wa := by rw [hWa]; exact alloc_low _ _
  have HWa := Lib.hid hWa
  obtain ⟨N, hN⟩ : ∃ N, N = n.up := ⟨_, rfl⟩
  obtain ⟨Wb, hWb⟩ : ∃ Wb, Wb = if n.l < 0 then Wa.setCell ⟨w.heap.size, 0, none⟩ (.int .i64 0) else Wa := ⟨_, rfl⟩
  have hRB : NdAt Wb w.heap.size N := by
    rw [hWb, hN]
    by_cases hl : n.l < 0
    · rw [if_pos hl]
      exact up_neg r0 hl
    · rw [if_neg hl]
      unfold Nd.up
      rw [if_neg hl]
      exact r0
  have hBB : Below w.heap.size w Wb := by
    rw [hWb]
    by_cases hl : n.l < 0
    · rw [if_pos hl]
      exact hbA.setCell (p := ⟨w.heap.size, 0, none⟩) (Nat.le_refl _) _
    · rw [if_neg hl]
      exact hbA
  have hNw : N.Wf := by rw [hN]; exact up_wf hw
  have hNl : 0 ≤ N.l := by rw [hN]; exact up_lv n
  have HT := Lib.hid (fun (p : LowBy Wb) => Calls.low_of (text_up hNw hNl p.W (pow_low T (low_and hBB p.low))))
  have HR := Lib.hid (fun (p : LowBy Wb) => Calls.low_of (r8Text_any N hNw hNl p.W))
  have HK := Lib.hid (fun (p : LowBy Wb) => Calls.low_of (n8known_any p.W (pow_low T (low_and hBB p.low))))
  obtain ⟨S, hS⟩ : ∃ S, S = txB N N.es N.es.length := ⟨_, rfl⟩
  rw [← hS] at HT HR
  have hRn := Lib.hid (fun (w' : World) (h : ∃ p : LowBy Wb, w' = p.W) => (show w'.rangeAt w.heap.size 0 N.cl by obtain ⟨p, rfl⟩ := h; exact ndR (hRB.below p.low hRB.lt)))
  have c0 : Wa.cell? ⟨w.heap.size, 0, none⟩ = some (.int .i64 n.l) := ndAt_at r0 0
  have z0 := r0.free 0
  have mixed : Tryd.prog.follows .mixedOrders = true := by kernel_rfl
  have HB := Lib.hid hBB
  clear hBB hRB hNw hNl hS hN hWa r0 hbA T hw
  by_cases hl : n.l < 0
  · rw [if_pos hl] at hWb
    go_enter Tryd.func3, Tryd.ntmps3
    go_wp2_with (first | (rw [← HWa.out]; go_simp))
    rw [← hWb]
    refine wp_region_quiet_low (by assumption) (by kernel_rfl) ?_
    repeat (first | go_big_quiet_skip | (go_big_quiet_want; first | (refine quiet_load_mid 27 _ rfl w.heap.size 0 rfl N.cl _ hRn.out Tryd.underlying27 rfl ndI ?_; simp only [Act.put, List.setIfInBounds_toArray, List.set_cons_succ, List.set_cons_zero]; go_big_quiet_on) | (go_big_quiet_op; first | go_big_quiet_on | go_big_quiet_call (first | (go_at_call 4; with_reducible exact HT.out _) | (go_at_call 5; with_reducible exact HR.out _) | (go_at_call 6; with_reducible exact HK.out _)))))
    refine wpQuiet_nil ?_
    intro _ hw'
    obtain ⟨p, hw''⟩ := hw'
    subst hw''
    have hp := Lib.hid p.low
    generalize p.W = W1 at *
    go_wp2
    go_ret
    exact ⟨rfl, low_and HB.out hp.out⟩
  · rw [if_neg hl] at hWb
    go_enter Tryd.func3, Tryd.ntmps3
    go_wp2_with (first | (rw [← HWa.out]; go_simp))
    rw [← hWb]
    refine wp_region_quiet_low (by assumption) (by kernel_rfl) ?_
    repeat (first | go_big_quiet_skip | (go_big_quiet_want; first | (refine quiet_load_mid 27 _ rfl w.heap.size 0 rfl N.cl _ hRn.out Tryd.underlying27 rfl ndI ?_; simp only [Act.put, List.setIfInBounds_toArray, List.set_cons_succ, List.set_cons_zero]; go_big_quiet_on) | (go_big_quiet_op; first | go_big_quiet_on | go_big_quiet_call (first | (go_at_call 4; with_reducible exact HT.out _) | (go_at_call 5; with_reducible exact HR.out _) | (go_at_call 6; with_reducible exact HK.out _)))))
    refine wpQuiet_nil ?_
    intro _ hw'
    obtain ⟨p, hw''⟩ := hw'
    subst hw''
    have hp := Lib.hid p.low
    generalize p.W = W1 at *
    go_wp2
    go_ret
    exact ⟨rfl, low_and HB.out hp.out⟩
end Go.Proofs.YtaegaeljakdffaaDoor
