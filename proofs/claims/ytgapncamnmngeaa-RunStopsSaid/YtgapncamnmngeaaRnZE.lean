/- RunStops, of arguments as they come. -/
import Derived.Test.YtgapncamnmngeaaRnZ
namespace Go.Proofs.Ytgapncamnmngeaa
open Go.RowKit Go.Shelf
set_option linter.unusedVariables false
set_option maxRecDepth 100000 in
set_option maxHeartbeats 1600000 in
theorem runStops_nomem (w : World) {z wh a : Int} {A : Option Addr} {N cap : Nat} (h : z < 1 ∨ 16 < z) :
    Calls Try.prog 6 #[.int .i64 z, .slice A N cap, .int .i64 wh, .int .u64 a] w fun e w' => e = .returned (.bool true) ∧ Below w.heap.size w w' := by
  have HM := Lib.hid (mem10_no h w)
  clear h
  go_enter Try.func6, Try.ntmps6
  go_wp2_with fail
  refine HM.out.mono ?_
  rintro e w1 ⟨rfl, rfl⟩
  go_wp2_with fail
  refine (k10_any _).mono ?_
  rintro e w2 ⟨rfl, hb2⟩
  have HF := Lib.hid hb2
  clear hb2
  go_wp2
  go_ret
  exact ⟨rfl, HF.out⟩
set_option maxRecDepth 100000 in
set_option maxHeartbeats 1600000 in
theorem runStops_out (w : World) {n a : Nat} {wh : Int} {A : Option Addr} {N cap : Nat} (h0 : 0 < n) (h1 : n ≤ 16) {b1 b2 b4 b5 : Bool} (e1 : ((N : Int) == 0) = b1) (e2 : decide (60 < (N : Int)) = b2) (e4 : decide ((a : Int) < 64 * (n : Int)) = b4) (e5 : (((a : Int) % 8) == 0) = b5)
    (hb : b1 = true ∨ (b1 = false ∧ b2 = true) ∨ (b1 = false ∧ b2 = false ∧ b4 = true ∧ b5 = true)) :
    Calls Try.prog 6 #[.int .i64 (n : Int), .slice A N cap, .int .i64 wh, .int .u64 (a : Int)] w fun e w' => e = .returned (.bool true) ∧ Below w.heap.size w w' := by
  have HM := Lib.hid (mem10_yes h0 h1 w)
  have t7 : IntKind.u64.wrap (64 * (n : Int)) = 64 * (n : Int) := by rw [IntKind.wrap_u64]; omega
  have q3 : IntKind.i64.wrap (64 * (n : Int)) = 64 * (n : Int) := by rw [IntKind.wrap_i64]; omega
  rcases hb with rfl | ⟨rfl, rfl⟩ | ⟨rfl, rfl, rfl, rfl⟩
  all_goals
    go_enter Try.func6, Try.ntmps6
    go_wp2_with fail
    refine HM.out.mono ?_
    rintro e w1 ⟨y, rfl, _, _, hb1⟩
    have HB1 := Lib.hid hb1
    clear hb1
    go_wp2_with fail
    refine (k10_any _).mono ?_
    rintro e w2 ⟨rfl, hb2⟩
    have HF := Lib.hid (Below.and HB1.out hb2)
    clear hb2
    go_wp2
    go_ret
    exact ⟨rfl, HF.out⟩
theorem runStops_any (z : Int) (A : Option Addr) (len cap : Nat) (l : List (Int × Int)) (wh a : Int) (w : World) (hz : (Lit.int .i64 z).wf = true) (hl : PutsIn w A len cap l) (hw : (Lit.int .i64 wh).wf = true) (ha : (Lit.int .u64 a).wf = true) :
    Calls Try.prog 6 #[.int .i64 z, .slice A len cap, .int .i64 wh, .int .u64 a] w fun e w' => e = .returned (.bool true) ∧ Below w.heap.size w w' := by
  obtain ⟨a, rfl, ha'⟩ := wf_nat ha
  by_cases h : z < 1 ∨ 16 < z
  · exact runStops_nomem w h
  · obtain ⟨n, rfl⟩ : ∃ n : Nat, z = (n : Int) := ⟨z.toNat, by omega⟩
    by_cases b1 : len = 0
    · exact runStops_out w (by omega) (by omega) rfl rfl rfl rfl (.inl (by rw [beq_iff_eq]; omega))
    · have f1 : ((len : Int) == 0) = false := by rw [beq_eq_false_iff_ne]; omega
      by_cases b2 : 60 < len
      · exact runStops_out w (by omega) (by omega) rfl rfl rfl rfl (.inr (.inl ⟨f1, by rw [decide_eq_true_eq]; omega⟩))
      · have f2 : decide (60 < (len : Int)) = false := by rw [decide_eq_false_iff_not]; omega
        by_cases b3 : (a : Int) < 64 * (n : Int) ∧ (a : Int) % 8 = 0
        · exact runStops_out w (by omega) (by omega) rfl rfl rfl rfl (.inr (.inr ⟨f1, f2, by rw [decide_eq_true_eq]; exact b3.1, by rw [beq_iff_eq]; exact b3.2⟩))
        · have hR := puts_reads hl
          have hlen : (natPuts l).length = len := by rw [natPuts_length, hl.1]
          refine runStops_yes hR (by omega) (by omega) (by omega) (natPuts_fit hl) (fun h => by rw [h] at hlen; simp at hlen; omega) ha' (by omega) rfl rfl ?_
          by_cases b4 : (a : Int) < 64 * (n : Int)
          · exact .inr ⟨by rw [decide_eq_true_eq]; exact b4, by rw [beq_eq_false_iff_ne]; exact fun h => b3 ⟨b4, h⟩⟩
          · exact .inl (by rw [decide_eq_false_iff_not]; exact b4)
end Go.Proofs.Ytgapncamnmngeaa
