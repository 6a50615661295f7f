/- RunWhole, of arguments as they come. -/
import Derived.Test.YtgapncamnmngeaaRnXZ
namespace Go.Proofs.Ytgapncamnmngeaa
open Go.RowKit Go.Shelf
set_option linter.unusedVariables false
theorem puts_reads {W : World} {A : Option Addr} {len cap : Nat} {l : List (Int × Int)} (h : PutsIn W A len cap l) : Reads W (.slice A len cap) (natPuts l) := by
  obtain ⟨h1, h2, h3, h4, h5⟩ := h
  refine ⟨A, cap, by rw [natPuts_length, h1], by rw [natPuts_length, h1]; exact h2, h3, fun k hk => ?_⟩
  rw [natPuts_length, h1] at hk
  rcases h4 with ⟨_, h6, _⟩ | ⟨a, ha, hc⟩
  · omega
  · obtain ⟨e0, e1⟩ := hc k hk
    have hg : l.getD k (0, 0) = l[k]'(by omega) := by rw [List.getD_eq_getElem?_getD, List.getElem?_eq_getElem (by omega)]; rfl
    have hq := h5 _ (List.getElem_mem (show k < l.length by omega))
    rw [hg] at e0 e1
    refine ⟨a, ha, ?_, ?_⟩
    · rw [e0]
      simp only [natPuts, List.getElem_map]
      congr 2
      omega
    · rw [e1]
      simp only [natPuts, List.getElem_map]
      congr 2
      omega
set_option maxRecDepth 100000 in
set_option maxHeartbeats 1600000 in
theorem runWhole_nomem (w : World) {z c : Int} {A : Option Addr} {N cap : Nat} (h : z < 1 ∨ 16 < z) :
    Calls Try.prog 3 #[.int .i64 z, .slice A N cap, .int .i64 c] w fun e w' => e = .returned (.bool true) ∧ Below w.heap.size w w' := by
  have HM := Lib.hid (mem10_no h w)
  clear h
  go_enter Try.func3, Try.ntmps3
  go_wp2_with fail
  refine HM.out.mono ?_
  rintro e w1 ⟨rfl, rfl⟩
  go_wp2_with fail
  refine (k10_any _).mono ?_
  rintro e w2 ⟨rfl, hb2⟩
  have HF := Lib.hid hb2
  clear hb2
  go_wp2
  go_ret
  exact ⟨rfl, HF.out⟩
set_option maxRecDepth 100000 in
set_option maxHeartbeats 1600000 in
theorem runWhole_out (w : World) {n : Nat} {c : Int} {A : Option Addr} {N cap : Nat} (h0 : 0 < n) (h1 : n ≤ 16) {b1 b2 b3 : Bool} (e1 : decide (60 < (N : Int)) = b1) (e2 : decide (c < 0) = b2) (e3 : decide (64 < c) = b3) (hb : b1 = true ∨ (b1 = false ∧ b2 = true) ∨ (b1 = false ∧ b2 = false ∧ b3 = true)) :
    Calls Try.prog 3 #[.int .i64 (n : Int), .slice A N cap, .int .i64 c] w fun e w' => e = .returned (.bool true) ∧ Below w.heap.size w w' := by
  have HM := Lib.hid (mem10_yes h0 h1 w)
  rcases hb with rfl | ⟨rfl, rfl⟩ | ⟨rfl, rfl, rfl⟩
  all_goals
    go_enter Try.func3, Try.ntmps3
    go_wp2_with fail
    refine HM.out.mono ?_
    rintro e w1 ⟨y, rfl, _, _, hb1⟩
    have HB1 := Lib.hid hb1
    clear hb1
    go_wp2_with fail
    refine (k10_any _).mono ?_
    rintro e w2 ⟨rfl, hb2⟩
    have HF := Lib.hid (Below.and HB1.out hb2)
    clear hb2
    go_wp2
    go_ret
    exact ⟨rfl, HF.out⟩
theorem runWhole_any (z : Int) (A : Option Addr) (len cap : Nat) (l : List (Int × Int)) (c : Int) (w : World) (hz : (Lit.int .i64 z).wf = true) (hl : PutsIn w A len cap l) (hc : (Lit.int .i64 c).wf = true) :
    Calls Try.prog 3 #[.int .i64 z, .slice A len cap, .int .i64 c] w fun e w' => e = .returned (.bool true) ∧ Below w.heap.size w w' := by
  by_cases h : z < 1 ∨ 16 < z
  · exact runWhole_nomem w h
  · obtain ⟨n, rfl⟩ : ∃ n : Nat, z = (n : Int) := ⟨z.toNat, by omega⟩
    by_cases b1 : 60 < len
    · exact runWhole_out w (by omega) (by omega) rfl rfl rfl (.inl (by rw [decide_eq_true_eq]; omega))
    · have f1 : decide (60 < (len : Int)) = false := by rw [decide_eq_false_iff_not]; omega
      by_cases b2 : c < 0
      · exact runWhole_out w (by omega) (by omega) rfl rfl rfl (.inr (.inl ⟨f1, by rw [decide_eq_true_eq]; exact b2⟩))
      · have f2 : decide (c < 0) = false := by rw [decide_eq_false_iff_not]; exact b2
        by_cases b3 : 64 < c
        · exact runWhole_out w (by omega) (by omega) rfl rfl rfl (.inr (.inr ⟨f1, f2, by rw [decide_eq_true_eq]; exact b3⟩))
        · have hR := puts_reads hl
          have hlen : (natPuts l).length ≤ 60 := by rw [natPuts_length, hl.1]; omega
          by_cases hn : natPuts l = []
          · exact runWhole_zero hR (by omega) (by omega) (by omega) (by omega) hlen (natPuts_fit hl) hn
          · exact runWhole_pos hR (by omega) (by omega) (by omega) (by omega) hlen (natPuts_fit hl) hn
end Go.Proofs.Ytgapncamnmngeaa
