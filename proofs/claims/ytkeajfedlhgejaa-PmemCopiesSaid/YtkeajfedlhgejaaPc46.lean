/- Texts of this claim, packed: R2La, R2LaW. -/
import Derived.Test.YtkeajfedlhgejaaPc44
/- PmemLasts: what has lasted of a line behind Flush and Fence; no conditions. -/
namespace Go.Proofs.Ytkeajfedlhgejaa
open Go Go.RowKit
set_option linter.unusedVariables false
/-- A line out of the middle. -/
theorem sl64 (a : Addr) (f n c : Nat) (h : f + 64 ≤ c) (W : World) : (Instr.slice 22 (.slice (some a) n c) (some (.int .i64 (f : Int))) (some (.int .i64 ((f : Int) + 64))) none).run Try.prog W = .ok (.slice (some (a.add f)) 64 (c - f)) W := by
  have under28 : Try.prog.underlying 22 = some (.slice (Try.prog.elem 22)) := by kernel_rfl
  have size_28 : (sizeOf (Try.prog.elem 22)).run Try.prog W = .ok 1 W := by kernel_rfl
  rw [run_slice_lh (w := W) 22 (some a) n c under28 .i64 .i64 f ((f : Int) + 64) (by omega) (by omega) (by omega), size_28]
  have e : c ≠ f := by omega
  have e3 : ((f : Int) + 64).toNat - f = 64 := by omega
  simp [Result.andThen, sliced, e, e3]
/-- The line's text. -/
theorem line_conv {W : World} {B N g k : Nat} {V : List Nat} {j : Nat} (h : W.ownsRow B 5 1 (.slice (some ⟨g, 0, none⟩) N k) N ((bytesL V).map bv)) (hl : (lineB V j).length = 64) :
    (convert 22 9 (.slice (some ⟨g, 64 * j, none⟩) 64 (k - 64 * j))).run Try.prog W = .ok (.string (strOf (lineB V j))) W := by
  refine conv_sl (a := ⟨g, 64 * j, none⟩) 64 _ hl (fun i u hu => ⟨_, rfl, ?_⟩)
  rw [Addr.add_lit]
  unfold lineB at hu
  rw [List.map_take, List.map_drop, List.getElem?_take] at hu
  split at hu
  · rw [List.getElem?_drop] at hu
    have := h.cells (g := g) rfl _ u hu
    rwa [Addr.add_lit, Nat.zero_add] at this
  · cases hu
set_option maxRecDepth 100000 in
set_option maxHeartbeats 4000000 in
theorem lasts2_no1 {w : World} {A A2 A3 : Option Addr} {n cap n2 cap2 n3 cap3 : Nat} {bs : List Nat} {l more : List Act2} (hb : BsAt w A n cap bs) (hl : Acts2In w A2 n2 cap2 l) (hl3 : Acts2In w A3 n3 cap3 more) (hn : n ≤ 9223372036854775807) (c : Int) (a : Nat) (ha : a < 18446744073709551616) (h1 : fewB l 40 = false) :
    Calls Try.prog 5 #[.slice A n cap, .slice A2 n2 cap2, .slice A3 n3 cap3, .int .i64 c, .int .u64 (a : Int)] w fun e w' => e = .returned (.bool true) ∧ Below w.heap.size w w' := by
  have F1 := Lib.hid (few_any2 hl 40 (by omega))
  have F2 := Lib.hid (few_any2 hl3 20 (by omega))
  have F3 := Lib.hid (fits_any2 (w := w) A n cap hn)
  rw [h1] at F1
  clear hb hl hl3
  go_enter Try.func5, Try.ntmps5
  go_wp2_with fail
  refine F1.out.mono ?_
  rintro e w1 ⟨rfl, rfl⟩
  go_wp2_with fail
  refine (known_any w).mono ?_
  rintro e w1 ⟨rfl, hb⟩
  go_wp2
  go_ret
  exact ⟨rfl, hb⟩
set_option maxRecDepth 100000 in
set_option maxHeartbeats 4000000 in
theorem lasts2_no2 {w : World} {A A2 A3 : Option Addr} {n cap n2 cap2 n3 cap3 : Nat} {bs : List Nat} {l more : List Act2} (hb : BsAt w A n cap bs) (hl : Acts2In w A2 n2 cap2 l) (hl3 : Acts2In w A3 n3 cap3 more) (hn : n ≤ 9223372036854775807) (c : Int) (a : Nat) (ha : a < 18446744073709551616) (h1 : fewB l 40 = true) (h2 : fewB more 20 = false) :
    Calls Try.prog 5 #[.slice A n cap, .slice A2 n2 cap2, .slice A3 n3 cap3, .int .i64 c, .int .u64 (a : Int)] w fun e w' => e = .returned (.bool true) ∧ Below w.heap.size w w' := by
  have F1 := Lib.hid (few_any2 hl 40 (by omega))
  have F2 := Lib.hid (few_any2 hl3 20 (by omega))
  have F3 := Lib.hid (fits_any2 (w := w) A n cap hn)
  rw [h1] at F1
  rw [h2] at F2
  clear hb hl hl3
  go_enter Try.func5, Try.ntmps5
  go_wp2_with fail
  refine F1.out.mono ?_
  rintro e w1 ⟨rfl, rfl⟩
  go_wp2_with fail
  refine F2.out.mono ?_
  rintro e w1 ⟨rfl, rfl⟩
  go_wp2_with fail
  refine (known_any w).mono ?_
  rintro e w1 ⟨rfl, hb⟩
  go_wp2
  go_ret
  exact ⟨rfl, hb⟩
set_option maxRecDepth 100000 in
set_option maxHeartbeats 4000000 in
theorem lasts2_no3 {w : World} {A A2 A3 : Option Addr} {n cap n2 cap2 n3 cap3 : Nat} {bs : List Nat} {l more : List Act2} (hb : BsAt w A n cap bs) (hl : Acts2In w A2 n2 cap2 l) (hl3 : Acts2In w A3 n3 cap3 more) (hn : n ≤ 9223372036854775807) (c : Int) (a : Nat) (ha : a < 18446744073709551616) (h1 : fewB l 40 = true) (h2 : fewB more 20 = true) (h3 : fitsB n = false) :
    Calls Try.prog 5 #[.slice A n cap, .slice A2 n2 cap2, .slice A3 n3 cap3, .int .i64 c, .int .u64 (a : Int)] w fun e w' => e = .returned (.bool true) ∧ Below w.heap.size w w' := by
  have F1 := Lib.hid (few_any2 hl 40 (by omega))
  have F2 := Lib.hid (few_any2 hl3 20 (by omega))
  have F3 := Lib.hid (fits_any2 (w := w) A n cap hn)
  rw [h1] at F1
  rw [h2] at F2
  rw [h3] at F3
  clear hb hl hl3
  go_enter Try.func5, Try.ntmps5
  go_wp2_with fail
  refine F1.out.mono ?_
  rintro e w1 ⟨rfl, rfl⟩
  go_wp2_with fail
  refine F2.out.mono ?_
  rintro e w1 ⟨rfl, rfl⟩
  go_wp2_with fail
  refine F3.out.mono ?_
  rintro e w1 ⟨rfl, rfl⟩
  go_wp2_with fail
  refine (known_any w).mono ?_
  rintro e w1 ⟨rfl, hb⟩
  go_wp2
  go_ret
  exact ⟨rfl, hb⟩
set_option maxRecDepth 100000 in
set_option maxHeartbeats 4000000 in
theorem lasts2_no4 {w : World} {A A2 A3 : Option Addr} {n cap n2 cap2 n3 cap3 : Nat} {bs : List Nat} {l more : List Act2} (hb : BsAt w A n cap bs) (hl : Acts2In w A2 n2 cap2 l) (hl3 : Acts2In w A3 n3 cap3 more) (hn : n ≤ 9223372036854775807) (c : Int) (a : Nat) (ha : a < 18446744073709551616) (h1 : fewB l 40 = true) (h2 : fewB more 20 = true) (h3 : fitsB n = true) (h4 : c < 0) :
    Calls Try.prog 5 #[.slice A n cap, .slice A2 n2 cap2, .slice A3 n3 cap3, .int .i64 c, .int .u64 (a : Int)] w fun e w' => e = .returned (.bool true) ∧ Below w.heap.size w w' := by
  have F1 := Lib.hid (few_any2 hl 40 (by omega))
  have F2 := Lib.hid (few_any2 hl3 20 (by omega))
  have F3 := Lib.hid (fits_any2 (w := w) A n cap hn)
  rw [h1] at F1
  rw [h2] at F2
  rw [h3] at F3
  have d4 : decide (c < 0) = true := by simp; omega
  clear hb hl hl3
  go_enter Try.func5, Try.ntmps5
  go_wp2_with fail
  refine F1.out.mono ?_
  rintro e w1 ⟨rfl, rfl⟩
  go_wp2_with fail
  refine F2.out.mono ?_
  rintro e w1 ⟨rfl, rfl⟩
  go_wp2_with fail
  refine F3.out.mono ?_
  rintro e w1 ⟨rfl, rfl⟩
  go_wp2_with fail
  refine (known_any w).mono ?_
  rintro e w1 ⟨rfl, hb⟩
  go_wp2
  go_ret
  exact ⟨rfl, hb⟩
set_option maxRecDepth 100000 in
set_option maxHeartbeats 4000000 in
theorem lasts2_no5 {w : World} {A A2 A3 : Option Addr} {n cap n2 cap2 n3 cap3 : Nat} {bs : List Nat} {l more : List Act2} (hb : BsAt w A n cap bs) (hl : Acts2In w A2 n2 cap2 l) (hl3 : Acts2In w A3 n3 cap3 more) (hn : n ≤ 9223372036854775807) (c : Int) (a : Nat) (ha : a < 18446744073709551616) (h1 : fewB l 40 = true) (h2 : fewB more 20 = true) (h3 : fitsB n = true) (h4 : 0 ≤ c) (h5 : 64 < c) :
    Calls Try.prog 5 #[.slice A n cap, .slice A2 n2 cap2, .slice A3 n3 cap3, .int .i64 c, .int .u64 (a : Int)] w fun e w' => e = .returned (.bool true) ∧ Below w.heap.size w w' := by
  have F1 := Lib.hid (few_any2 hl 40 (by omega))
  have F2 := Lib.hid (few_any2 hl3 20 (by omega))
  have F3 := Lib.hid (fits_any2 (w := w) A n cap hn)
  rw [h1] at F1
  rw [h2] at F2
  rw [h3] at F3
  have d4 : decide (c < 0) = false := by simp; omega
  have d5 : decide ((64 : Int) < c) = true := by simp; omega
  clear hb hl hl3
  go_enter Try.func5, Try.ntmps5
  go_wp2_with fail
  refine F1.out.mono ?_
  rintro e w1 ⟨rfl, rfl⟩
  go_wp2_with fail
  refine F2.out.mono ?_
  rintro e w1 ⟨rfl, rfl⟩
  go_wp2_with fail
  refine F3.out.mono ?_
  rintro e w1 ⟨rfl, rfl⟩
  go_wp2_with fail
  refine (known_any w).mono ?_
  rintro e w1 ⟨rfl, hb⟩
  go_wp2
  go_ret
  exact ⟨rfl, hb⟩
set_option maxRecDepth 100000 in
set_option maxHeartbeats 4000000 in
theorem lasts2_no6 {w : World} {A A2 A3 : Option Addr} {n cap n2 cap2 n3 cap3 : Nat} {bs : List Nat} {l more : List Act2} (hb : BsAt w A n cap bs) (hl : Acts2In w A2 n2 cap2 l) (hl3 : Acts2In w A3 n3 cap3 more) (hn : n ≤ 9223372036854775807) (c : Int) (a : Nat) (ha : a < 18446744073709551616) (h1 : fewB l 40 = true) (h2 : fewB more 20 = true) (h3 : fitsB n = true) (h4 : 0 ≤ c) (h5 : c ≤ 64) (h6 : a % 8 ≠ 0) :
    Calls Try.prog 5 #[.slice A n cap, .slice A2 n2 cap2, .slice A3 n3 cap3, .int .i64 c, .int .u64 (a : Int)] w fun e w' => e = .returned (.bool true) ∧ Below w.heap.size w w' := by
  have F1 := Lib.hid (few_any2 hl 40 (by omega))
  have F2 := Lib.hid (few_any2 hl3 20 (by omega))
  have F3 := Lib.hid (fits_any2 (w := w) A n cap hn)
  rw [h1] at F1
  rw [h2] at F2
  rw [h3] at F3
  have d4 : decide (c < 0) = false := by simp; omega
  have d5 : decide ((64 : Int) < c) = false := by simp; omega
  have d6 : ((a : Int) % 8 != 0) = true := by simp; omega
  clear hb hl hl3
  go_enter Try.func5, Try.ntmps5
  go_wp2_with fail
  refine F1.out.mono ?_
  rintro e w1 ⟨rfl, rfl⟩
  go_wp2_with fail
  refine F2.out.mono ?_
  rintro e w1 ⟨rfl, rfl⟩
  go_wp2_with fail
  refine F3.out.mono ?_
  rintro e w1 ⟨rfl, rfl⟩
  go_wp2_with fail
  refine (known_any w).mono ?_
  rintro e w1 ⟨rfl, hb⟩
  go_wp2
  go_ret
  exact ⟨rfl, hb⟩
set_option maxRecDepth 100000 in
set_option maxHeartbeats 4000000 in
theorem lasts2_no7 {w : World} {A A2 A3 : Option Addr} {n cap n2 cap2 n3 cap3 : Nat} {bs : List Nat} {l more : List Act2} (hb : BsAt w A n cap bs) (hl : Acts2In w A2 n2 cap2 l) (hl3 : Acts2In w A3 n3 cap3 more) (hn : n ≤ 9223372036854775807) (c : Int) (a : Nat) (ha : a < 18446744073709551616) (h1 : fewB l 40 = true) (h2 : fewB more 20 = true) (h3 : fitsB n = true) (h4 : 0 ≤ c) (h5 : c ≤ 64) (h6 : a % 8 = 0) (h7 : n ≤ a) :
    Calls Try.prog 5 #[.slice A n cap, .slice A2 n2 cap2, .slice A3 n3 cap3, .int .i64 c, .int .u64 (a : Int)] w fun e w' => e = .returned (.bool true) ∧ Below w.heap.size w w' := by
  have F1 := Lib.hid (few_any2 hl 40 (by omega))
  have F2 := Lib.hid (few_any2 hl3 20 (by omega))
  have F3 := Lib.hid (fits_any2 (w := w) A n cap hn)
  rw [h1] at F1
  rw [h2] at F2
  rw [h3] at F3
  have d4 : decide (c < 0) = false := by simp; omega
  have d5 : decide ((64 : Int) < c) = false := by simp; omega
  have d6 : ((a : Int) % 8 != 0) = false := by simp; omega
  have d7 : decide ((n : Int) ≤ (a : Int)) = true := by simp; omega
  have d7n : n ≤ a := by omega
  have hwn : IntKind.u64.wrap (n : Int) = (n : Int) := by rw [IntKind.wrap_u64]; omega
  clear hb hl hl3
  go_enter Try.func5, Try.ntmps5
  go_wp2_with fail
  refine F1.out.mono ?_
  rintro e w1 ⟨rfl, rfl⟩
  go_wp2_with fail
  refine F2.out.mono ?_
  rintro e w1 ⟨rfl, rfl⟩
  go_wp2_with fail
  refine F3.out.mono ?_
  rintro e w1 ⟨rfl, rfl⟩
  go_wp2_with fail
  refine (known_any w).mono ?_
  rintro e w1 ⟨rfl, hb⟩
  go_wp2
  go_ret
  exact ⟨rfl, hb⟩
set_option maxRecDepth 100000 in
set_option maxHeartbeats 4000000 in
theorem lasts2_yes {w : World} {A A2 A3 : Option Addr} {n cap n2 cap2 n3 cap3 : Nat} {bs : List Nat} {l more : List Act2} (hb : BsAt w A n cap bs) (hl : Acts2In w A2 n2 cap2 l) (hl3 : Acts2In w A3 n3 cap3 more) (hn : n ≤ 9223372036854775807) (c : Int) (a : Nat) (ha : a < 18446744073709551616) (h1 : fewB l 40 = true) (h2 : fewB more 20 = true) (h3 : fitsB n = true) (h4 : 0 ≤ c) (h5 : c ≤ 64) (h6 : a % 8 = 0) (h7 : a < n) :
    Calls Try.prog 5 #[.slice A n cap, .slice A2 n2 cap2, .slice A3 n3 cap3, .int .i64 c, .int .u64 (a : Int)] w fun e w' => e = .returned (.bool true) ∧ Below w.heap.size w w' := by
  have F1 := Lib.hid (few_any2 hl 40 (by omega))
  have F2 := Lib.hid (few_any2 hl3 20 (by omega))
  have F3 := Lib.hid (fits_any2 (w := w) A n cap hn)
  rw [h1] at F1
  rw [h2] at F2
  rw [h3] at F3
  have d4 : decide (c < 0) = false := by simp; omega
  have d5 : decide ((64 : Int) < c) = false := by simp; omega
  have d6 : ((a : Int) % 8 != 0) = false := by simp; omega
  have d7 : decide ((n : Int) ≤ (a : Int)) = false := by simp; omega
  have d7n : ¬ n ≤ a := by omega
  have hwn : IntKind.u64.wrap (n : Int) = (n : Int) := by rw [IntKind.wrap_u64]; omega
  obtain ⟨cn, rfl⟩ : ∃ cn : Nat, c = (cn : Int) := ⟨c.toNat, by omega⟩
  obtain ⟨hlen, h20⟩ := fewB_iff.1 h1
  obtain ⟨hlen3, h203⟩ := fewB_iff.1 h2
  obtain ⟨hl2, _, _, hat⟩ := hl
  obtain ⟨hl23, _, _, hat3⟩ := hl3
  have H20 := Lib.hid h20
  have HL2 := Lib.hid hl2
  have HAT := Lib.hid hat
  have H203 := Lib.hid h203
  have HL3 := Lib.hid hl23
  have HAT3 := Lib.hid hat3
  have hn2 : n2 ≤ 40 := by omega
  have hn3 : n3 ≤ 20 := by omega
  have hfit : mayB (n : Int) = true ∧ n ≤ 512 := by simpa [fitsB] using h3
  have hmm : 64 ≤ (n : Int) ∧ (n : Int) ≤ 1048576 ∧ (n : Int) % 64 = 0 := by simpa [mayB] using hfit.1
  have hn512 := hfit.2
  obtain ⟨nl, hnl⟩ : ∃ nl, n = 64 * nl := ⟨n / 64, by omega⟩
  have hnl0 : 0 < nl := by omega
  have hnl8 : nl ≤ 8 := by omega
  have HBG := Lib.hid (begin_yes hb hnl hnl0 hnl8)
  have HR0 := Lib.hid (rel0 (hb.len.trans hnl) hb.b hnl0)
  have hcn : cn ≤ 64 := by omega
  obtain ⟨j, hj⟩ : ∃ j, j = a / 64 := ⟨_, rfl⟩
  have hjn : j < nl := by omega
  obtain ⟨f, hf⟩ : ∃ f, f = 64 * j := ⟨_, rfl⟩
  have HFJ := Lib.hid hf
  have hfn : f + 64 ≤ n := by omega
  have H6 := Lib.hid (show a % 8 = 0 ∧ a < 64 * nl from ⟨h6, by omega⟩)
  have hq1 : (a : Int) / 64 = (j : Int) := by omega
  have hq2 : (j : Int) * 64 = (f : Int) := by omega
  have HJ := Lib.hid hj
  have HNL := Lib.hid hnl
  clear h1 h2 h3 h20 h203 hl2 hl23 hat hat3 hlen hlen3 hfit hmm hnl hb hf hj
  go_enter Try.func5, Try.ntmps5
  go_wp2_with fail
  refine F1.out.mono ?_
  rintro e w1 ⟨rfl, rfl⟩
  go_wp2_with fail
  refine F2.out.mono ?_
  rintro e w1 ⟨rfl, rfl⟩
  go_wp2_with fail
  refine F3.out.mono ?_
  rintro e w1 ⟨rfl, rfl⟩
  go_wp2_with fail
  refine HBG.out.mono ?_
  rintro e w1 ⟨gg, rfl, hgs, hb1⟩
  have HP : Hid (PlI w gg nl 0 w1) := Lib.hid ⟨_, _, ⟨hgs, HR0.out, sm0 nl bs⟩, rfl, hb1⟩
  clear hgs hb1 HBG HR0
  go_wp2
  go_loopg [12] n2 (fun k v wr => ∃ j : Nat, v = .int .i64 (j : Int) ∧ j ≤ n2 ∧ n2 - j ≤ k ∧ PlI w gg nl j wr)
  case atStart => exact ⟨0, rfl, by omega, by omega, HP.out⟩
  case round =>
    obtain ⟨i, rfl, hin, hk, hP⟩ := hrel
    rename World => wr
    have HPJ := Lib.hid hP
    clear hP HP
    by_cases hlt : i < n2
    · obtain ⟨ga, ks, rfl, hA⟩ := HAT.out (by rw [HL2.out]; omega)
      have hjl : i < l.length := by rw [HL2.out]; exact hlt
      obtain ⟨s, r, hGA, _, hBw⟩ := HPJ.out
      obtain ⟨c0, c1, c2, c3, c4, c5⟩ := (hA.below hBw).cells hjl
      have HST := Lib.hid (HPJ.out.step hnl8 (by omega) hA hjl (H20.out i hjl))
      unfold actA at HST
      clear hA hjl hGA hBw
      go_wp2_with fail
      refine HST.out.mono ?_
      rintro e w3 ⟨rfl, hP3⟩
      have HP3 := Lib.hid hP3
      clear hP3
      go_wp2
      go_roundg (n2 - (i + 1))
      case measure => omega
      case rel => exact ⟨i + 1, by go_num, by omega, by omega, HP3.out⟩
    · have hje : i = n2 := by omega
      have HJE := Lib.hid hje
      have hdj : decide ((i : Int) < (n2 : Int)) = false := by simp; omega
      have HFL := Lib.hid (HPJ.out.flush hnl8 (by omega) hcn H6.out.1 H6.out.2)
      go_wp2_with fail
      refine HFL.out.mono ?_
      rintro e w4 ⟨rfl, V, yg, hVl, hLs, hlook⟩
      have HVL := Lib.hid hVl
      rw [← HJ.out] at hLs
      have HLS := Lib.hid (hLs.mono (show i + 1 ≤ n2 + 1 by omega))
      obtain ⟨g0, hV⟩ := hlook w4 (Below.refl _ _)
      have HV := Lib.hid hV
      clear hVl hLs hlook hV HFL
      go_wp2_with fail
      refine HV.out.mono ?_
      rintro e w5 ⟨⟨v, rfl, ho⟩, hb5⟩
      have hbl : (bytesL V).length = n := by rw [bytesL_len, HVL.out, HNL.out]; omega
      rw [hbl] at ho
      obtain ⟨gv, kv, _, rfl, hck, _, _, _⟩ := own4_shape ho (by omega)
      have hsl := sl64 ⟨gv, 0, none⟩ f n kv (by omega)
      have hcv := line_conv (j := j) ho (lineB_len HVL.out hjn)
      rw [← HFJ.out] at hcv
      have HLS5 := Lib.hid (HLS.out.below hb5)
      obtain ⟨T, hT⟩ : ∃ T, T = strOf (lineB V j) := ⟨_, rfl⟩
      rw [← hT] at hcv
      have HT := Lib.hid hT
      have hadd : (⟨gv, 0, none⟩ : Addr).add f = ⟨gv, f, none⟩ := by rw [Addr.add_lit, Nat.zero_add]
      rw [hadd] at hsl
      clear ho hb5 HLS HV hT hadd hbl
      go_wp2
      go_loopg [15] n3 (fun k v wr => ∃ i : Nat, v = .int .i64 (i : Int) ∧ i ≤ n3 ∧ n3 - i ≤ k ∧ LsI w gg nl (n2 + 1 + i) j cn V wr)
      case atStart => exact ⟨0, rfl, by omega, by omega, HLS5.out.mono (by have := HJE.out; omega)⟩
      case round =>
        obtain ⟨i3, rfl, hin3, hk3, hP⟩ := hrel
        rename World => wr3
        have HPJ3 := Lib.hid hP
        clear hP HLS5 hsl hcv
        by_cases hlt3 : i3 < n3
        · obtain ⟨ga3, ks3, rfl, hA3⟩ := HAT3.out (by rw [HL3.out]; omega)
          have hjl3 : i3 < more.length := by rw [HL3.out]; exact hlt3
          obtain ⟨s, r, hGA3, _, hBw3, _⟩ := HPJ3.out
          obtain ⟨p0, p1, p2, p3, p4, p5⟩ := (hA3.below hBw3).cells hjl3
          have hax := (hA3.a i3 hjl3).1
          have hwx : IntKind.u64.wrap (((act2 more i3).a : Int) / 64) = ((act2 more i3).a : Int) / 64 := by rw [IntKind.wrap_u64]; omega
          have HA3 := Lib.hid hA3
          clear hGA3 hBw3 hA3
          by_cases k6 : (act2 more i3).k = 6
          · have e6 : ((act2 more i3).k == 6) = true := by simp [k6]
            clear k6
            go_wp2
            go_roundg (n3 - (i3 + 1))
            case measure => omega
            case rel => exact ⟨i3 + 1, by go_num, by omega, by omega, HPJ3.out.mono (by omega)⟩
          · have e6 : ((act2 more i3).k == 6) = false := by simp [k6]
            by_cases k1 : (act2 more i3).k = 1 ∧ (act2 more i3).a / 64 = j
            · have e1 : ((act2 more i3).k == 1) = true := by simp [k1.1]
              have e2 : (((act2 more i3).a : Int) / 64 == (j : Int)) = true := by have := k1.2; simp; omega
              clear k1 k6
              go_wp2
              go_roundg (n3 - (i3 + 1))
              case measure => omega
              case rel => exact ⟨i3 + 1, by go_num, by omega, by omega, HPJ3.out.mono (by omega)⟩
            · have HST3 := Lib.hid (HPJ3.out.step hnl8 (by omega) HA3.out hjl3 (H203.out i3 hjl3) k6 k1)
              unfold actA at HST3
              by_cases k1a : (act2 more i3).k = 1
              · have e1 : ((act2 more i3).k == 1) = true := by simp [k1a]
                have e2 : (((act2 more i3).a : Int) / 64 == (j : Int)) = false := by
                  have : ¬ (act2 more i3).a / 64 = j := fun q => k1 ⟨k1a, q⟩
                  simp; omega
                clear k1 k6 k1a
                go_wp2_with fail
                refine HST3.out.mono ?_
                rintro e w6 ⟨rfl, hP3⟩
                have HP3 := Lib.hid hP3
                clear hP3
                go_wp2
                go_roundg (n3 - (i3 + 1))
                case measure => omega
                case rel => exact ⟨i3 + 1, by go_num, by omega, by omega, HP3.out.mono (by omega)⟩
              · have e1 : ((act2 more i3).k == 1) = false := by simp [k1a]
                clear k1 k6 k1a
                go_wp2_with fail
                refine HST3.out.mono ?_
                rintro e w6 ⟨rfl, hP3⟩
                have HP3 := Lib.hid hP3
                clear hP3
                go_wp2
                go_roundg (n3 - (i3 + 1))
                case measure => omega
                case rel => exact ⟨i3 + 1, by go_num, by omega, by omega, HP3.out.mono (by omega)⟩
        · have hje3 : i3 = n3 := by omega
          have hdj3 : decide ((i3 : Int) < (n3 : Int)) = false := by simp; omega
          have HFE := Lib.hid (HPJ3.out.fence hnl8 (by omega) hcn hjn)
          go_wp2_with fail
          refine HFE.out.mono ?_
          rintro e w7 ⟨rfl, hb7, U, yg7, hUl, hUV, hlook7⟩
          have HUL := Lib.hid hUl
          have HUV := Lib.hid hUV
          obtain ⟨g0, hI, _⟩ := hlook7 w7 (Below.refl _ _)
          have HI := Lib.hid hI
          have HLK := Lib.hid hlook7
          have HB7 := Lib.hid hb7
          clear hUl hUV hlook7 hI hb7 HFE
          go_wp2_with fail
          refine HI.out.mono ?_
          rintro e w8 ⟨⟨v8, rfl, ho8⟩, hb8⟩
          have hbl8 : (bytesL U).length = n := by rw [bytesL_len, HUL.out, HNL.out]; omega
          rw [hbl8] at ho8
          obtain ⟨gv8, kv8, _, rfl, hck8, _, _, _⟩ := own4_shape ho8 (by omega)
          have hsl8 := sl64 ⟨gv8, 0, none⟩ f n kv8 (by omega)
          have hcv8 := line_conv (j := j) ho8 (lineB_len HUL.out hjn)
          rw [← HFJ.out, HUV.out, ← HT.out] at hcv8
          have hadd8 : (⟨gv8, 0, none⟩ : Addr).add f = ⟨gv8, f, none⟩ := by rw [Addr.add_lit, Nat.zero_add]
          rw [hadd8] at hsl8
          obtain ⟨g8, _, hpd⟩ := HLK.out w8 hb8
          have HPD := Lib.hid (hpd a HJ.out.symm)
          have HB8 := Lib.hid (belowT HB7.out (belowB hb8 HB7.out.size))
          have hTT : (T.toList == T.toList) = true := by simp
          clear ho8 hb8 hadd8 hbl8 hpd
          go_wp2_with fail
          refine HPD.out.mono ?_
          rintro e w9 ⟨rfl, hb9⟩
          have HB9 := Lib.hid (belowT HB8.out (belowB hb9 HB8.out.size))
          clear hb9
          go_wp2_with fail
          refine (known_any w9).mono ?_
          rintro e w10 ⟨rfl, hb10⟩
          have HE := Lib.hid (belowT HB9.out (belowB hb10 HB9.out.size))
          clear hb10
          go_wp2
          go_ret
          exact ⟨rfl, HE.out⟩
end Go.Proofs.Ytkeajfedlhgejaa
/- PmemLasts as its row hands it its arguments; no conditions. -/
namespace Go.Proofs.Ytkeajfedlhgejaa
open Go Go.RowKit
set_option linter.unusedVariables false
theorem lasts_walk (a0 : Option Addr) (len0 cap0 : Nat) (z0 : List Int) (a1 : Option Addr) (len1 cap1 : Nat) (z1 : List Act2) (a2 : Option Addr) (len2 cap2 : Nat) (z2 : List Act2) (c a : Int) (W : World) (w0 : InRow .u8 W a0 len0 cap0 z0) (w1 : Acts2In W a1 len1 cap1 z1) (w2 : Acts2In W a2 len2 cap2 z2) (w3 : (Lit.int .i64 c).wf = true) (w4 : (Lit.int .u64 a).wf = true) :
    Calls Try.prog 5 #[.slice a0 len0 cap0, .slice a1 len1 cap1, .slice a2 len2 cap2, .int .i64 c, .int .u64 a] W fun e w' => e = .returned (.bool true) ∧ Below W.heap.size W w' := by
  obtain ⟨⟨l, hb⟩, hn⟩ := bsAt_of w0
  obtain ⟨x, rfl, hx⟩ := wf_nat w4
  cases h1 : fewB z1 40
  · exact lasts2_no1 hb w1 w2 hn c x hx h1
  cases h2 : fewB z2 20
  · exact lasts2_no2 hb w1 w2 hn c x hx h1 h2
  cases h3 : fitsB len0
  · exact lasts2_no3 hb w1 w2 hn c x hx h1 h2 h3
  by_cases h4 : 0 ≤ c
  · by_cases h5 : c ≤ 64
    · by_cases h6 : x % 8 = 0
      · by_cases h7 : x < len0
        · exact lasts2_yes hb w1 w2 hn c x hx h1 h2 h3 h4 h5 h6 h7
        · exact lasts2_no7 hb w1 w2 hn c x hx h1 h2 h3 h4 h5 h6 (by omega)
      · exact lasts2_no6 hb w1 w2 hn c x hx h1 h2 h3 h4 h5 h6
    · exact lasts2_no5 hb w1 w2 hn c x hx h1 h2 h3 h4 (by omega)
  · exact lasts2_no4 hb w1 w2 hn c x hx h1 h2 h3 (by omega)
end Go.Proofs.Ytkeajfedlhgejaa
