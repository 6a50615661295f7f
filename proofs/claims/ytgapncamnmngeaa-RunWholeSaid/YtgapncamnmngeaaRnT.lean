/- RunEmpty: a run of no stores is through at once and does nothing, and no run is of a client that there is not; for any input. -/
import Derived.Test.YtgapncamnmngeaaRnY
import Derived.Test.YtgapncamnmngeaaRnN
import Derived.Test.YtgapncamnmngeaaRnW
import Derived.Test.YtgapncamnmngeaaArgP
namespace Go.Proofs.Ytgapncamnmngeaa
open Go.RowKit Go.Shelf
set_option linter.unusedVariables false

theorem fieldS1 (w : World) (a b c d : Int) : (Instr.field 38 (.agg #[.int .u64 a, .int .u64 b, .int .u64 c, .int .u64 d]) 1).run Try.prog w = .ok (.int .u64 b) w := by kernel_rfl
theorem fieldS2 (w : World) (a b c d : Int) : (Instr.field 38 (.agg #[.int .u64 a, .int .u64 b, .int .u64 c, .int .u64 d]) 2).run Try.prog w = .ok (.int .u64 c) w := by kernel_rfl
theorem fieldS3 (w : World) (a b c d : Int) : (Instr.field 38 (.agg #[.int .u64 a, .int .u64 b, .int .u64 c, .int .u64 d]) 3).run Try.prog w = .ok (.int .u64 d) w := by kernel_rfl
theorem new_dec (c : Int) : RS.new c [] = ⟨c, [], 0, .en, false, 0⟩ := rfl
theorem new_one (c : Int) (a v : Nat) : RS.new c [(a, v)] = ⟨c, [(a, v)], 0, .st, false, 0⟩ := rfl
set_option maxRecDepth 100000 in
set_option maxHeartbeats 3200000 in
theorem runEmpty_yes (w : World) {n a v : Nat} {c : Int} (h0 : 0 < n) (h1 : n ≤ 16) (c0 : 0 ≤ c) (c1 : c ≤ 64) (ha : a < 18446744073709551616) (hv : v < 18446744073709551616) :
    Calls Try.prog 7 #[.int .i64 (n : Int), .int .i64 c, .agg #[.int .u64 (a : Int), .int .u64 (v : Int)]] w fun e w' => e = .returned (.bool true) ∧ Below w.heap.size w w' := by
  obtain ⟨Wa, hWa⟩ : ∃ Wa, Wa = w.alloc (.cells #[.int .u64 (a : Int), .int .u64 (v : Int)] 32) := ⟨_, rfl⟩
  have HM := Lib.hid (mem10_yes h0 h1 Wa)
  have hba : Below w.heap.size w Wa := by rw [hWa]; exact alloc_below _ _
  have hxr : Row Wa w.heap.size 32 #[.int .u64 (a : Int), .int .u64 (v : Int)] := by rw [hWa]; exact Row.new _ _ _
  have q0 : decide (0 ≤ c) = true := by simpa using c0
  have q1 : decide (c ≤ 64) = true := by simpa using c1
  have HWa := Lib.hid hWa
  have HBA := Lib.hid hba
  have HXR := Lib.hid hxr
  clear hba hxr
  go_enter Try.func7, Try.ntmps7
  go_wp2_with fail
  rw [← hWa]
  clear hWa
  refine HM.out.mono ?_
  rintro e w1 ⟨y, rfl, hm1, hfp, hb1⟩
  have HR := Lib.hid (rnew_any (some ⟨y.g, 0, none⟩) c (Ahead.nil w1) (fun _ => rfl) (by decide))
  have HM1 := Lib.hid hm1
  have HFP := Lib.hid hfp
  have HB1 := Lib.hid hb1
  clear hm1 hfp hb1 HM
  go_wp2_with fail
  refine HR.out.mono ?_
  rintro e w2 ⟨⟨rg, V, rfl, hr2, hrg, hV⟩, hb2⟩
  have hon := RunOn.new HM1.out hr2 hrg hV
  have hm2 := HM1.out.below hb2
  have hf2 : Fresh Wa w2 y rg := ⟨HB1.out.trans (hb2.mono HB1.out.size), HFP.out, by have := HB1.out.size; omega⟩
  have HS := Lib.hid (rstep_any hm2 (zero_Ok n) (zero_Small n) (by omega) hon (new_Good c0 c1 h0 (fun p hp => by cases hp)))
  rw [new_dec, show (RS.next ⟨c, [], 0, .en, false, 0⟩).done = true from rfl] at HS
  have HF2 := Lib.hid hf2
  clear HR hr2 hrg hV hb2 hon hm2 hf2 HM1 HFP HB1
  go_wp2_with fail
  refine HS.out.mono ?_
  rintro e w3 ⟨rfl, y3, V3, hm3, _, T3⟩
  have hf3 := HF2.out.step T3
  have HM3 := Lib.hid (show MemAt w3 y3 (St.zero n) from hm3)
  have HF3 := Lib.hid hf3
  have hg3 := T3.g
  have hxr3 := HXR.out.below hf3.low HXR.out.lt
  have x0 := hxr3.cell 0
  have x1 := hxr3.cell 1
  simp only [List.getElem?_toArray, List.getElem?_cons_succ, List.getElem?_cons_zero] at x0 x1
  clear HS HF2 hm3 T3 hf3 hxr3
  have q3 : IntKind.i64.wrap (64 * (n : Int)) = 64 * (n : Int) := by rw [IntKind.wrap_i64]; omega
  have HW := Lib.hid (within_any (ahead1 w3 a v).reads (size := 64 * n) (by omega) (by omega) (by simp) (fun p hp => by cases hp with | head => exact ⟨ha, hv⟩ | tail _ h => cases h))
  rw [show ((64 * n : Nat) : Int) = 64 * (n : Int) from by omega] at HW
  go_wp2_with fail
  refine HW.out.mono ?_
  rintro e w4 ⟨⟨v4, rfl, ho4, _⟩, hb4⟩
  obtain ⟨b, hbq⟩ : ∃ b, b = a % (64 * n) / 8 * 8 := ⟨_, rfl⟩
  have hb8 : b % 8 = 0 := by rw [hbq]; omega
  have hb64 : b < 64 * n := by have := Nat.mod_lt a (show 0 < 64 * n by omega); rw [hbq]; omega
  rw [show win (64 * n) [(a, v)] = [(b, v)] from by rw [hbq]; rfl] at ho4
  obtain ⟨hah, _, _⟩ := own_ahead (l := [(b, v)]) ho4
  obtain ⟨A4, cap4, rfl, _, _⟩ := hah.len
  have hb34 := Below.and (alloc_below w3 (.cells #[.int .u64 (a : Int), .int .u64 (v : Int)] 32)) hb4
  have HM4 := Lib.hid (HM3.out.below hb34)
  have HF4 := Lib.hid (HF3.out.below hb34)
  have HR := Lib.hid (rnew_any (some ⟨y.g, 0, none⟩) c hah (fun h => by cases h) (by simp))
  clear ho4 hah hb34 hb4 hbq HW HM3 HF3 x0 x1
  go_wp2_with fail
  refine HR.out.mono ?_
  rintro e w5 ⟨⟨rg5, V5, rfl, hr5, hrg5, hV5⟩, hb5⟩
  rw [← hg3] at hr5
  have hon := RunOn.new HM4.out hr5 hrg5 hV5
  have hm5 := HM4.out.below hb5
  have hf5 : Fresh Wa w5 y3 rg5 := ⟨HF4.out.low.trans (hb5.mono HF4.out.low.size), HF4.out.fp, by have := HF4.out.low.size; omega⟩
  have HS := Lib.hid (rstep_any hm5 (zero_Ok n) (zero_Small n) (by omega) hon (new_Good c0 c1 h0 (fun p hp => by cases hp with | head => exact ⟨hb8, hb64, hv⟩ | tail _ h => cases h)))
  rw [new_one, show (RS.next ⟨c, [(b, v)], 0, .st, false, 0⟩).done = false from rfl] at HS
  have HF5 := Lib.hid hf5
  clear HR hr5 hrg5 hV5 hb5 hon hm5 hf5 HM4 HF4 hb8 hb64
  go_wp2_with fail
  refine HS.out.mono ?_
  rintro e w6 ⟨rfl, y6, V6, hm6, _, T6⟩
  have hf6 := HF5.out.step T6
  have HM6 := Lib.hid (show MemAt w6 y6 ((St.zero n).store b v) from hm6)
  have HF6 := Lib.hid (show Below w.heap.size w w6 from Below.and HBA.out hf6.low)
  have hg6 : y6.g = y.g := T6.g.trans hg3
  have HST := Lib.hid fun W (hb : Below w6.heap.size w6 W) => stats_yes (HM6.out.below hb)
  rw [hg6] at HST
  rw [show ((St.zero n).store b v).ld = 0 from rfl, show ((St.zero n).store b v).st = 1 from rfl, show ((St.zero n).store b v).fl = 0 from rfl, show ((St.zero n).store b v).fe = 0 from rfl] at HST
  unfold wv at HST
  clear HS HF5 hm6 T6 hf6 HM6
  have r6 := Below.refl w6.heap.size w6
  have fs1 := fun (w : World) => fieldS1 w 0 1 0 0
  have fs2 := fun (w : World) => fieldS2 w 0 1 0 0
  have fs3 := fun (w : World) => fieldS3 w 0 1 0 0
  go_wp2_with fail
  refine (HST.out _ r6).mono ?_
  rintro e w7 ⟨rfl, hb7⟩
  go_wp2_with fail
  refine (HST.out _ hb7).mono ?_
  rintro e w8 ⟨rfl, hb8'⟩
  have r8 := Below.and hb7 hb8'
  clear hb8' hb7
  go_wp2_with fail
  refine (HST.out _ r8).mono ?_
  rintro e w9 ⟨rfl, hb9⟩
  have HF9 := Lib.hid (Below.and (Below.and HF6.out r8) hb9)
  clear r8 hb9 r6
  go_wp2_with fail
  refine (k10_any _).mono ?_
  rintro e w10 ⟨rfl, hb10⟩
  have HF := Lib.hid (Below.and HF9.out hb10)
  clear hb10
  go_wp2
  go_ret
  exact ⟨rfl, HF.out⟩
theorem Fresh.low_set {w w1 : World} {y : Lay} {rg : Nat} (h : Below w.heap.size w w1) (hr : w.heap.size ≤ rg) (d : Bool) (k : Int) : Below w.heap.size w (rstepW w1 rg d k) :=
  (h.setCell (p := ⟨rg, 6, none⟩) hr _).setCell (p := ⟨rg, 5, none⟩) hr _
theorem MemAt.rstepW {w : World} {y : Lay} {s : St} {rg : Nat} (h : MemAt w y s) (hn : ¬ y.fp rg) (d : Bool) (k : Int) : MemAt (rstepW w rg d k) y s := (h.rset hn 6 _).rset hn 5 _
/-- A step of a run of no client. -/
theorem rstep_none {w : World} {p : Option Addr} {c line code z : Int} {V : Value} {f rg : Nat} (hr : Row w rg 66 (rcells p c V line (nextV f rg) false code)) (hz : z ≠ 0) (hc : c < 0 ∨ 64 < c)
    (HS : Calls Try.prog 33 #[.pointer p] w fun e w' => e = .returned (.int .i64 z) ∧ w = w') : Calls Try.prog 16 #[.pointer (some ⟨rg, 0, none⟩)] w (RStepPost (fun w1 => w = w1) rg true 12) := by
  by_cases h0 : c < 0
  · exact rstep_low hr hz h0 HS
  · exact rstep_high hr hz (by omega) (by omega) HS
/-- no client -/
theorem eqStats (w : World) : (binOp .eql 38 (.agg #[.int .u64 0, .int .u64 0, .int .u64 0, .int .u64 0]) (.agg #[.int .u64 0, .int .u64 0, .int .u64 0, .int .u64 0])).run Try.prog w = .ok (.bool true) w := by kernel_rfl
theorem guardStats (w : World) (x y : Operand) : (eqGuard .eql 38 x y (.agg #[.int .u64 0, .int .u64 0, .int .u64 0, .int .u64 0]) (.agg #[.int .u64 0, .int .u64 0, .int .u64 0, .int .u64 0])).run Try.prog w = .ok () w := by kernel_rfl
set_option maxRecDepth 100000 in
set_option maxHeartbeats 3200000 in
theorem runEmpty_low (w : World) {n a v : Nat} {c : Int} (h0 : 0 < n) (h1 : n ≤ 16) (c0 : c < 0) (ha : a < 18446744073709551616) (hv : v < 18446744073709551616) :
    Calls Try.prog 7 #[.int .i64 (n : Int), .int .i64 c, .agg #[.int .u64 (a : Int), .int .u64 (v : Int)]] w fun e w' => e = .returned (.bool true) ∧ Below w.heap.size w w' := by
  obtain ⟨Wa, hWa⟩ : ∃ Wa, Wa = w.alloc (.cells #[.int .u64 (a : Int), .int .u64 (v : Int)] 32) := ⟨_, rfl⟩
  have HM := Lib.hid (mem10_yes h0 h1 Wa)
  have hba : Below w.heap.size w Wa := by rw [hWa]; exact alloc_below _ _
  have hxr : Row Wa w.heap.size 32 #[.int .u64 (a : Int), .int .u64 (v : Int)] := by rw [hWa]; exact Row.new _ _ _
  have hc : c < 0 ∨ 64 < c := .inl c0
  have q0 : decide (0 ≤ c) = false := by rw [decide_eq_false_iff_not]; omega
  skip
  have HWa := Lib.hid hWa
  have HBA := Lib.hid hba
  have HXR := Lib.hid hxr
  clear hba hxr
  go_enter Try.func7, Try.ntmps7
  go_wp2_with fail
  rw [← hWa]
  clear hWa
  refine HM.out.mono ?_
  rintro e w1 ⟨y, rfl, hm1, hfp, hb1⟩
  have HR := Lib.hid (rnew_any (some ⟨y.g, 0, none⟩) c (Ahead.nil w1) (fun _ => rfl) (by decide))
  have HM1 := Lib.hid hm1
  have HFP := Lib.hid hfp
  have HB1 := Lib.hid hb1
  clear hm1 hfp hb1 HM
  go_wp2_with fail
  refine HR.out.mono ?_
  rintro e w2 ⟨⟨rg, V, rfl, hr2, hrg, hV⟩, hb2⟩
  have hm2 := HM1.out.below hb2
  have hn2 : ¬ y.fp rg := fun hf => by have := HM1.out.lt _ hf; omega
  have HS := Lib.hid (rstep_none hr2.cells (show ((64 * n : Nat) : Int) ≠ 0 by omega) hc (size_yes hm2))
  have hl2 : Below Wa.heap.size Wa w2 := HB1.out.trans (hb2.mono HB1.out.size)
  have HL2 := Lib.hid hl2
  have HM2 := Lib.hid hm2
  have hrg2 : Wa.heap.size ≤ rg := by have := HB1.out.size; omega
  clear HR hr2 hrg hV hb2 hm2 HM1 HB1 hl2
  go_wp2_with fail
  refine HS.out.mono ?_
  rintro e w3 ⟨rfl, w2', rfl, hb3⟩
  have hl3 : Below Wa.heap.size Wa w3 := Below.and (Fresh.low_set (y := y) HL2.out hrg2 true 12) hb3
  have HM3 := Lib.hid ((HM2.out.rstepW hn2 true 12).below hb3)
  have HL3 := Lib.hid hl3
  have hxr3 := HXR.out.below hl3 HXR.out.lt
  have x0 := hxr3.cell 0
  have x1 := hxr3.cell 1
  simp only [List.getElem?_toArray, List.getElem?_cons_succ, List.getElem?_cons_zero] at x0 x1
  clear HS HM2 HL2 hb3 hl3 hxr3 hn2
  have q3 : IntKind.i64.wrap (64 * (n : Int)) = 64 * (n : Int) := by rw [IntKind.wrap_i64]; omega
  have HW := Lib.hid (within_any (ahead1 w3 a v).reads (size := 64 * n) (by omega) (by omega) (by simp) (fun p hp => by cases hp with | head => exact ⟨ha, hv⟩ | tail _ h => cases h))
  rw [show ((64 * n : Nat) : Int) = 64 * (n : Int) from by omega] at HW
  go_wp2_with fail
  refine HW.out.mono ?_
  rintro e w4 ⟨⟨v4, rfl, ho4, _⟩, hb4⟩
  obtain ⟨b, hbq⟩ : ∃ b, b = a % (64 * n) / 8 * 8 := ⟨_, rfl⟩
  have hb8 : b % 8 = 0 := by rw [hbq]; omega
  have hb64 : b < 64 * n := by have := Nat.mod_lt a (show 0 < 64 * n by omega); rw [hbq]; omega
  rw [show win (64 * n) [(a, v)] = [(b, v)] from by rw [hbq]; rfl] at ho4
  obtain ⟨hah, _, _⟩ := own_ahead (l := [(b, v)]) ho4
  obtain ⟨A4, cap4, rfl, _, _⟩ := hah.len
  have hb34 := Below.and (alloc_below w3 (.cells #[.int .u64 (a : Int), .int .u64 (v : Int)] 32)) hb4
  have HM4 := Lib.hid (HM3.out.below hb34)
  have HL4 := Lib.hid (Below.and HL3.out hb34)
  have HR := Lib.hid (rnew_any (some ⟨y.g, 0, none⟩) c hah (fun h => by cases h) (by simp))
  clear ho4 hah hb34 hb4 hbq HW HM3 HL3 x0 x1
  go_wp2_with fail
  refine HR.out.mono ?_
  rintro e w5 ⟨⟨rg5, V5, rfl, hr5, hrg5, hV5⟩, hb5⟩
  have hm5 := HM4.out.below hb5
  have hn5 : ¬ y.fp rg5 := fun hf => by have := HM4.out.lt _ hf; omega
  have HS := Lib.hid (rstep_none hr5.cells (show ((64 * n : Nat) : Int) ≠ 0 by omega) hc (size_yes hm5))
  have HL5 := Lib.hid (show Below Wa.heap.size Wa w5 from HL4.out.trans (hb5.mono HL4.out.size))
  have hrg6 : Wa.heap.size ≤ rg5 := by have := HL4.out.size; omega
  have HM5 := Lib.hid hm5
  clear HR hr5 hrg5 hV5 hb5 hm5 HM4 HL4 hb8 hb64
  go_wp2_with fail
  refine HS.out.mono ?_
  rintro e w6 ⟨rfl, w5', rfl, hb6⟩
  have HM6 := Lib.hid ((HM5.out.rstepW hn5 true 12).below hb6)
  have HF6 := Lib.hid (show Below w.heap.size w w6 from Below.and HBA.out (Below.and (Fresh.low_set (y := y) HL5.out hrg6 true 12) hb6))
  have HST := Lib.hid fun W (hb : Below w6.heap.size w6 W) => stats_yes (HM6.out.below hb)
  rw [show (St.zero n).ld = 0 from rfl, show (St.zero n).st = 0 from rfl, show (St.zero n).fl = 0 from rfl, show (St.zero n).fe = 0 from rfl] at HST
  unfold wv at HST
  clear HS HM6
  have r6 := Below.refl w6.heap.size w6
  have es1 := fun (w : World) => eqStats w
  have es2 := fun (w : World) (x y : Operand) => guardStats w x y
  go_wp2_with fail
  refine (HST.out _ r6).mono ?_
  rintro e w7 ⟨rfl, hb7⟩
  have HF7 := Lib.hid (Below.and HF6.out hb7)
  clear hb7 r6
  go_wp2_with fail
  refine (k10_any _).mono ?_
  rintro e w10 ⟨rfl, hb10⟩
  have HF := Lib.hid (Below.and HF7.out hb10)
  clear hb10
  go_wp2
  go_ret
  exact ⟨rfl, HF.out⟩
set_option maxRecDepth 100000 in
set_option maxHeartbeats 3200000 in
theorem runEmpty_high (w : World) {n a v : Nat} {c : Int} (h0 : 0 < n) (h1 : n ≤ 16) (c0 : 64 < c) (ha : a < 18446744073709551616) (hv : v < 18446744073709551616) :
    Calls Try.prog 7 #[.int .i64 (n : Int), .int .i64 c, .agg #[.int .u64 (a : Int), .int .u64 (v : Int)]] w fun e w' => e = .returned (.bool true) ∧ Below w.heap.size w w' := by
  obtain ⟨Wa, hWa⟩ : ∃ Wa, Wa = w.alloc (.cells #[.int .u64 (a : Int), .int .u64 (v : Int)] 32) := ⟨_, rfl⟩
  have HM := Lib.hid (mem10_yes h0 h1 Wa)
  have hba : Below w.heap.size w Wa := by rw [hWa]; exact alloc_below _ _
  have hxr : Row Wa w.heap.size 32 #[.int .u64 (a : Int), .int .u64 (v : Int)] := by rw [hWa]; exact Row.new _ _ _
  have hc : c < 0 ∨ 64 < c := .inr c0
  have q0 : decide (0 ≤ c) = true := by rw [decide_eq_true_eq]; omega
  have q1 : decide (c ≤ 64) = false := by rw [decide_eq_false_iff_not]; omega
  have HWa := Lib.hid hWa
  have HBA := Lib.hid hba
  have HXR := Lib.hid hxr
  clear hba hxr
  go_enter Try.func7, Try.ntmps7
  go_wp2_with fail
  rw [← hWa]
  clear hWa
  refine HM.out.mono ?_
  rintro e w1 ⟨y, rfl, hm1, hfp, hb1⟩
  have HR := Lib.hid (rnew_any (some ⟨y.g, 0, none⟩) c (Ahead.nil w1) (fun _ => rfl) (by decide))
  have HM1 := Lib.hid hm1
  have HFP := Lib.hid hfp
  have HB1 := Lib.hid hb1
  clear hm1 hfp hb1 HM
  go_wp2_with fail
  refine HR.out.mono ?_
  rintro e w2 ⟨⟨rg, V, rfl, hr2, hrg, hV⟩, hb2⟩
  have hm2 := HM1.out.below hb2
  have hn2 : ¬ y.fp rg := fun hf => by have := HM1.out.lt _ hf; omega
  have HS := Lib.hid (rstep_none hr2.cells (show ((64 * n : Nat) : Int) ≠ 0 by omega) hc (size_yes hm2))
  have hl2 : Below Wa.heap.size Wa w2 := HB1.out.trans (hb2.mono HB1.out.size)
  have HL2 := Lib.hid hl2
  have HM2 := Lib.hid hm2
  have hrg2 : Wa.heap.size ≤ rg := by have := HB1.out.size; omega
  clear HR hr2 hrg hV hb2 hm2 HM1 HB1 hl2
  go_wp2_with fail
  refine HS.out.mono ?_
  rintro e w3 ⟨rfl, w2', rfl, hb3⟩
  have hl3 : Below Wa.heap.size Wa w3 := Below.and (Fresh.low_set (y := y) HL2.out hrg2 true 12) hb3
  have HM3 := Lib.hid ((HM2.out.rstepW hn2 true 12).below hb3)
  have HL3 := Lib.hid hl3
  have hxr3 := HXR.out.below hl3 HXR.out.lt
  have x0 := hxr3.cell 0
  have x1 := hxr3.cell 1
  simp only [List.getElem?_toArray, List.getElem?_cons_succ, List.getElem?_cons_zero] at x0 x1
  clear HS HM2 HL2 hb3 hl3 hxr3 hn2
  have q3 : IntKind.i64.wrap (64 * (n : Int)) = 64 * (n : Int) := by rw [IntKind.wrap_i64]; omega
  have HW := Lib.hid (within_any (ahead1 w3 a v).reads (size := 64 * n) (by omega) (by omega) (by simp) (fun p hp => by cases hp with | head => exact ⟨ha, hv⟩ | tail _ h => cases h))
  rw [show ((64 * n : Nat) : Int) = 64 * (n : Int) from by omega] at HW
  go_wp2_with fail
  refine HW.out.mono ?_
  rintro e w4 ⟨⟨v4, rfl, ho4, _⟩, hb4⟩
  obtain ⟨b, hbq⟩ : ∃ b, b = a % (64 * n) / 8 * 8 := ⟨_, rfl⟩
  have hb8 : b % 8 = 0 := by rw [hbq]; omega
  have hb64 : b < 64 * n := by have := Nat.mod_lt a (show 0 < 64 * n by omega); rw [hbq]; omega
  rw [show win (64 * n) [(a, v)] = [(b, v)] from by rw [hbq]; rfl] at ho4
  obtain ⟨hah, _, _⟩ := own_ahead (l := [(b, v)]) ho4
  obtain ⟨A4, cap4, rfl, _, _⟩ := hah.len
  have hb34 := Below.and (alloc_below w3 (.cells #[.int .u64 (a : Int), .int .u64 (v : Int)] 32)) hb4
  have HM4 := Lib.hid (HM3.out.below hb34)
  have HL4 := Lib.hid (Below.and HL3.out hb34)
  have HR := Lib.hid (rnew_any (some ⟨y.g, 0, none⟩) c hah (fun h => by cases h) (by simp))
  clear ho4 hah hb34 hb4 hbq HW HM3 HL3 x0 x1
  go_wp2_with fail
  refine HR.out.mono ?_
  rintro e w5 ⟨⟨rg5, V5, rfl, hr5, hrg5, hV5⟩, hb5⟩
  have hm5 := HM4.out.below hb5
  have hn5 : ¬ y.fp rg5 := fun hf => by have := HM4.out.lt _ hf; omega
  have HS := Lib.hid (rstep_none hr5.cells (show ((64 * n : Nat) : Int) ≠ 0 by omega) hc (size_yes hm5))
  have HL5 := Lib.hid (show Below Wa.heap.size Wa w5 from HL4.out.trans (hb5.mono HL4.out.size))
  have hrg6 : Wa.heap.size ≤ rg5 := by have := HL4.out.size; omega
  have HM5 := Lib.hid hm5
  clear HR hr5 hrg5 hV5 hb5 hm5 HM4 HL4 hb8 hb64
  go_wp2_with fail
  refine HS.out.mono ?_
  rintro e w6 ⟨rfl, w5', rfl, hb6⟩
  have HM6 := Lib.hid ((HM5.out.rstepW hn5 true 12).below hb6)
  have HF6 := Lib.hid (show Below w.heap.size w w6 from Below.and HBA.out (Below.and (Fresh.low_set (y := y) HL5.out hrg6 true 12) hb6))
  have HST := Lib.hid fun W (hb : Below w6.heap.size w6 W) => stats_yes (HM6.out.below hb)
  rw [show (St.zero n).ld = 0 from rfl, show (St.zero n).st = 0 from rfl, show (St.zero n).fl = 0 from rfl, show (St.zero n).fe = 0 from rfl] at HST
  unfold wv at HST
  clear HS HM6
  have r6 := Below.refl w6.heap.size w6
  have es1 := fun (w : World) => eqStats w
  have es2 := fun (w : World) (x y : Operand) => guardStats w x y
  go_wp2_with fail
  refine (HST.out _ r6).mono ?_
  rintro e w7 ⟨rfl, hb7⟩
  have HF7 := Lib.hid (Below.and HF6.out hb7)
  clear hb7 r6
  go_wp2_with fail
  refine (k10_any _).mono ?_
  rintro e w10 ⟨rfl, hb10⟩
  have HF := Lib.hid (Below.and HF7.out hb10)
  clear hb10
  go_wp2
  go_ret
  exact ⟨rfl, HF.out⟩
end Go.Proofs.Ytgapncamnmngeaa
