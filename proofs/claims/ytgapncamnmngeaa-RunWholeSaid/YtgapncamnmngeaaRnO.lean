/- The law's one: a step, and whether it did one primitive at most; for runs that may go on. -/
import Derived.Test.YtgapncamnmngeaaRnJ
import Derived.Test.YtgapncamnmngeaaRnK
import Derived.Test.YtgapncamnmngeaaRnL
namespace Go.Proofs.Ytgapncamnmngeaa
open Go.RowKit Go.Shelf
set_option linter.unusedVariables false
attribute [local go_sem] Oper.semAt_some

theorem mem_counts (r : RS) (s : St) : (r.mem s).ld = s.ld ∧ ∃ d1 d2 d3, (r.mem s).st = s.st + d1 ∧ (r.mem s).fl = s.fl + d2 ∧ (r.mem s).fe = s.fe + d3 ∧ d1 + d2 + d3 ≤ 1 := by
  unfold RS.mem
  split
  · split
    · exact ⟨rfl, 0, 0, 0, rfl, rfl, rfl, by omega⟩
    · exact ⟨rfl, 1, 0, 0, rfl, rfl, rfl, by omega⟩
  · exact ⟨rfl, 0, 1, 0, rfl, rfl, rfl, by omega⟩
  · exact ⟨rfl, 0, 0, 1, rfl, rfl, rfl, by omega⟩
  · exact ⟨rfl, 0, 0, 0, rfl, rfl, rfl, by omega⟩
set_option maxRecDepth 100000 in
set_option maxHeartbeats 1600000 in
theorem one_any {w : World} {y : Lay} {s : St} {rg : Nat} {r : RS} {V : Value} {i : Nat} (h : MemAt w y s) (ok : s.Ok) (hs : Small s i) (hi : i ≤ 1000) (hr : RunOn w y rg r V) (g : r.Good s.nl) :
    Calls Try.prog 13 #[.pointer (some ⟨y.g, 0, none⟩), .pointer (some ⟨rg, 0, none⟩)] w fun e w' => e = .returned (.tuple #[.bool r.next.done, .int .i64 0, .bool true]) ∧ StepPost w y rg r.next (r.mem s) w' := by
  obtain ⟨gy, hgy⟩ : ∃ gy, gy = y.g := ⟨_, rfl⟩
  have HST := Lib.hid fun W (hb : Below w.heap.size w W) => stats_yes (h.below hb)
  rw [← hgy] at HST ⊢
  have HM := Lib.hid h
  have HR := Lib.hid hr
  have hlr := hr.lt
  have hGY := Lib.hid hgy
  have hOK := Lib.hid ok
  have hSM := Lib.hid hs
  have hGG := Lib.hid g
  obtain ⟨e0, d1, d2, d3, e1, e2, e3, hd⟩ := mem_counts r s
  have hs1 := hs.st
  have hs2 := hs.fl
  have hs3 := hs.fe
  have hnum := ok.num.1
  obtain ⟨S', hS'⟩ : ∃ S', S' = r.mem s := ⟨_, rfl⟩
  have HS' := Lib.hid hS'
  rw [← hS'] at e0 e1 e2 e3 ⊢
  unfold wv at HST
  clear h hr hgy ok hs g hS'
  go_enter Try.func13, Try.ntmps13
  go_wp2_with fail
  refine (HST.out _ (Below.refl _ _)).mono ?_
  rintro e w1 ⟨rfl, hb1⟩
  obtain ⟨Wa, hWa⟩ : ∃ Wa, Wa = w1.alloc (.cells #[.int .u64 (s.ld : Int), .int .u64 (s.st : Int), .int .u64 (s.fl : Int), .int .u64 (s.fe : Int)] 38) := ⟨_, rfl⟩
  have hba : Below w1.heap.size w1 Wa := by rw [hWa]; exact alloc_below _ _
  have hra : Row Wa w1.heap.size 38 #[.int .u64 (s.ld : Int), .int .u64 (s.st : Int), .int .u64 (s.fl : Int), .int .u64 (s.fe : Int)] := by rw [hWa]; exact Row.new _ _ _
  have hbwa := Below.and hb1 hba
  have HSP := Lib.hid (rstep_any (HM.out.below hbwa) hOK.out hSM.out hi (HR.out.below hbwa) hGG.out)
  rw [← HS'.out] at HSP
  have HRA := Lib.hid hra
  have HBW := Lib.hid hbwa
  have HSZ := Lib.hid (show w.heap.size ≤ w1.heap.size from hb1.size)
  clear hb1 hba hra hbwa HST
  go_wp2_with fail
  rw [← hWa]
  refine HSP.out.mono ?_
  rintro e w3 ⟨rfl, y3, V3, hm3, hr3, T3⟩
  have ra3 := T3.but.row HRA.out (by
    rintro (hf | hf)
    · have := HM.out.lt _ hf
      have := HSZ.out
      omega
    · have := HSZ.out
      omega)
  have HST3 := Lib.hid (stats_yes hm3)
  have hg3 : y3.g = gy := by rw [T3.g]; exact hGY.out.symm
  obtain ⟨La, hLa⟩ : ∃ La, La = s.ld := ⟨_, rfl⟩
  obtain ⟨S0, hS0⟩ : ∃ S0, S0 = s.st := ⟨_, rfl⟩
  obtain ⟨F0, hF0⟩ : ∃ F0, F0 = s.fl := ⟨_, rfl⟩
  obtain ⟨E0, hE0⟩ : ∃ E0, E0 = s.fe := ⟨_, rfl⟩
  obtain ⟨S1, hS1⟩ : ∃ S1, S1 = S'.st := ⟨_, rfl⟩
  obtain ⟨F1, hF1⟩ : ∃ F1, F1 = S'.fl := ⟨_, rfl⟩
  obtain ⟨E1, hE1⟩ : ∃ E1, E1 = S'.fe := ⟨_, rfl⟩
  obtain ⟨X2, hX2⟩ : ∃ X2, X2 = ((S1 : Int) - S0) := ⟨_, rfl⟩
  obtain ⟨X3, hX3⟩ : ∃ X3, X3 = (X2 + (F1 : Int)) := ⟨_, rfl⟩
  obtain ⟨X4, hX4⟩ : ∃ X4, X4 = (X3 - (F0 : Int)) := ⟨_, rfl⟩
  obtain ⟨X5, hX5⟩ : ∃ X5, X5 = (X4 + (E1 : Int)) := ⟨_, rfl⟩
  obtain ⟨X6, hX6⟩ : ∃ X6, X6 = (X5 - (E0 : Int)) := ⟨_, rfl⟩
  have f1 : IntKind.u64.wrap ((La : Int) - La) = 0 := by rw [IntKind.wrap_u64]; omega
  have f2 : IntKind.u64.wrap (S1 : Int) = S1 := by rw [IntKind.wrap_u64]; omega
  have f2' : IntKind.u64.wrap (0 + (S1 : Int)) = S1 := by rw [IntKind.wrap_u64]; omega
  have f3 : IntKind.u64.wrap ((S1 : Int) - S0) = X2 := by rw [IntKind.wrap_u64]; omega
  have f4 : IntKind.u64.wrap (X2 + (F1 : Int)) = X3 := by rw [IntKind.wrap_u64]; omega
  have f5 : IntKind.u64.wrap (X3 - (F0 : Int)) = X4 := by rw [IntKind.wrap_u64]; omega
  have f6 : IntKind.u64.wrap (X4 + (E1 : Int)) = X5 := by rw [IntKind.wrap_u64]; omega
  have f7 : IntKind.u64.wrap (X5 - (E0 : Int)) = X6 := by rw [IntKind.wrap_u64]; omega
  have f8 : X6 ≤ 1 := by omega
  have f9 : decide (X6 ≤ 1) = true := by rw [decide_eq_true_eq]; exact f8
  rw [hg3, e0, ← hLa, ← hS1, ← hF1, ← hE1] at HST3
  rw [← hLa, ← hS0, ← hF0, ← hE0] at ra3
  unfold wv at HST3
  have HP3 := Lib.hid (show StepPost w y rg r.next S' w3 from ⟨y3, V3, hm3, hr3, (RT.of_below y rg HBW.out).trans T3⟩)
  have HRA3 := Lib.hid ra3
  clear HSP hm3 hr3 T3 ra3 HRA HBW HSZ hWa hLa hS0 hF0 hE0 hX2 hX3 hX4 hX5 hX6 hS1 hF1 hE1 e0 e1 e2 e3 hs1 hs2 hs3 hnum hd
  go_wp2_with fail
  refine HST3.out.mono ?_
  rintro e w4 ⟨rfl, hb4⟩
  obtain ⟨W4, hW4⟩ : ∃ W4, W4 = w4.alloc (.cells #[.int .u64 (La : Int), .int .u64 (S1 : Int), .int .u64 (F1 : Int), .int .u64 (E1 : Int)] 38) := ⟨_, rfl⟩
  have hb4' : Below w4.heap.size w4 W4 := by rw [hW4]; exact alloc_below _ _
  have hrb : Row W4 w4.heap.size 38 #[.int .u64 (La : Int), .int .u64 (S1 : Int), .int .u64 (F1 : Int), .int .u64 (E1 : Int)] := by rw [hW4]; exact Row.new _ _ _
  have hra4 := HRA3.out.below (Below.and hb4 hb4') HRA3.out.lt
  have a0 := hra4.cell 0
  have a1 := hra4.cell 1
  have a2 := hra4.cell 2
  have a3 := hra4.cell 3
  have b0 := hrb.cell 0
  have b1 := hrb.cell 1
  have b2 := hrb.cell 2
  have b3 := hrb.cell 3
  simp only [List.getElem?_toArray, List.getElem?_cons_succ, List.getElem?_cons_zero] at a0 a1 a2 a3 b0 b1 b2 b3
  have ca0 := fun p : LowBy W4 => p.cell a0
  have ca1 := fun p : LowBy W4 => p.cell a1
  have ca2 := fun p : LowBy W4 => p.cell a2
  have ca3 := fun p : LowBy W4 => p.cell a3
  have cb0 := fun p : LowBy W4 => p.cell b0
  have cb1 := fun p : LowBy W4 => p.cell b1
  have cb2 := fun p : LowBy W4 => p.cell b2
  have cb3 := fun p : LowBy W4 => p.cell b3
  have mixed : Try.prog.follows .mixedOrders = true := by kernel_rfl
  have HB4 := Lib.hid (Below.and hb4 hb4')
  clear hrb hra4 hb4 hb4' a0 a1 a2 a3 b0 b1 b2 b3 HRA3 HST3
  go_wp2_with fail
  rw [← hW4]
  clear hW4
  refine wp_region_quiet_low (by assumption) (by kernel_rfl) ?_
  repeat (go_big_quiet_step (fail))
  refine wpQuiet_nil ?_
  intro _ hw'
  obtain ⟨p, hw''⟩ := hw'
  subst hw''
  have HF := Lib.hid (show StepPost w y rg r.next S' p.W from by
    obtain ⟨y', V', hm', hr', T'⟩ := HP3.out
    have hb := Below.and HB4.out p.low
    exact ⟨y', V', hm'.below hb, hr'.below hb, T'.trans (RT.of_below y' rg hb)⟩)
  clear ca0 ca1 ca2 ca3 cb0 cb1 cb2 cb3
  go_wp2
  go_ret3
  exact ⟨rfl, HF.out⟩
end Go.Proofs.Ytgapncamnmngeaa
