/- known: the chapter's row of runs comes out as it says; in any world. -/
import Derived.Test.YtgapncamnmngeaaRnP
import Derived.Test.YtgapncamnmngeaaPLoad
import Derived.Test.YtgapncamnmngeaaPNew
namespace Go.Proofs.Ytgapncamnmngeaa
open Go.RowKit Go.Shelf
set_option linter.unusedVariables false

def l3 : List (Nat × Nat) := [(64, 1), (72, 2), (128, 3)]
def kr : Nat → RS × St
  | 0 => (RS.new 0 l3, St.zero 4)
  | i + 1 => ((kr i).1.next, (kr i).1.mem (kr i).2)
theorem kr_done : ∀ i, i < 7 → (kr i).1.next.done = decide (i = 6) := by decide
theorem kr_good : ∀ i, i < 7 → (kr i).1.Good 4 := by
  intro i
  induction i with
  | zero => exact fun _ => new_Good (by decide) (by decide) (by decide) (by decide)
  | succ i ih =>
    intro h
    refine next_Good (ih (by omega)) ?_
    rw [kr_done i (by omega)]
    simp
    omega
theorem kr_nl (i : Nat) : (kr i).2.nl = 4 := by
  induction i with
  | zero => rfl
  | succ i ih => exact (mem_nl _ _).trans ih
set_option maxRecDepth 100000 in
theorem kr_end : (kr 7).2.view.getD 16 0 = 3 ∧ (kr 7).2.st = 3 ∧ (kr 7).2.fl = 2 ∧ (kr 7).2.fe = 2 ∧ nz (kr 7).2.pend = [] := by decide
/-- Where known's loop stands. -/
def KR (w : World) (g rg : Nat) (v : Value) (wr : World) : Prop :=
  ∃ i y V, i ≤ 7 ∧ v = .int .i64 ((i : Nat) : Int) ∧ MemAt wr y (kr i).2 ∧ (kr i).2.Ok ∧ Small (kr i).2 i ∧ RunOn wr y rg (kr i).1 V ∧ Fresh w wr y rg ∧ y.g = g
set_option maxRecDepth 100000 in
set_option maxHeartbeats 3200000 in
theorem k10_any (w : World) : Calls Try.prog 10 #[] w fun e w' => e = .returned (.bool true) ∧ Below w.heap.size w w' := by
  have HN : Calls Try.prog 27 #[.int .i64 256] w (NewPost 4 w) := new_yes 4 w (by decide) (by decide)
  go_enter Try.func10, Try.ntmps10
  go_wp2_with fail
  refine HN.mono ?_
  rintro e w1 ⟨y, rfl, hm1, hfp, hb1⟩
  clear HN
  have hah : Ahead (w1.alloc (.cells #[.int .u64 64, .int .u64 1, .int .u64 72, .int .u64 2, .int .u64 128, .int .u64 3] 32)) (.slice (some ⟨w1.heap.size, 0, none⟩) 3 3) l3 := by
    refine .inr ⟨by decide, w1.heap.size, 0, 3, rfl, by decide, by decide, fun i u hu => ?_⟩
    rw [Nat.zero_add, (Row.new w1 32 #[.int .u64 64, .int .u64 1, .int .u64 72, .int .u64 2, .int .u64 128, .int .u64 3]).cell, ← Array.getElem?_toList]
    exact hu
  have HR := Lib.hid (rnew_any (some ⟨y.g, 0, none⟩) 0 hah (fun h => by cases h) (by decide))
  go_wp2_with fail
  refine HR.out.mono ?_
  rintro e w2 ⟨⟨rg, V, rfl, hr2, hrg, hV⟩, hb2⟩
  clear HR hah
  have ba := alloc_below w1 (.cells #[.int .u64 64, .int .u64 1, .int .u64 72, .int .u64 2, .int .u64 128, .int .u64 3] 32)
  have hm2 := (hm1.below ba).below hb2
  have H0 := Lib.hid (show KR w y.g rg (.int .i64 0) w2 from ⟨0, y, V, by omega, rfl, hm2, zero_Ok 4, zero_Small 4, RunOn.new (hm1.below ba) hr2 hrg hV, ⟨hb1.trans ((Below.and ba hb2).mono hb1.size), hfp, by have := hb1.size; have := ba.size; omega⟩, rfl⟩)
  obtain ⟨g, hg⟩ : ∃ g, g = y.g := ⟨_, rfl⟩
  rw [← hg] at H0 ⊢
  clear hm1 hfp hb1 hr2 hrg hV hb2 ba hm2 hg y V
  go_wp2_with fail
  go_loopw [4] (fun v wr => KR w g rg v wr) (fun v _ => 7 - (intOf v).toNat)
  case atStart => exact H0.out
  case round =>
    obtain ⟨i, y, V, hi, rfl, hm, ok, hs, hr, hf, rfl⟩ := hrel
    rename World => wr
    by_cases h7 : i < 7
    · have HS := Lib.hid (rstep_any hm ok hs (by omega) hr (by rw [kr_nl i]; exact kr_good i h7))
      have HN := Lib.hid (show ∀ w', StepPost wr y rg (kr i).1.next ((kr i).1.mem (kr i).2) w' → KR w y.g rg (.int .i64 ((i + 1 : Nat) : Int)) w' from fun w' ⟨y', V', hm', hr', T⟩ =>
        ⟨i + 1, y', V', by omega, rfl, hm', mem_Ok ok hs (by omega) hm.plen (by rw [kr_nl i]; exact kr_good i h7), mem_Small hs, hr', hf.step T, T.g⟩)
      rw [kr_done i h7] at HS
      obtain ⟨d, hd⟩ : ∃ d, d = decide (i = 6) := ⟨_, rfl⟩
      rw [← hd] at HS
      have hdi : (((i : Nat) : Int) == 6) = d := by
        rw [hd, Bool.eq_iff_iff, beq_iff_eq, decide_eq_true_eq]
        omega
      have hdd : (d != d) = false := by simp
      have h7' : decide (((i : Nat) : Int) < 7) = true := by rw [decide_eq_true_eq]; omega
      clear hm ok hs hr hf hd
      go_wp2_with fail
      refine HS.out.mono ?_
      rintro e w3 ⟨rfl, hpost⟩
      have HK := Lib.hid (HN.out w3 hpost)
      clear HN HS hpost
      go_wp2
      rw [show ((i : Int) + 1) = ((i + 1 : Nat) : Int) from by omega]
      exact ⟨HK.out, by simp only [intOf]; omega⟩
    · obtain rfl : i = 7 := by omega
      obtain ⟨e1, e2, e3, e4, e5⟩ := kr_end
      obtain ⟨s, hs7⟩ : ∃ s, s = (kr 7).2 := ⟨_, rfl⟩
      have hnl : s.nl = 4 := by rw [hs7]; exact kr_nl 7
      rw [← hs7] at e1 e2 e3 e4 e5 hm ok
      have HL := Lib.hid (load_ok hm ok 128 (by decide) (by rw [hnl]; decide))
      rw [show 128 / 8 = 16 from rfl, e1] at HL
      have HF := Lib.hid (show ∀ y' w', MemAt w' y' { s with ld := s.ld + 1 } → Turn wr w' y y' → Below w.heap.size w w' from fun y' w' hm' ht' => (hf.step (RT.of_turn rg ht')).low)
      clear hm hs hr hf hs7
      go_wp2_with fail
      refine HL.out.mono ?_
      rintro e w3 ⟨rfl, y3, hm3, ht3⟩
      have HST := Lib.hid (stats_yes hm3)
      have HF3 := Lib.hid (HF.out _ _ hm3 ht3)
      have hg3 := ht3.g
      rw [hg3] at HST
      have HM3 := Lib.hid hm3
      clear hm3 ht3 HF HL
      rw [e2, e3, e4] at HST
      unfold wv at HST
      clear e2 e3 e4 e1
      go_wp2_with fail
      refine HST.out.mono ?_
      rintro e w4 ⟨rfl, hb4⟩
      have HM4 := Lib.hid (HM3.out.below hb4)
      have HF4 := Lib.hid (Below.and HF3.out hb4)
      have HLI := Lib.hid fun W (hb : Below w4.heap.size w4 W) => lines_zero (HM4.out.below hb) e5
      rw [hg3] at HLI
      clear hb4 HST HM3 HF3 e5
      go_wp2_with fail
      refine (HLI.out _ (alloc_below _ _)).mono ?_
      rintro e w5 ⟨rfl, hb5⟩
      have HF5 := Lib.hid (Below.and (Below.and HF4.out (alloc_below _ _)) hb5)
      clear hb5 HLI HF4
      go_wp2
      go_ret
      exact ⟨rfl, HF5.out⟩
end Go.Proofs.Ytgapncamnmngeaa
