/- The chapter's rows: the program answers them as the document says; where the library's table of powers lies as it was laid. -/
import Derived.Test.YtaegaeljakdffaaDoorN8Make
import Derived.Test.YtaegaeljakdffaaDoorN8Get
import Derived.Test.YtaegaeljakdffaaDoorN8Inv
import Derived.Test.YtaegaeljakdffaaDoorN8Text
import Derived.Test.YtaegaeljakdffaaDoorQLoadG
namespace Go.Proofs.YtaegaeljakdffaaDoor
open Go.RowKit
set_option linter.unusedVariables false
/-- The chapter's leaf, and the one that one pointer makes of it. -/
def kNd : Nd := ⟨0, 0, 0, 0, 1088, 5, 9, 0, 0, 0, 0, 0, 0, 2112, 2176, 0, 0, 0, 0, 0, 0⟩
def kNd2 : Nd := ⟨0, 0, 0, 0, 1088, 5, 9, 0, 0, 0, 0, 0, 0, 2112, 2112, 0, 0, 0, 0, 0, 0⟩
theorem kMake : makeR 1088 0 0 0 0 [(5, 2112), (9, 2176)] = (kNd, 0) := by kernel_rfl
theorem kLen : kNd.len = 2 := by kernel_rfl
theorem kFind : kNd.find 9 = some 1 := by kernel_rfl
theorem kAt : kNd.at 7 = 1 := by kernel_rfl
theorem kVp : kNd.vp = [0, 1] := by kernel_rfl
theorem kEs2 : kNd2.es = [(5, 2112)] := by kernel_rfl
theorem kInv2 : kNd2.inv = 1 := by kernel_rfl
theorem dd_big {u : Nat} (h : ¬ u < 10) : Lib.decDigits u = Lib.decDigits (u / 10) ++ [UInt8.ofNat (48 + u % 10)] := by
  rw [Lib.decDigits, dif_neg h]
theorem dd0 : decB 0 = ⟨#[48]⟩ := by unfold decB; rw [Lib.decDigits_one (by decide)]; rfl
theorem dd5 : decB 5 = ⟨#[53]⟩ := by unfold decB; rw [Lib.decDigits_one (by decide)]; rfl
theorem dd9 : decB 9 = ⟨#[57]⟩ := by unfold decB; rw [Lib.decDigits_one (by decide)]; rfl
theorem dd1088 : decB 1088 = ⟨#[49, 48, 56, 56]⟩ := by
  unfold decB
  rw [dd_big (u := 1088) (by decide), dd_big (u := 1088 / 10) (by decide), dd_big (u := 1088 / 10 / 10) (by decide), Lib.decDigits_one (i := 1088 / 10 / 10 / 10) (by decide)]
  rfl
theorem dd2112 : decB 2112 = ⟨#[50, 49, 49, 50]⟩ := by
  unfold decB
  rw [dd_big (u := 2112) (by decide), dd_big (u := 2112 / 10) (by decide), dd_big (u := 2112 / 10 / 10) (by decide), Lib.decDigits_one (i := 2112 / 10 / 10 / 10) (by decide)]
  rfl
theorem dd2176 : decB 2176 = ⟨#[50, 49, 55, 54]⟩ := by
  unfold decB
  rw [dd_big (u := 2176) (by decide), dd_big (u := 2176 / 10) (by decide), dd_big (u := 2176 / 10 / 10) (by decide), Lib.decDigits_one (i := 2176 / 10 / 10 / 10) (by decide)]
  rfl
theorem kTxt : (⟨(Lib.join ((txtL kNd kNd.vp).map (·.data.toList)) [32]).toArray⟩ : ByteArray) = ⟨#[48, 32, 48, 32, 48, 32, 49, 48, 56, 56, 32, 53, 61, 50, 49, 49, 50, 32, 57, 61, 50, 49, 55, 54]⟩ := by
  rw [kVp]
  have h : txtL kNd [0, 1] = [decB 0, decB 0, decB 0, decB 1088, decB 5 ++ ⟨#[61]⟩ ++ decB 2112, decB 9 ++ ⟨#[61]⟩ ++ decB 2176] := rfl
  rw [h, dd0, dd5, dd9, dd1088, dd2112, dd2176]
  rfl
theorem kWf : kNd.Wf := by
  refine ⟨by decide, by decide, by decide, by decide, by decide, by decide, fun i hi => ?_, fun i hi => ?_⟩
  · rcases lt8 hi with rfl | rfl | rfl | rfl | rfl | rfl | rfl | rfl <;> decide
  · rcases lt8 hi with rfl | rfl | rfl | rfl | rfl | rfl | rfl | rfl <;> decide
theorem store_gen (w1 : World) (n : Nd) : ∃ W2, W2 = (w1.alloc (.cells #[.int .i64 0, .int .u64 0, .int .u64 0, .int .u64 0, .int .u64 0, .int .u64 0, .int .u64 0, .int .u64 0, .int .u64 0, .int .u64 0, .int .u64 0, .int .u64 0, .int .u64 0, .int .u64 0, .int .u64 0, .int .u64 0, .int .u64 0, .int .u64 0, .int .u64 0, .int .u64 0, .int .u64 0] 27)).setCells w1.heap.size 0 n.cl ∧ NdAt W2 w1.heap.size n ∧ Below w1.heap.size w1 W2 :=
  ⟨_, rfl, row_setCells (Row.new w1 27 zeroNd.cl.toArray) rfl, setCells_low _ (Nat.le_refl _) (alloc_low _ _)⟩
theorem ent_two (w : World) (a b c d : Int) : EntAt (w.alloc (.cells #[.int .u64 a, .int .u64 b, .int .u64 c, .int .u64 d] 39)) (.slice (some ⟨w.heap.size, 0, none⟩) 2 2) [(a, b), (c, d)] := by
  have hr := Row.new w 39 #[.int .u64 a, .int .u64 b, .int .u64 c, .int .u64 d]
  refine ⟨_, 2, rfl, fun _ => ⟨w.heap.size, 0, rfl, fun i e he => ?_⟩⟩
  match i, he with
  | 0, he => cases he; exact ⟨hr.cell 0, hr.cell 1⟩
  | 1, he => cases he; exact ⟨hr.cell 2, hr.cell 3⟩
theorem ent_single (w : World) (a b : Int) : EntAt (w.alloc (.cells #[.int .u64 a, .int .u64 b] 39)) (.slice (some ⟨w.heap.size, 0, none⟩) 1 1) [(a, b)] := by
  have hr := Row.new w 39 #[.int .u64 a, .int .u64 b]
  refine ⟨_, 1, rfl, fun _ => ⟨w.heap.size, 0, rfl, fun i e he => ?_⟩⟩
  match i, he with
  | 0, he => cases he; exact ⟨hr.cell 0, hr.cell 1⟩
set_option maxRecDepth 100000 in
set_option maxHeartbeats 8000000 in
theorem n8known_any (w : World) (T : Pow w) : Calls Tryd.prog 6 #[] w fun e w' => e = .returned (.bool true) ∧ Below w.heap.size w w' := by
  have hm := nMake_any 1088 0 0 0 0 (ent_two w 5 2112 9 2176) (by decide)
  rw [kMake] at hm
  have HM := Lib.hid hm
  have HF := Lib.hid (fun W' => nFind_any kNd 9 W')
  rw [kFind] at HF
  have HL := Lib.hid (fun W' => nlen_any kNd W')
  rw [kLen] at HL
  have HA := Lib.hid (fun W' => nAt_any kNd 7 W')
  rw [kAt] at HA
  have HT := Lib.hid (fun W' (hb : Below w.heap.size w W') => nText_any kNd kWf (by decide) W' (pow_low T hb))
  rw [kTxt] at HT
  have HV := Lib.hid (fun W' => nValid_any kNd2 W')
  rw [kEs2] at HV
  have HI := Lib.hid (fun W' => nInv_any kNd2 W')
  rw [kInv2] at HI
  have hb0 := alloc_low w (.cells #[.int .u64 5, .int .u64 2112, .int .u64 9, .int .u64 2176] 39)
  clear hm
  go_enter Tryd.func6, Tryd.ntmps6
  go_wp2_with (first
    | (go_at_call 14; refine HM.out.mono ?_; rintro e w1 ⟨rfl, hb1⟩; have hw1 := low_and hb0 hb1)
    | (refine wpList_store_row rfl _ _ _ rfl w1.heap.size kNd.cl rfl rfl (Row.new w1 27 zeroNd.cl.toArray) rfl ndI (cl_one kNd) ?_; obtain ⟨W2, hW2, hn2, hb2⟩ := store_gen w1 kNd; rw [← hW2]; have hw2 := low_and hw1 hb2; have HN := Lib.hid (fun W' (hb : Below W2.heap.size W2 W') => (show NdAt W' w1.heap.size kNd from hn2.below hb hn2.lt)); have hr2 := Below.refl W2.heap.size W2; clear hW2 hn2)
    | (go_at_call 15; refine (HF.out _).mono ?_; rintro e w3 ⟨rfl, hb3⟩; have hw3 := low_and hw2 hb3)
    | (go_at_call 16; refine (HL.out _).mono ?_; rintro e w4 ⟨rfl, hb4⟩; have hw4 := low_and hw3 hb4; have hb4 := low_and hb3 hb4)
    | (go_at_call 17; refine (HA.out _).mono ?_; rintro e w5 ⟨rfl, hb5⟩; have hw5 := low_and hw4 hb5; have hb5 := low_and hb4 hb5)
    | (go_at_call 4; refine (HT.out _ hw5).mono ?_; rintro e w6 ⟨rfl, hb6⟩; have hw6 := low_and hw5 hb6; have hb6 := low_and hb5 hb6; have hn6 := HN.out _ hb6; have c14 : w6.cell? ⟨w1.heap.size, 14, none⟩ = some (.int .u64 2176) := ndAt_at hn6 14; have f14 := hn6.free 14; have HN2 := Lib.hid (fun W' (hb : Below (w6.setCell ⟨w1.heap.size, 14, none⟩ (.int .u64 2112)).heap.size (w6.setCell ⟨w1.heap.size, 14, none⟩ (.int .u64 2112)) W') => (show NdAt W' w1.heap.size kNd2 from Row.below (hn6.set 14 (.int .u64 2112)) hb (Row.lt (hn6.set 14 (.int .u64 2112))))); have HW7 := Lib.hid (show Below w.heap.size w (w6.setCell ⟨w1.heap.size, 14, none⟩ (.int .u64 2112)) from hw6.setCell (p := ⟨w1.heap.size, 14, none⟩) hw1.size _); have hr7 := Below.refl (w6.setCell ⟨w1.heap.size, 14, none⟩ (.int .u64 2112)).heap.size (w6.setCell ⟨w1.heap.size, 14, none⟩ (.int .u64 2112)); clear hn6)
    | (go_at_call 19; refine (HV.out _).mono ?_; rintro e w8 ⟨⟨v, rfl, ho⟩, hb8⟩; have hw8 := low_and HW7.out hb8; have hsm := same_any ((ent_own ho).low (alloc_low w8 (.cells #[.int .u64 5, .int .u64 2112] 39))) (ent_single w8 5 2112) (by decide) (by decide); have HS := Lib.hid hsm; have hb9 := low_and hb8 (alloc_low w8 (.cells #[.int .u64 5, .int .u64 2112] 39)); have hw9 := low_and hw8 (alloc_low w8 (.cells #[.int .u64 5, .int .u64 2112] 39)); clear ho hsm)
    | (go_at_call 18; refine HS.out.mono ?_; rintro e w10 ⟨rfl, hb10⟩; have hw10 := low_and hw9 hb10; have hb10 := low_and hb9 hb10)
    | (go_at_call 20; refine (HI.out _).mono ?_; rintro e w11 ⟨rfl, hb11⟩; have hw11 := low_and hw10 hb11)
    | (refine wpList_load_mid rfl _ _ rfl w1.heap.size 0 rfl kNd.cl _ (ndR (HN.out _ (by assumption))) Tryd.underlying27 rfl ndI ?_)
    | (refine wpList_load_midg (by rfl) _ _ rfl w1.heap.size 0 rfl kNd.cl _ (ndR (HN.out _ (by assumption))) Tryd.underlying27 rfl ndI ?_)
    | (refine wpList_load_mid rfl _ _ rfl w1.heap.size 0 rfl kNd2.cl _ (ndR (HN2.out _ (by assumption))) Tryd.underlying27 rfl ndI ?_)
    | (refine wpList_load_midg (by rfl) _ _ rfl w1.heap.size 0 rfl kNd2.cl _ (ndR (HN2.out _ (by assumption))) Tryd.underlying27 rfl ndI ?_))
  go_ret
  exact ⟨rfl, hw11⟩
end Go.Proofs.YtaegaeljakdffaaDoor
