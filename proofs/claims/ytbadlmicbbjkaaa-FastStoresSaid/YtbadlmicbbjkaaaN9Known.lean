/- The chapter's rows: the program answers them as the document says; no conditions. -/
import Derived.Test.YtbadlmicbbjkaaaN9Same
import Derived.Test.YtbadlmicbbjkaaaN9Prog
import Derived.Test.YtbadlmicbbjkaaaN9Wh
import Derived.Test.YtbadlmicbbjkaaaN8Make
import Derived.Test.YtbadlmicbbjkaaaQLoadG
namespace Go.Proofs.Ytbadlmicbbjkaaa
open Go.RowKit
set_option linter.unusedVariables false
def k9Nd : Nd := ⟨0, 0, 0, 0, 1088, 5, 9, 0, 0, 0, 0, 0, 0, 2112, 2176, 0, 0, 0, 0, 0, 0⟩
def k9Nd4 : Nd := ⟨0, 0, 0, 4, 1088, 5, 9, 0, 0, 0, 0, 0, 0, 2112, 2176, 0, 0, 0, 0, 0, 0⟩
def k9I : List (Int × Int) := [(1112, 5), (1208, 0), (1192, 2176), (1184, 9), (1176, 2112), (1168, 7), (1176, 2240), (1112, 6)]
def k9D : List (Int × Int) := [(1112, 5), (1160, 1088), (1152, 9), (1160, 2176), (1176, 0), (1112, 6)]
theorem k9Make : makeR 1088 0 0 0 0 [(5, 2112), (9, 2176)] = (k9Nd, 0) := by kernel_rfl
theorem k9Ins : insP 1088 k9Nd4 7 2240 = (k9I, 0) := by kernel_rfl
theorem k9Del : delP 1088 k9Nd4 5 = (k9D, 0) := by kernel_rfl
theorem store_gen9 (w1 : World) (n : Nd) : ∃ W2, W2 = (w1.alloc (.cells #[.int .i64 0, .int .u64 0, .int .u64 0, .int .u64 0, .int .u64 0, .int .u64 0, .int .u64 0, .int .u64 0, .int .u64 0, .int .u64 0, .int .u64 0, .int .u64 0, .int .u64 0, .int .u64 0, .int .u64 0, .int .u64 0, .int .u64 0, .int .u64 0, .int .u64 0, .int .u64 0, .int .u64 0] 27)).setCells w1.heap.size 0 n.cl ∧ NdAt W2 w1.heap.size n ∧ Below w1.heap.size w1 W2 :=
  ⟨_, rfl, row_setCells (Row.new w1 27 zeroNd.cl.toArray) rfl, setCells_low _ (Nat.le_refl _) (alloc_low _ _)⟩
theorem ent_lit (w : World) (e : TypeId) (l : List (Int × Int)) (hl : l.length ≤ 1000) : EntAt (w.alloc (.cells (flatE l).toArray e)) (.slice (some ⟨w.heap.size, 0, none⟩) l.length l.length) l :=
  ent_ownG (own_made e (flatE l) (B := 0) (by rw [flatE_len]; omega) (Nat.zero_le _) (by unfold maxLen; omega))
theorem psame_yes {w : World} {v v' : Value} {l : List (Int × Int)} (h : EntAt w v l) (h' : EntAt w v' l) (hl : l.length ≤ 1000) : Calls Try.prog 11 #[v, v'] w fun e w' => e = .returned (.bool true) ∧ Below w.heap.size w w' :=
  (psame_any h h' (by omega) (by omega)).mono fun e w' hh => by rw [decide_eq_true rfl] at hh; exact hh
set_option maxRecDepth 100000 in
set_option maxHeartbeats 8000000 in
theorem n9known_any (w : World) : Calls Try.prog 12 #[] w fun e w' => e = .returned (.bool true) ∧ Below w.heap.size w w' := by
  have hm := nMake_any 1088 0 0 0 0 (ent_lit w 67 [(5, 2112), (9, 2176)] (by decide)) (by decide)
  rw [k9Make] at hm
  have HM := Lib.hid (show Calls Try.prog 35 #[.int .u64 1088, .int .i64 0, .int .u64 0, .int .u64 0, .int .u64 0, .slice (some ⟨w.heap.size, 0, none⟩) 2 2] (w.alloc (.cells #[.int .u64 5, .int .u64 2112, .int .u64 9, .int .u64 2176] 67)) _ from hm)
  have HI := Lib.hid (fun W' => ins_any (base := 1088) (by decide) k9Nd4 7 2240 W')
  rw [k9Ins] at HI
  have HD := Lib.hid (fun W' => del_any (base := 1088) (by decide) k9Nd4 5 W')
  rw [k9Del] at HD
  have hb0 := alloc_low w (.cells #[.int .u64 5, .int .u64 2112, .int .u64 9, .int .u64 2176] 67)
  clear hm
  go_enter Try.func12, Try.ntmps12
  go_wp2_with (first
    | (go_at_call 35; refine HM.out.mono ?_; rintro e w1 ⟨rfl, hb1⟩; have hw1 := low_and hb0 hb1)
    | (refine wpList_store_row rfl _ _ _ rfl w1.heap.size k9Nd.cl rfl rfl (Row.new w1 27 zeroNd.cl.toArray) rfl ndI (cl_one k9Nd) ?_; obtain ⟨W2, hW2, hn2, hb2⟩ := store_gen9 w1 k9Nd; rw [← hW2]; have f3 := hn2.free 3; have c3 := ndAt_at hn2 3; have HN4 := Lib.hid (fun W' (hb : Below (W2.setCell ⟨w1.heap.size, 3, none⟩ (.int .u64 4)).heap.size (W2.setCell ⟨w1.heap.size, 3, none⟩ (.int .u64 4)) W') => (show NdAt W' w1.heap.size k9Nd4 from Row.below (hn2.set 3 (.int .u64 4)) hb (Row.lt (hn2.set 3 (.int .u64 4))))); have HW3 := Lib.hid (show Below w.heap.size w (W2.setCell ⟨w1.heap.size, 3, none⟩ (.int .u64 4)) from (low_and hw1 hb2).setCell (p := ⟨w1.heap.size, 3, none⟩) hw1.size _); have hr3 := Below.refl (W2.setCell ⟨w1.heap.size, 3, none⟩ (.int .u64 4)).heap.size (W2.setCell ⟨w1.heap.size, 3, none⟩ (.int .u64 4)); clear hW2 hn2)
    | (refine wpList_load_mid rfl _ _ rfl w1.heap.size 0 rfl k9Nd4.cl _ (ndR (HN4.out _ (by assumption))) Try.underlying27 rfl ndI ?_)
    | (go_at_call 24; refine (HI.out _).mono ?_; rintro e w3 ⟨⟨v3, rfl, ho3⟩, hb3⟩; have HE3 := Lib.hid (ent_ownG ho3); have hb3 := low_and hr3 hb3; clear ho3)
    | (go_at_call 25; refine (HD.out _).mono ?_; rintro e w4 ⟨⟨v4, rfl, ho4⟩, hb4⟩; have HE4 := Lib.hid (ent_ownG ho4); have HE3b := Lib.hid (HE3.out.low hb4); have hb4 := low_and hb3 hb4; have HS1 := Lib.hid (show Calls Try.prog 11 #[v3, .slice (some ⟨w4.heap.size, 0, none⟩) 8 8] (w4.alloc (.cells #[.int .u64 1112, .int .u64 5, .int .u64 1208, .int .u64 0, .int .u64 1192, .int .u64 2176, .int .u64 1184, .int .u64 9, .int .u64 1176, .int .u64 2112, .int .u64 1168, .int .u64 7, .int .u64 1176, .int .u64 2240, .int .u64 1112, .int .u64 6] 45)) _ from psame_yes (HE3b.out.low (alloc_low _ _)) (ent_lit w4 45 k9I (by decide)) (by decide)); have HB4 := Lib.hid (low_and HW3.out (low_and hb4 (alloc_low w4 (.cells #[.int .u64 1112, .int .u64 5, .int .u64 1208, .int .u64 0, .int .u64 1192, .int .u64 2176, .int .u64 1184, .int .u64 9, .int .u64 1176, .int .u64 2112, .int .u64 1168, .int .u64 7, .int .u64 1176, .int .u64 2240, .int .u64 1112, .int .u64 6] 45)))); have HE4b := Lib.hid (HE4.out.low (alloc_low w4 (.cells #[.int .u64 1112, .int .u64 5, .int .u64 1208, .int .u64 0, .int .u64 1192, .int .u64 2176, .int .u64 1184, .int .u64 9, .int .u64 1176, .int .u64 2112, .int .u64 1168, .int .u64 7, .int .u64 1176, .int .u64 2240, .int .u64 1112, .int .u64 6] 45))); clear ho4)
    | (go_at_call 11; refine HS2.out.mono ?_; rintro e w6 ⟨rfl, hb6⟩; have HB6 := Lib.hid (low_and HB5.out hb6))
    | (go_at_call 11; refine HS1.out.mono ?_; rintro e w5 ⟨rfl, hb5⟩; have HS2 := Lib.hid (show Calls Try.prog 11 #[v4, .slice (some ⟨w5.heap.size, 0, none⟩) 6 6] (w5.alloc (.cells #[.int .u64 1112, .int .u64 5, .int .u64 1160, .int .u64 1088, .int .u64 1152, .int .u64 9, .int .u64 1160, .int .u64 2176, .int .u64 1176, .int .u64 0, .int .u64 1112, .int .u64 6] 45)) _ from psame_yes ((HE4b.out.low hb5).low (alloc_low _ _)) (ent_lit w5 45 k9D (by decide)) (by decide)); have HB5 := Lib.hid (low_and (low_and HB4.out hb5) (alloc_low w5 (.cells #[.int .u64 1112, .int .u64 5, .int .u64 1160, .int .u64 1088, .int .u64 1152, .int .u64 9, .int .u64 1160, .int .u64 2176, .int .u64 1176, .int .u64 0, .int .u64 1112, .int .u64 6] 45)))))
  go_ret
  exact ⟨rfl, HB6.out⟩
end Go.Proofs.Ytbadlmicbbjkaaa
