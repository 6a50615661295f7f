/- Room: how many blocks of a class can be reserved. -/
import Derived.Test.YthibbcokpmckfaaGreatDoorZ35
namespace Go.Proofs.YthibbcokpmckfaaGreatDoor
open Go.RowKit Go.Sort
set_option linter.unusedVariables false
/-- How many slabs of the first k have no class. -/
def voidN (hs : List Hd) : Nat → Nat
  | 0 => 0
  | k + 1 => voidN hs k + if (hs[k]?.map (·.cls)) = some 0 then 1 else 0
theorem voidN_le (hs : List Hd) (k : Nat) : voidN hs k ≤ k := by
  induction k with
  | zero => exact Nat.le_refl _
  | succ k ih => unfold voidN; split <;> omega
def roomS (hs : List Hd) (fs : Nat → List Nat) (c k : Nat) : Nat := (fs c).length + blN c * voidN hs k
theorem roomS_void {hs : List Hd} {fs : Nat → List Nat} {c k : Nat} {x : Hd} (hx : hs[k]? = some x) (h0 : x.cls = 0) : roomS hs fs c (k + 1) = roomS hs fs c k + blN c := by
  unfold roomS
  rw [show voidN hs (k + 1) = voidN hs k + 1 from by rw [voidN, hx]; simp [h0], Nat.mul_add, Nat.mul_one]; omega
theorem roomS_else {hs : List Hd} {fs : Nat → List Nat} {c k : Nat} {x : Hd} (hx : hs[k]? = some x) (h0 : x.cls ≠ 0) : roomS hs fs c (k + 1) = roomS hs fs c k := by
  unfold roomS
  rw [show voidN hs (k + 1) = voidN hs k from by rw [voidN, hx]; simp [h0]]
theorem room_none {p : Option Addr} {w : World} (h : NoSlab w p) (n : Int) : Calls Tryz.prog 17 #[.pointer p, .int .i64 n] w fun e w' => e = .returned (.int .i64 0) ∧ w = w' := by
  have H := Lib.hid (snone_none h)
  clear h
  go_enter Tryz.func17, Tryz.ntmps17
  go_wp2_with fail
  refine H.out.mono ?_
  rintro e w1 ⟨rfl, rfl⟩
  go_wp2
  go_ret
  exact ⟨rfl, rfl⟩
theorem room_arg {w : World} {y : SLay} {hs : List Hd} {fs : Nat → List Nat} (h : SlabMem w y hs fs) {n : Int} (hn : ¬ (1 ≤ n ∧ n ≤ 3)) : Calls Tryz.prog 17 #[fpt y.gs, .int .i64 n] w fun e w' => e = .returned (.int .i64 0) ∧ w = w' := by
  have H := Lib.hid (snone_at h)
  have HC := Lib.hid (sClass_at (inB_no hn) w)
  unfold fpt at H ⊢
  clear h hn
  go_enter Tryz.func17, Tryz.ntmps17
  go_wp2_with fail
  refine H.out.mono ?_
  rintro e w1 ⟨rfl, rfl⟩
  go_wp2_with fail
  refine HC.out.mono ?_
  rintro e w1 ⟨rfl, rfl⟩
  go_wp2
  go_ret
  exact ⟨rfl, rfl⟩
set_option maxRecDepth 100000 in
set_option maxHeartbeats 1600000 in
theorem room_any {w : World} {y : SLay} {hs : List Hd} {fs : Nat → List Nat} (h : SlabMem w y hs fs) (R : RS w y) {c : Nat} (hc1 : 1 ≤ c) (hc3 : c ≤ 3) :
    Calls Tryz.prog 17 #[fpt y.gs, jv c] w fun e w' => e = .returned (jv (roomS hs fs c hs.length)) ∧ Gr w w' := by
  have H := Lib.hid (snone_at h)
  have HC := Lib.hid (sClass_at (n := (c : Int)) (inB_yes ⟨by omega, by omega⟩) w)
  have hfew := h.few c (by omega)
  have HLN := Lib.hid (len_any (h.fre c (by omega)) (by omega))
  have d0 := h.field
  have d1 := h.set4 (c := c) (by omega)
  have hm := h.most
  have HBL := Lib.hid fun (W : World) (hg : Gr w W) => blocks_any (c : Int) W (R.1.gr hg)
  rw [blN_C] at HBL
  have hbl := blN_le c
  have HM := Lib.hid h
  obtain ⟨gs, hgs⟩ : ∃ g, g = y.gs := ⟨_, rfl⟩
  obtain ⟨gf, hgf⟩ : ∃ g, g = y.gf c := ⟨_, rfl⟩
  obtain ⟨gh, hgh⟩ : ∃ g, g = y.gh := ⟨_, rfl⟩
  obtain ⟨N, hN⟩ : ∃ N, N = hs.length := ⟨_, rfl⟩
  obtain ⟨m, hmb⟩ : ∃ m, m = blN c := ⟨_, rfl⟩
  unfold fpt at H d1 ⊢
  unfold jv
  rw [← hgs] at H d0 d1 ⊢
  rw [← hgf] at HLN d1
  rw [← hgh, ← hN] at d0
  rw [← hN] at hm ⊢
  rw [← hmb] at HBL hbl
  have HGH := Lib.hid hgh
  have HMB := Lib.hid hmb
  have HN := Lib.hid hN
  have hst : roomS hs fs c 0 = (fs c).length := by unfold roomS voidN; omega
  have HST := Lib.hid hst.symm
  obtain ⟨F, hF⟩ : ∃ F, F = (fs c).length := ⟨_, rfl⟩
  rw [← hF] at HLN HST hfew
  have HF := Lib.hid hF
  have HBD := Lib.hid (show ∀ k, roomS hs fs c k ≤ F + 15 * k from fun k => by
    unfold roomS
    have := voidN_le hs k
    have := Nat.mul_le_mul (show blN c ≤ 15 from by rw [← hmb]; exact hbl) this
    omega)
  clear h R hgs hgf hgh hN hmb hst hF
  go_enter Tryz.func17, Tryz.ntmps17
  go_wp2_with fail
  refine H.out.mono ?_
  rintro e w1 ⟨rfl, rfl⟩
  go_wp2_with fail
  refine HC.out.mono ?_
  rintro e w1 ⟨rfl, rfl⟩
  go_wp2_with fail
  refine HLN.out.mono ?_
  rintro e w1 ⟨rfl, rfl⟩
  clear d1
  go_wp2
  go_loopw [5, 27] (fun u v wr => ∃ k : Nat, k ≤ N ∧ v = .int .i64 k ∧ u = .int .i64 (roomS hs fs c k) ∧ Gr w wr) (fun _ v _ => N - (intOf v).toNat)
  case atStart => exact ⟨0, Nat.zero_le _, rfl, by rw [← HST.out], Gr.refl _⟩
  case round =>
    obtain ⟨k, hk, rfl, rfl, hg⟩ := hrel
    rename World => wr
    have HG := Lib.hid hg
    clear hg H HC HLN d0
    by_cases hkn : k < N
    · have hx : hs[k]? = some hs[k] := List.getElem?_eq_getElem (by rw [← HN.out]; exact hkn)
      obtain ⟨x, hxe⟩ : ∃ x, x = hs[k]'(by rw [← HN.out]; exact hkn) := ⟨_, rfl⟩
      rw [← hxe] at hx
      have hmr := HM.out.below HG.out.all
      obtain ⟨b0, b1, b2, b3⟩ := hmr.head hx
      rw [← HGH.out] at b0 b1 b2 b3
      have hsl := hmr.blk k x hx
      have HX := Lib.hid hx
      have hgl : gh < wr.heap.size := by
        exact wr.block_lt_of_cell? _ b0
      have hbd := HBD.out k
      obtain ⟨T, hT⟩ : ∃ T, T = roomS hs fs c k := ⟨_, rfl⟩
      rw [← hT] at hbd ⊢
      have HT := Lib.hid hT
      obtain ⟨Av, hv⟩ := hsl.shape
      rw [hv] at b3
      unfold jv at b0 b1
      unfold wv at b2
      clear hx hxe hmr hsl hv hT
      cases hz : decide (x.cls = 0) with
      | false =>
        have hz' : ((x.cls : Int) == 0) = false := by rw [Bool.eq_false_iff]; intro e; have := beq_iff_eq.1 e; have := of_decide_eq_false hz; omega
        have HE := Lib.hid (roomS_else (fs := fs) (c := c) HX.out (of_decide_eq_false hz))
        clear hz
        go_wp2
        go_roundw
        case rel => exact ⟨k + 1, by omega, by go_num, by rw [HE.out, ← HT.out], HG.out.alloc _⟩
        case measure => simp [intOf]; omega
      | true =>
        have hz' : ((x.cls : Int) == 0) = true := by have := of_decide_eq_true hz; simp [this]
        have HE := Lib.hid (roomS_void (fs := fs) (c := c) HX.out (of_decide_eq_true hz))
        clear hz
        go_wp2_with fail
        refine (HBL.out _ (HG.out.alloc _)).mono ?_
        rintro e w5 ⟨rfl, hg5⟩
        have HG5 := Lib.hid ((HG.out.alloc _).trans hg5)
        clear hg5
        go_wp2
        go_roundw
        case rel => exact ⟨k + 1, by omega, by go_num, by rw [HE.out, ← HT.out, ← HMB.out]; go_num, HG5.out⟩
        case measure => simp [intOf]; omega
    · obtain rfl : k = N := by omega
      go_wp2
      go_ret
      exact ⟨rfl, HG.out⟩
end Go.Proofs.YthibbcokpmckfaaGreatDoor
