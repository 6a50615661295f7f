/- Texts of this claim, packed: 6Same, 6Set, 6Res, R6RS, 6Sta. -/
import Derived.Test.YtahojhaeebmpoaaGreatDoorPq34
import Derived.Test.YtahojhaeebmpoaaGreatDoorPq24
import Derived.Test.YtahojhaeebmpoaaGreatDoorPq29
import Derived.Test.YtahojhaeebmpoaaGreatDoorPq30
import Derived.Test.YtahojhaeebmpoaaGreatDoorPq13
import Derived.Deep.QuietTactic
import Derived.Deep.DeepCutAuto
import Derived.Deep.CutBlock
import Derived.Deep.AppendLies
/- same of layer 6: the program's slabs and the document's blocks that say the same are found to; for at most a thousand blocks that are not free. -/
namespace Go.Proofs.YtahojhaeebmpoaaGreatDoor
open Go Go.RowKit
set_option linter.unusedVariables false
theorem belowT6 {w w1 w2 : World} (h : Below w.heap.size w w1) (h2 : Below w1.heap.size w1 w2) : Below w.heap.size w w2 := Below.and h h2
set_option maxRecDepth 100000 in
set_option maxHeartbeats 8000000 in
theorem same6_any {w : World} {y : SLay} {hs : List Hd} {fs : Nat → List Nat} {B gw size : Nat} {cls : List Nat} {L : List (Nat × Nat)} {vc vl : Value} (h : SlabMem w y hs fs) (ok : HsOk hs) (fo : FsOk hs fs) (R : RS w y) (hW : W6At w B gw size cls L vc vl) (hI : W6Is hs cls L) (hL : L.length ≤ 1000) (h0 : ∀ p ∈ L, p.1 ≠ 0) :
    Calls Tryz.prog 11 #[fpt y.gs, fpt gw] w fun e w' => e = .returned (.bool true) ∧ Below w.heap.size w w' := by
  have hlen : cls.length = hs.length := by rw [hI.cls, List.length_map]
  have hm := h.most
  have hcl3 : ∀ x ∈ cls, x ≤ 3 := by
    intro x hx
    rw [hI.cls] at hx
    obtain ⟨d, hd, rfl⟩ := List.mem_map.1 hx
    exact (h.lens d hd).2
  obtain ⟨Ac, cc, hvc, _, _, hsl, _⟩ := own_sl hW.cls
  subst hvc
  obtain ⟨n, hn⟩ : ∃ n, n = hs.length := ⟨_, rfl⟩
  have HCELL := Lib.hid (fun (W : World) (hb : Below w.heap.size w W) (i : Nat) (hi : i < n) => (show ∃ g x, Ac = some g ∧ hs[i]? = some x ∧ x.cls ≤ 3 ∧ W.cell? (g.add i) = some (.int .i64 (x.cls : Int)) by
    have hi' : i < cls.length := by omega
    have hi2 : i < hs.length := by omega
    obtain ⟨g, e, q⟩ := (hsl.below hb).at_ (i := i) (by rw [List.length_map]; exact hi')
    refine ⟨g, hs[i], e, List.getElem?_eq_getElem hi2, (h.lens _ (List.getElem_mem hi2)).2, ?_⟩
    rw [q, List.getElem_map]
    have : cls[i] = (hs[i]).cls := by simp [hI.cls]
    rw [this]
    rfl))
  have HC1 := Lib.hid (fun (W : World) (hb : Below w.heap.size w W) => (show W.cell? ⟨gw, 1, none⟩ = some (.slice Ac n cc) by
    have := (hW.below hb).row.cell 1
    rw [hlen, ← hn] at this
    simpa using this))
  have HSL := Lib.hid (fun (W : World) (hb : Below w.heap.size w W) => (show Calls Tryz.prog 43 #[.pointer (some ⟨y.gs, 0, none⟩)] W fun e w' => e = .returned (.int .i64 (n : Int)) ∧ W = w' by
    have := slabs_at (h.below hb)
    rwa [← hn] at this))
  have HUS := Lib.hid (fun (W : World) (hb : Below w.heap.size w W) => used_any (h.below hb) ok (R.1.below hb))
  have HUR := Lib.hid (fun (W : World) (hb : Below w.heap.size w W) => by
    have := r6Used_any (hW.below hb) hL hI.nd h0
    rw [used_same ok hm hI] at this
    exact this)
  have hul : (usedL hs).length ≤ 1000000000 := by
    have := usedL_len (hs := hs) (fun x hx => (h.lens x hx).1)
    omega
  have HUL := Lib.hid hul
  have HCL := Lib.hid (fun (W : World) (hb : Below w.heap.size w W) (i : Nat) (x : Hd) (hx : hs[i]? = some x) => class_at (h.below hb) hx)
  have HRM := Lib.hid (fun (W : World) (hb : Below w.heap.size w W) (c : Nat) (h1 : 1 ≤ c) (h3 : c ≤ 3) => (room_any (h.below hb) (R.below hb) h1 h3).mono (R' := fun e w' => e = .returned (jv (roomS hs fs c hs.length)) ∧ Below W.heap.size W w') (by rintro e w' ⟨rfl, hg⟩; exact ⟨rfl, hg.all⟩))
  have HRR := Lib.hid (fun (W : World) (hb : Below w.heap.size w W) (c : Nat) (h1 : 1 ≤ c) (h3 : c ≤ 3) => (show Calls Tryz.prog 25 #[fpt gw, jv c] W fun e w' => e = .returned (jv (roomS hs fs c hs.length)) ∧ W = w' by
    have := r6Room_any (hW.below hb) (by omega) (by omega) (fun x hx => by have := hcl3 x hx; omega) ⟨h1, h3⟩
    rw [hlen, ← room_same ok hm fo hI h1] at this
    exact this))
  have HIS := Lib.hid (fun (W : World) (hb : Below w.heap.size w W) (a : Nat) => is_any (h.below hb) ok (R.1.below hb) a)
  have HIR := Lib.hid (fun (W : World) (hb : Below w.heap.size w W) (a : Nat) => r6Is_any (hW.below hb) (by omega) a)
  have HAT := Lib.hid hI.at_
  have HBK := Lib.hid (fun (c : Nat) (W : World) => (show Calls Tryz.prog 23 #[.int .i64 (c : Int)] W fun e w' => e = .returned (.int .i64 (blN c : Int)) ∧ W = w' by
    have := refBlocks_any (c : Int) W
    rwa [blN_C] at this))
  have HBL := Lib.hid (fun (i c j : Nat) (W : World) (h1 : 1 ≤ i ∧ i ≤ 64) (hj : j < blN c) => (show Calls Tryz.prog 42 #[.int .i64 (i : Int), .int .i64 (c : Int), .int .i64 (j : Int)] W fun e w' => e = .returned (.int .u64 (adr i c j : Int)) ∧ W = w' by
    have := refBlock_any (i : Int) (c : Int) (j : Int) W
    rw [adr_blk h1.1 h1.2 hj] at this
    exact this))
  have hn64 : n ≤ 64 := by omega
  have EGs := Lib.hid (enters_of Tryz.func43 (by kernel_rfl) rfl)
  have EGu := Lib.hid (enters_of Tryz.func44 (by kernel_rfl) rfl)
  have EGr := Lib.hid (enters_of Tryz.func24 (by kernel_rfl) rfl)
  have EGe := Lib.hid (enters_of Tryz.func28 (by kernel_rfl) rfl)
  have EGc := Lib.hid (enters_of Tryz.func12 (by kernel_rfl) rfl)
  have mixed : Tryz.prog.follows .mixedOrders = true := by kernel_rfl
  clear h R hW hI h0 hlen hm hcl3 hsl hul hL ok fo hn
  unfold fpt jv at *
  unfold wv at HIS HIR
  go_enter Tryz.func11, Tryz.ntmps11
  go_upto_region 1 with (fail)
  refine wp_region_noPanic ?_
  refine wp_region_held_drew (S := (fun WW => WW.cell? ⟨gw, 1, none⟩ = some (.slice Ac n cc))) (by kernel_rfl) (HC1.out _ (drew_below _)) (fun hHeld => ?_)
  refine wpAnyH_take (i := 0) (oi := ⟨some 10, _, _, _, _, _⟩) (v := .pointer (some ⟨y.gs, 0, none⟩)) rfl (by kernel_rfl) (by kernel_rfl) (by kernel_rfl) (fun _ _ _ h => h) (Or.inl ⟨by kernel_rfl, by intro WW hSw; skip; go_simp⟩) (by assumption) ?_
  (try simp only [Act.put, List.setIfInBounds_toArray, List.set_cons_zero, List.set_cons_succ])
  refine wpAnyH_take (i := 2) (oi := ⟨some 12, _, _, _, _, _⟩) (v := .pointer (some ⟨gw, 0, none⟩)) rfl (by kernel_rfl) (by kernel_rfl) (by kernel_rfl) (fun _ _ _ h => h) (Or.inl ⟨by kernel_rfl, by intro WW hSw; skip; go_simp⟩) (by assumption) ?_
  (try simp only [Act.put, List.setIfInBounds_toArray, List.set_cons_zero, List.set_cons_succ])
  refine wpAnyH_take (i := 3) (oi := ⟨some 13, _, _, _, _, _⟩) (v := .pointer (some ⟨gw, 0, none⟩)) rfl (by kernel_rfl) (by kernel_rfl) (by kernel_rfl) (fun _ _ _ h => h) (Or.inl ⟨by kernel_rfl, by intro WW hSw; skip; go_simp⟩) (by assumption) ?_
  (try simp only [Act.put, List.setIfInBounds_toArray, List.set_cons_zero, List.set_cons_succ])
  refine wpAnyH_take (i := 4) (oi := ⟨some 14, _, _, _, _, _⟩) (v := .pointer (some ⟨gw, 1, none⟩)) rfl (by kernel_rfl) (by kernel_rfl) (by kernel_rfl) (fun _ _ _ h => h) (Or.inl ⟨by kernel_rfl, by intro WW hSw; skip; go_simp⟩) (by assumption) ?_
  (try simp only [Act.put, List.setIfInBounds_toArray, List.set_cons_zero, List.set_cons_succ])
  refine wpAnyH_take (i := 5) (oi := ⟨some 15, _, _, _, _, _⟩) (v := .slice Ac n cc) rfl (by kernel_rfl) (by kernel_rfl) (by kernel_rfl) (fun _ _ _ h => h) (Or.inl ⟨by kernel_rfl, by intro WW hSw; skip; go_simp⟩) (by assumption) ?_
  (try simp only [Act.put, List.setIfInBounds_toArray, List.set_cons_zero, List.set_cons_succ])
  refine wpAnyH_take (i := 6) (oi := ⟨some 16, _, _, _, _, _⟩) (v := .int .i64 (n : Int)) rfl (by kernel_rfl) (by kernel_rfl) (by kernel_rfl) (fun _ _ _ h => h) (Or.inl ⟨by kernel_rfl, by intro WW hSw; skip; go_simp⟩) (by assumption) ?_
  (try simp only [Act.put, List.setIfInBounds_toArray, List.set_cons_zero, List.set_cons_succ])
  have z0 := Lib.hid (drew_below w)
  refine wpAnyH_one (i := 1) (oi := ⟨_, _, _, _, _, _⟩) rfl (by kernel_rfl) (fun K hK => ?_)
  refine step_calls (by rfl) 43 EGs.out [.tmp 10] _ rfl [.pointer (some ⟨y.gs, 0, none⟩)] rfl (HSL.out _ z0.out) ?_
  rintro e xx ⟨rfl, rfl⟩
  refine ⟨_, rfl, hK _ _ hHeld (fun _ => ?_)⟩
  clear hK K
  (try simp only [Act.put, List.setIfInBounds_toArray, List.set_cons_zero, List.set_cons_succ])
  refine wpAnyH_take (i := 7) (oi := ⟨some 17, _, _, _, _, _⟩) (v := .bool false) rfl (by kernel_rfl) (by kernel_rfl) (by kernel_rfl) (fun _ _ _ h => h) (Or.inl ⟨by kernel_rfl, by intro WW hSw; skip; go_simp⟩) (by assumption) ?_
  (try simp only [Act.put, List.setIfInBounds_toArray, List.set_cons_zero, List.set_cons_succ])
  refine wpAnyH_take (i := 8) (oi := ⟨some 18, _, _, _, _, _⟩) (v := .bool false) rfl (by kernel_rfl) (by kernel_rfl) (by kernel_rfl) (fun _ _ _ h => h) (Or.inl ⟨by kernel_rfl, by intro WW hSw; skip; go_simp⟩) (by assumption) ?_
  (try simp only [Act.put, List.setIfInBounds_toArray, List.set_cons_zero, List.set_cons_succ])
  refine wpAnyH_take (i := 9) (oi := ⟨some 19, _, _, _, _, _⟩) (v := .pointer (some ⟨y.gs, 0, none⟩)) rfl (by kernel_rfl) (by kernel_rfl) (by kernel_rfl) (fun _ _ _ h => h) (Or.inl ⟨by kernel_rfl, by intro WW hSw; skip; go_simp⟩) (by assumption) ?_
  (try simp only [Act.put, List.setIfInBounds_toArray, List.set_cons_zero, List.set_cons_succ])
  refine wpAnyH_take (i := 11) (oi := ⟨some 21, _, _, _, _, _⟩) (v := .pointer (some ⟨gw, 0, none⟩)) rfl (by kernel_rfl) (by kernel_rfl) (by kernel_rfl) (fun _ _ _ h => h) (Or.inl ⟨by kernel_rfl, by intro WW hSw; skip; go_simp⟩) (by assumption) ?_
  (try simp only [Act.put, List.setIfInBounds_toArray, List.set_cons_zero, List.set_cons_succ])
  refine wpAnyH_one (i := 10) (oi := ⟨_, _, _, _, _, _⟩) rfl (by kernel_rfl) (fun K hK => ?_)
  refine step_calls (by rfl) 44 EGu.out [.tmp 19] _ rfl [.pointer (some ⟨y.gs, 0, none⟩)] rfl (HUS.out _ z0.out) ?_
  rintro e x1 ⟨v1, rfl, o1, b1⟩
  have z1 := Lib.hid (Below.and z0.out b1)
  have O1 := Lib.hid o1
  refine ⟨_, rfl, hK _ _ (HC1.out _ z1.out) (fun _ => ?_)⟩
  clear hHeld
  have hHeld := HC1.out _ z1.out
  clear hK K o1 b1
  (try simp only [Act.put, List.setIfInBounds_toArray, List.set_cons_zero, List.set_cons_succ])
  refine wpAnyH_one (i := 12) (oi := ⟨_, _, _, _, _, _⟩) rfl (by kernel_rfl) (fun K hK => ?_)
  refine step_calls (by rfl) 24 EGr.out [.tmp 21] _ rfl [.pointer (some ⟨gw, 0, none⟩)] rfl (HUR.out _ z1.out) ?_
  rintro e x2 ⟨v2, rfl, o2, b2⟩
  have z2 := Lib.hid (Below.and z1.out b2)
  have O2 := Lib.hid o2
  have O12 := Lib.hid (own_low (C := w.drew.heap.size) O1.out b2)
  refine ⟨_, rfl, hK _ _ (HC1.out _ z2.out) (fun _ => ?_)⟩
  clear hHeld
  have hHeld := HC1.out _ z2.out
  clear hK K o2 b2
  (try simp only [Act.put, List.setIfInBounds_toArray, List.set_cons_zero, List.set_cons_succ])
  refine wpAnyH_one (i := 13) (oi := ⟨_, _, _, _, _, _⟩) rfl (by kernel_rfl) (fun K hK => ?_)
  refine step_calls (by rfl) 28 EGe.out [.tmp 20, .tmp 22] _ rfl [v1, v2] rfl (r5Same_own O12.out O2.out HUL.out) ?_
  rintro e x3 ⟨rfl, b3⟩
  have z3 := Lib.hid (Below.and z2.out b3)
  refine ⟨_, rfl, hK _ _ (HC1.out _ z3.out) (fun _ => ?_)⟩
  clear hHeld
  have hHeld := HC1.out _ z3.out
  clear hK K b3 O1 O2 O12
  (try simp only [Act.put, List.setIfInBounds_toArray, List.set_cons_zero, List.set_cons_succ])
  refine wpAnyH_take (i := 14) (oi := ⟨some 24, _, _, _, _, _⟩) (v := .bool false) rfl (by kernel_rfl) (by kernel_rfl) (by kernel_rfl) (fun _ _ _ h => h) (Or.inl ⟨by kernel_rfl, by intro WW hSw; skip; go_simp⟩) (by assumption) ?_
  (try simp only [Act.put, List.setIfInBounds_toArray, List.set_cons_zero, List.set_cons_succ])
  refine wpAnyH_take (i := 15) (oi := ⟨some 25, _, _, _, _, _⟩) (v := .bool false) rfl (by kernel_rfl) (by kernel_rfl) (by kernel_rfl) (fun _ _ _ h => h) (Or.inl ⟨by kernel_rfl, by intro WW hSw; skip; go_simp⟩) (by assumption) ?_
  (try simp only [Act.put, List.setIfInBounds_toArray, List.set_cons_zero, List.set_cons_succ])
  refine wpAnyH_done (by kernel_rfl) ?_ _
  unfold NoPanic
  clear hHeld
  clear z0 z1 z2
  go_wp2
  go_loopg [5] n (fun k v wr => ∃ i : Nat, v = .int .i64 ((i : Int) + 1) ∧ i ≤ n ∧ n - i ≤ k ∧ Below w.heap.size w wr)
  case atStart => exact ⟨0, rfl, by omega, by omega, z3.out⟩
  case round =>
    obtain ⟨i, rfl, hin, hk, hlow⟩ := hrel
    rename World => wr
    have HLW := Lib.hid hlow
    have c1 := HC1.out wr hlow
    clear hlow z3
    obtain ⟨i1, hi1⟩ : ∃ i1, i1 = i + 1 := ⟨_, rfl⟩
    have hi1I : ((i : Int) + 1) = (i1 : Int) := by omega
    rw [hi1I]
    have HI1 := Lib.hid hi1
    by_cases hlt : i < n
    · have hi1n : i1 ≤ n := by omega
      have hsub : (i1 : Int) - 1 = (i : Int) := by omega
      have hwi : IntKind.i64.wrap (i : Int) = (i : Int) := by rw [IntKind.wrap_i64]; omega
      obtain ⟨g, x, hAc, hx, hx3, _⟩ := HCELL.out wr HLW.out i hlt
      subst hAc
      have HX := Lib.hid hx
      have HS6 := Lib.hid (fun (W : World) (hb : Below w.heap.size w W) => (show (fun WW => WW.cell? ⟨gw, 1, none⟩ = some (.slice (some g) n cc) ∧ WW.cell? (g.add i) = some (.int .i64 (x.cls : Int))) W by
        obtain ⟨g2, x2, e2, hx2, _, q2⟩ := HCELL.out W hb i hlt
        cases e2
        rw [HX.out] at hx2
        cases hx2
        exact ⟨HC1.out W hb, q2⟩))
      have z0 := Lib.hid (belowT6 HLW.out (drew_below wr))
      have HCLI := Lib.hid (by
        have := HCL.out _ z0.out i x HX.out
        rw [hi1I] at this
        exact this)
      clear hx hi1 hi1I
      go_upto_region 6 with (fail)
      refine wp_region_noPanic ?_
      refine wp_region_held_drew (S := (fun WW => WW.cell? ⟨gw, 1, none⟩ = some (.slice (some g) n cc) ∧ WW.cell? (g.add i) = some (.int .i64 (x.cls : Int)))) (by kernel_rfl) (HS6.out _ z0.out) (fun hHeld => ?_)
      refine wpAnyH_take (i := 0) (oi := ⟨some 35, _, _, _, _, _⟩) (v := .pointer (some ⟨y.gs, 0, none⟩)) rfl (by kernel_rfl) (by kernel_rfl) (by kernel_rfl) (fun _ _ _ h => h) (Or.inl ⟨by kernel_rfl, by intro WW hSw; obtain ⟨s0, s1⟩ := hSw; go_simp⟩) (by assumption) ?_
      (try simp only [Act.put, List.setIfInBounds_toArray, List.set_cons_zero, List.set_cons_succ])
      refine wpAnyH_take (i := 1) (oi := ⟨some 36, _, _, _, _, _⟩) (v := .int .i64 (i1 : Int)) rfl (by kernel_rfl) (by kernel_rfl) (by kernel_rfl) (fun _ _ _ h => h) (Or.inl ⟨by kernel_rfl, by intro WW hSw; obtain ⟨s0, s1⟩ := hSw; go_simp⟩) (by assumption) ?_
      (try simp only [Act.put, List.setIfInBounds_toArray, List.set_cons_zero, List.set_cons_succ])
      refine wpAnyH_take (i := 3) (oi := ⟨some 38, _, _, _, _, _⟩) (v := .pointer (some ⟨gw, 0, none⟩)) rfl (by kernel_rfl) (by kernel_rfl) (by kernel_rfl) (fun _ _ _ h => h) (Or.inl ⟨by kernel_rfl, by intro WW hSw; obtain ⟨s0, s1⟩ := hSw; go_simp⟩) (by assumption) ?_
      (try simp only [Act.put, List.setIfInBounds_toArray, List.set_cons_zero, List.set_cons_succ])
      refine wpAnyH_take (i := 4) (oi := ⟨some 39, _, _, _, _, _⟩) (v := .pointer (some ⟨gw, 0, none⟩)) rfl (by kernel_rfl) (by kernel_rfl) (by kernel_rfl) (fun _ _ _ h => h) (Or.inl ⟨by kernel_rfl, by intro WW hSw; obtain ⟨s0, s1⟩ := hSw; go_simp⟩) (by assumption) ?_
      (try simp only [Act.put, List.setIfInBounds_toArray, List.set_cons_zero, List.set_cons_succ])
      refine wpAnyH_take (i := 5) (oi := ⟨some 40, _, _, _, _, _⟩) (v := .pointer (some ⟨gw, 1, none⟩)) rfl (by kernel_rfl) (by kernel_rfl) (by kernel_rfl) (fun _ _ _ h => h) (Or.inl ⟨by kernel_rfl, by intro WW hSw; obtain ⟨s0, s1⟩ := hSw; go_simp⟩) (by assumption) ?_
      (try simp only [Act.put, List.setIfInBounds_toArray, List.set_cons_zero, List.set_cons_succ])
      refine wpAnyH_take (i := 6) (oi := ⟨some 41, _, _, _, _, _⟩) (v := .slice (some g) n cc) rfl (by kernel_rfl) (by kernel_rfl) (by kernel_rfl) (fun _ _ _ h => h) (Or.inl ⟨by kernel_rfl, by intro WW hSw; obtain ⟨s0, s1⟩ := hSw; go_simp⟩) (by assumption) ?_
      (try simp only [Act.put, List.setIfInBounds_toArray, List.set_cons_zero, List.set_cons_succ])
      refine wpAnyH_take (i := 7) (oi := ⟨some 42, _, _, _, _, _⟩) (v := .int .i64 (i1 : Int)) rfl (by kernel_rfl) (by kernel_rfl) (by kernel_rfl) (fun _ _ _ h => h) (Or.inl ⟨by kernel_rfl, by intro WW hSw; obtain ⟨s0, s1⟩ := hSw; go_simp⟩) (by assumption) ?_
      (try simp only [Act.put, List.setIfInBounds_toArray, List.set_cons_zero, List.set_cons_succ])
      refine wpAnyH_take (i := 8) (oi := ⟨some 43, _, _, _, _, _⟩) (v := .int .i64 (i : Int)) rfl (by kernel_rfl) (by kernel_rfl) (by kernel_rfl) (fun _ _ _ h => h) (Or.inl ⟨by kernel_rfl, by intro WW hSw; obtain ⟨s0, s1⟩ := hSw; go_simp⟩) (by assumption) ?_
      (try simp only [Act.put, List.setIfInBounds_toArray, List.set_cons_zero, List.set_cons_succ])
      refine wpAnyH_take (i := 9) (oi := ⟨some 44, _, _, _, _, _⟩) (v := .pointer (some (g.add i))) rfl (by kernel_rfl) (by kernel_rfl) (by kernel_rfl) (fun _ _ _ h => h) (Or.inl ⟨by kernel_rfl, by intro WW hSw; obtain ⟨s0, s1⟩ := hSw; go_simp⟩) (by assumption) ?_
      (try simp only [Act.put, List.setIfInBounds_toArray, List.set_cons_zero, List.set_cons_succ])
      refine wpAnyH_take (i := 10) (oi := ⟨some 45, _, _, _, _, _⟩) (v := .int .i64 (x.cls : Int)) rfl (by kernel_rfl) (by kernel_rfl) (by kernel_rfl) (fun _ _ _ h => h) (Or.inl ⟨by kernel_rfl, by intro WW hSw; obtain ⟨s0, s1⟩ := hSw; go_simp⟩) (by assumption) ?_
      (try simp only [Act.put, List.setIfInBounds_toArray, List.set_cons_zero, List.set_cons_succ])
      refine wpAnyH_one (i := 2) (oi := ⟨_, _, _, _, _, _⟩) rfl (by kernel_rfl) (fun K hK => ?_)
      refine step_calls (by rfl) 12 EGc.out [.tmp 35, .tmp 36] _ rfl [.pointer (some ⟨y.gs, 0, none⟩), .int .i64 (i1 : Int)] rfl HCLI.out ?_
      rintro e xx ⟨rfl, rfl⟩
      refine ⟨_, rfl, hK _ _ hHeld (fun _ => ?_)⟩
      clear hK K
      (try simp only [Act.put, List.setIfInBounds_toArray, List.set_cons_zero, List.set_cons_succ])
      refine wpAnyH_take (i := 11) (oi := ⟨some 46, _, _, _, _, _⟩) (v := .bool false) rfl (by kernel_rfl) (by kernel_rfl) (by kernel_rfl) (fun _ _ _ h => h) (Or.inl ⟨by kernel_rfl, by intro WW hSw; obtain ⟨s0, s1⟩ := hSw; go_simp⟩) (by assumption) ?_
      (try simp only [Act.put, List.setIfInBounds_toArray, List.set_cons_zero, List.set_cons_succ])
      refine wpAnyH_done (by kernel_rfl) ?_ _
      unfold NoPanic
      clear hHeld
      go_wp2
      go_roundg (n - (i + 1))
      case measure => omega
      case rel => exact ⟨i + 1, by have := HI1.out; congr 1; omega, by omega, by omega, z0.out⟩
    · have hi1n : ¬ i1 ≤ n := by omega
      clear hi1 hi1I
      go_wp2
      go_loopg [6] 4 (fun k v wr => ∃ c : Nat, v = .int .i64 (c : Int) ∧ 1 ≤ c ∧ c ≤ 4 ∧ 4 - c ≤ k ∧ Below w.heap.size w wr)
      case atStart => exact ⟨1, rfl, by omega, by omega, by omega, HLW.out⟩
      case round =>
        obtain ⟨c, rfl, hc1, hc4, hk2, hlow⟩ := hrel
        rename World => wc
        have HLC := Lib.hid hlow
        clear hlow HLW c1
        by_cases hc3 : c ≤ 3
        · have hc3I : decide ((c : Int) ≤ 3) = true := by simp; omega
          have HR1 := Lib.hid (HRM.out wc HLC.out c hc1 hc3)
          obtain ⟨rm, hrm⟩ : ∃ rm, rm = roomS hs fs c hs.length := ⟨_, rfl⟩
          rw [← hrm] at HR1
          have hne : ((rm : Int) != (rm : Int)) = false := by simp
          go_wp2_with fail
          refine HR1.out.mono ?_
          rintro e w3 ⟨rfl, hb3⟩
          have HL3 := Lib.hid (belowT6 HLC.out hb3)
          have HR2 := Lib.hid (HRR.out w3 HL3.out c hc1 hc3)
          rw [← hrm] at HR2
          clear hb3 hrm HR1
          go_wp2_with fail
          refine HR2.out.mono ?_
          rintro e w4 ⟨rfl, rfl⟩
          go_wp2
          go_loopg [7] n (fun k v wr => ∃ i : Nat, v = .int .i64 ((i : Int) + 1) ∧ i ≤ n ∧ n - i ≤ k ∧ Below w.heap.size w wr)
          case atStart => exact ⟨0, rfl, by omega, by omega, HL3.out⟩
          case round =>
            obtain ⟨i2, rfl, hin2, hk3, hlow⟩ := hrel
            rename World => wd
            have HLD := Lib.hid hlow
            have d1 := HC1.out wd hlow
            clear hlow HL3 HR2
            obtain ⟨i3, hi3⟩ : ∃ i3, i3 = i2 + 1 := ⟨_, rfl⟩
            have hi3I : ((i2 : Int) + 1) = (i3 : Int) := by omega
            rw [hi3I]
            have HI3 := Lib.hid hi3
            by_cases hlt2 : i2 < n
            · have hi3n : i3 ≤ n := by omega
              have hsub2 : (i3 : Int) - 1 = (i2 : Int) := by omega
              have hi3b : 1 ≤ i3 ∧ i3 ≤ 64 := by omega
              obtain ⟨b, hb⟩ : ∃ b, b = blN c := ⟨_, rfl⟩
              have hb15 : b ≤ 15 := by rw [hb]; exact blN_le c
              have HBB := Lib.hid hb
              have HBKc := Lib.hid (fun W => HBK.out c W)
              rw [← hb] at HBKc
              clear hi3 hi3I hb
              go_wp2
              go_loopg [8] b (fun k v wr => ∃ j : Nat, v = .int .i64 (j : Int) ∧ j ≤ b ∧ b - j ≤ k ∧ Below w.heap.size w wr)
              case atStart => exact ⟨0, rfl, by omega, by omega, HLD.out⟩
              case round =>
                obtain ⟨j, rfl, hjb, hk4, hlow⟩ := hrel
                rename World => we
                have HLE := Lib.hid hlow
                have e1 := HC1.out we hlow
                obtain ⟨g2, x2, hA2, hx2, hx23, q2⟩ := HCELL.out we hlow i2 hlt2
                subst hA2
                clear hlow HLD d1
                go_wp2_with fail
                refine (HBKc.out we).mono ?_
                rintro e w5 ⟨rfl, rfl⟩
                by_cases hltj : j < b
                · have hltJ : decide ((j : Int) < (b : Int)) = true := by simp; omega
                  by_cases hxc : x2.cls = c
                  · have ec : ((x2.cls : Int) == (c : Int)) = true := by simp; omega
                    clear hxc
                    have HB2 := Lib.hid (HBL.out i3 c j we hi3b (by rw [← HBB.out]; exact hltj))
                    obtain ⟨ad, had⟩ : ∃ ad, ad = adr i3 c j := ⟨_, rfl⟩
                    rw [← had] at HB2
                    clear had
                    go_wp2_with fail
                    refine HB2.out.mono ?_
                    rintro e w5 ⟨rfl, rfl⟩
                    go_wp2_with fail
                    refine (HIS.out we HLE.out ad).mono ?_
                    rintro e w6 ⟨⟨v, hv, rfl⟩, hb6⟩
                    have HL6 := Lib.hid (belowT6 HLE.out hb6)
                    have HV := Lib.hid (HAT.out ad v hv)
                    have HI6 := Lib.hid (HIR.out w6 HL6.out ad)
                    rw [HV.out] at HI6
                    unfold jv at *
                    have hvv : ((v : Int) != (v : Int)) = false := by simp
                    clear hv hb6
                    go_wp2_with fail
                    refine HI6.out.mono ?_
                    rintro e w7 ⟨rfl, rfl⟩
                    go_wp2
                    go_roundg (b - (j + 1))
                    case measure => omega
                    case rel => exact ⟨j + 1, by go_num, by omega, by omega, HL6.out⟩
                  · have ec : ((x2.cls : Int) == (c : Int)) = false := by simp; omega
                    clear hxc
                    go_wp2
                    go_roundg (n - (i2 + 1))
                    case measure => omega
                    case rel => exact ⟨i2 + 1, by have := HI3.out; congr 1; omega, by omega, by omega, HLE.out⟩
                · have hltJ : decide ((j : Int) < (b : Int)) = false := by simp; omega
                  have hje : ¬ j < b := hltj
                  go_wp2
                  go_roundg (n - (i2 + 1))
                  case measure => omega
                  case rel => exact ⟨i2 + 1, by have := HI3.out; congr 1; omega, by omega, by omega, HLE.out⟩
            · have hi3n : ¬ i3 ≤ n := by omega
              clear hi3 hi3I
              go_wp2
              go_roundg (4 - (c + 1))
              case measure => omega
              case rel => exact ⟨c + 1, by go_num, by omega, by omega, by omega, HLD.out⟩
        · have hc3I : decide ((c : Int) ≤ 3) = false := by simp; omega
          go_wp2
          go_ret
          exact ⟨rfl, HLC.out⟩
end Go.Proofs.YtahojhaeebmpoaaGreatDoor
/- Set of the document's blocks. -/
namespace Go.Proofs.YtahojhaeebmpoaaGreatDoor
open Go Go.RowKit
set_option linter.unusedVariables false
theorem own_less {w : World} {B C n k : Nat} {e : TypeId} {v : Value} {xs : List Value} (h : w.ownsRow C e k v n xs) (hB : B ≤ C) : w.ownsRow B e k v n xs := by
  refine ⟨h.1, ?_⟩
  rcases h.2 with h0 | ⟨g, cap, cur, rfl, hg, r⟩
  · exact .inl h0
  · exact .inr ⟨g, cap, cur, rfl, Nat.le_trans hB hg, r⟩
/-- A cell of the list, in any world that keeps what lies in it. -/
theorem W6At.blk {w : World} {B gw size n cap : Nat} {cls : List Nat} {L : List (Nat × Nat)} {vc : Value} {A : Option Addr} (h : W6At w B gw size cls L vc (.slice A n cap)) {i : Nat} {p : Nat × Nat} (hp : L[i]? = some p) :
    ∃ g, A = some ⟨g, 0, none⟩ ∧ w.cell? ⟨g, i * 2, none⟩ = some (wv p.1) ∧ w.cell? ⟨g, i * 2 + 1, none⟩ = some (jv p.2) := by
  obtain ⟨q1, q2⟩ := flatB_get L i p hp
  have hi := (List.getElem?_eq_some_iff.1 hp).1
  rcases h.bl.2 with ⟨_, h0⟩ | ⟨g, cap', cur, h0, _, hh, _, _, _, ht⟩
  · omega
  · simp only [Value.slice.injEq] at h0
    have hrow : Row w g 99 cur := hh
    refine ⟨g, h0.1, ?_, ?_⟩
    · rw [hrow.cell, ← Array.getElem?_toList]
      rw [← ht, List.getElem?_take] at q1
      split at q1
      · exact q1
      · cases q1
    · rw [hrow.cell, ← Array.getElem?_toList]
      rw [← ht, List.getElem?_take] at q2
      split at q2
      · exact q2
      · cases q2
theorem W6At.putL {w W1 : World} {B gw size : Nat} {cls : List Nat} {L L' : List (Nat × Nat)} {vc vl vl' : Value} (h : W6At w B gw size cls L vc vl) (hb : Below w.heap.size w W1) (hB : B ≤ w.heap.size) (ho : W1.ownsRow w.heap.size 99 2 vl' L'.length (flatB L')) :
    W6At (W1.setCell ⟨gw, 2, none⟩ vl') B gw size cls L' vc vl' := by
  have hr := h.row.below hb h.row.lt
  have hc := own_low (C := 0) h.cls hb
  exact ⟨hr.set 2 _, own_setc hc _ (fun g hg => tagNe (own_tag hc hg) hr.tag (by decide)), own_setc (own_less ho hB) _ (fun g hg => tagNe (own_tag ho hg) hr.tag (by decide)), h.low⟩
def keepL (L : List (Nat × Nat)) (a i : Nat) : List (Nat × Nat) := (L.take i).filter (fun p => decide (p.1 ≠ a))
theorem keepL_next {L : List (Nat × Nat)} {a i : Nat} {p : Nat × Nat} (hp : L[i]? = some p) : keepL L a (i + 1) = keepL L a i ++ (if p.1 = a then [] else [p]) := by
  unfold keepL
  rw [List.take_add_one, List.filter_append, hp]
  by_cases h : p.1 = a <;> simp [h]
theorem keepL_len (L : List (Nat × Nat)) (a i : Nat) : (keepL L a i).length ≤ L.length := by
  unfold keepL
  have h1 := List.length_filter_le (fun p : Nat × Nat => decide (p.1 ≠ a)) (L.take i)
  have h2 : (L.take i).length ≤ L.length := by rw [List.length_take]; omega
  omega
theorem own_at6 {w : World} {B n : Nat} {v : Value} {xs : List Value} (h : w.ownsRow B 99 2 v n xs) : ∃ A c, v = .slice A n c := by
  rcases h.2 with ⟨rfl, h0⟩ | ⟨g, cap', cur, rfl, _⟩
  · exact ⟨_, _, by rw [h0]⟩
  · exact ⟨_, _, rfl⟩
set_option maxRecDepth 100000 in
set_option maxHeartbeats 3200000 in
theorem r6Set_any {w : World} {B gw size : Nat} {cls : List Nat} {L : List (Nat × Nat)} {vc vl : Value} (h : W6At w B gw size cls L vc vl) (hL : L.length ≤ 1000000) (hB : B ≤ w.heap.size) (a v : Nat) :
    Calls Tryz.prog 52 #[fpt gw, wv a, jv v] w fun e w' => ∃ vl' W1, e = .returned (.tuple #[]) ∧ W6At w' B gw size cls (setL L a v) vc vl' ∧ Below w.heap.size w W1 ∧ w' = W1.setCell ⟨gw, 2, none⟩ vl' := by
  obtain ⟨A, cap, rfl⟩ := own_at6 h.bl
  obtain ⟨n, hn⟩ : ∃ n, n = L.length := ⟨_, rfl⟩
  rw [← hn] at h hL
  obtain ⟨j0, hj, hy0, hy1, hy2⟩ := info_parts info_block6
  have HN := Lib.hid hn
  have HH := Lib.hid h
  have HBB := Lib.hid hB
  have HC2 := Lib.hid (fun (W : World) (hb : Below w.heap.size w W) => (show W.cell? ⟨gw, 2, none⟩ = some (.slice A n cap) by
    have c2 := (h.below hb).row.cell 2
    simp only [List.getElem?_toArray, List.getElem?_cons_succ, List.getElem?_cons_zero] at c2
    exact c2))
  have HBK := Lib.hid (fun (W : World) (hb : Below w.heap.size w W) (i : Nat) (p : Nat × Nat) (hp : L[i]? = some p) => (h.below hb).blk hp)
  have F2 := fun (W : World) (hb : Below w.heap.size w W) => (h.below hb).row.free 2
  have HF2 := Lib.hid F2
  have HKL := Lib.hid (fun i => keepL_len L a i)
  unfold wv jv at HBK
  clear h hn hB F2
  unfold fpt wv jv
  go_enter Tryz.func52, Tryz.ntmps52
  go_wp2
  go_loopw [6, 7] (fun u z wr => ∃ i : Nat, i ≤ n ∧ z = .int .i64 (i : Int) ∧ wr.ownsRow w.heap.size 99 2 u (keepL L a i).length (flatB (keepL L a i)) ∧ Below w.heap.size w wr) (fun _ z _ => n - (intOf z).toNat)
  case atStart => exact ⟨0, Nat.zero_le _, rfl, World.ownsRow_nil _ _ _ _, Below.refl _ _⟩
  case round =>
    obtain ⟨i, hin, rfl, hown, hlow⟩ := hrel
    rename World => wr
    have c2 := HC2.out wr hlow
    obtain ⟨Ao, co, rfl⟩ := own_at6 hown
    obtain ⟨m, hm⟩ : ∃ m, m = (keepL L a i).length := ⟨_, rfl⟩
    rw [← hm] at hown ⊢
    have hmn : m ≤ n := by rw [hm, HN.out]; exact HKL.out i
    have HM := Lib.hid hm
    have HO := Lib.hid hown
    have HLW := Lib.hid hlow
    clear hown hlow hm
    by_cases hlt : i < n
    · obtain ⟨p, hp⟩ : ∃ p, L[i]? = some p := ⟨_, List.getElem?_eq_getElem (by rw [← HN.out]; exact hlt)⟩
      obtain ⟨g, rfl, q1, q2⟩ := HBK.out wr HLW.out i p hp
      have HNX := Lib.hid (keepL_next (a := a) hp)
      clear hp
      by_cases he : p.1 = a
      · have heb : ((p.1 : Int) != (a : Int)) = false := by simp; omega
        have HNX2 := Lib.hid (show keepL L a (i + 1) = keepL L a i by rw [HNX.out, if_pos he, List.append_nil])
        clear he
        go_wp2
        go_roundw
        case rel => exact ⟨i + 1, by omega, by go_num, by rw [HNX2.out, ← HM.out]; exact HO.out, HLW.out⟩
        case measure => simp [intOf]; omega
      · have heb : ((p.1 : Int) != (a : Int)) = true := by simp; omega
        have HNX2 := Lib.hid (show keepL L a (i + 1) = keepL L a i ++ [p] by rw [HNX.out, if_neg he])
        clear he
        go_wp2_with (at_builtin; refine wpList_append_lies _ rfl _ _ 67 rfl w.heap.size 99 j0 (.agg #[.int .u64 0, .int .i64 0]) 2 16 Tryz.underlying67 hj hy0 hy1 hy2 rfl (by decide) _ _ _ rfl (own_low (C := 0) HO.out (alloc_below wr _)) ⟨wr.heap.size, 0, none⟩ 1 1 [wv p.1, jv p.2] rfl rfl (World.news_of_block (cs := #[wv p.1, jv p.2]) (t := 99) (fr := (0, 0)) (heap_alloc_new wr _)) (by intro u hu; simp at hu; rcases hu with rfl | rfl <;> rfl) (by decide) ?qc3 ?qc4 ?qc5 (wr.heap.size + 1) ?qc6 ?_)
        case qc3 => unfold maxLen; omega
        case qc4 => omega
        case qc5 => have := HLW.out.size; simp; omega
        case qc6 => simp
        intro g7 cap7 w1 hown hgrow hsm hlt7
        have HB1 := Lib.hid (show Below w.heap.size w w1 from (Below.and HLW.out (alloc_below wr _)).grown hgrow (by have := HLW.out.size; simp; omega) (fun k hk => own_base HO.out hk))
        have HO1 := Lib.hid (show w1.ownsRow w.heap.size 99 2 (.slice (some ⟨g7, 0, none⟩) (m + 1) cap7) (keepL L a (i + 1)).length (flatB (keepL L a (i + 1))) by
          rw [HNX2.out, flatB_snoc, List.length_append, ← HM.out]
          exact hown)
        clear hown hgrow hsm hlt7
        go_wp2
        go_roundw
        case rel => exact ⟨i + 1, by omega, by go_num, HO1.out, HB1.out⟩
        case measure => simp [intOf]; omega
    · obtain rfl : i = n := by omega
      have HALL := Lib.hid (show keepL L a i = L.filter (fun p => decide (p.1 ≠ a)) by unfold keepL; rw [HN.out, List.take_of_length_le (Nat.le_refl _)])
      by_cases hv : v = 0
      · subst hv
        have HE := Lib.hid (HH.out.putL HLW.out HBB.out (L' := setL L a 0) (vl' := .slice Ao m co) (by unfold setL; rw [if_pos rfl, List.append_nil, ← HALL.out, ← HM.out]; exact HO.out))
        have f2 := HF2.out wr HLW.out
        go_wp2
        refine bodyPost_end (results_none rfl _ _ _) rfl ?_
        exact ⟨_, _, rfl, HE.out, HLW.out, rfl⟩
      · have hvb : ((v : Int) != 0) = true := by simp; omega
        have HSL := Lib.hid (show setL L a v = keepL L a i ++ [(a, v)] by unfold setL; rw [if_neg hv, HALL.out])
        clear hv
        go_wp2_with (at_builtin; refine wpList_append_lies _ rfl _ _ 67 rfl w.heap.size 99 j0 (.agg #[.int .u64 0, .int .i64 0]) 2 16 Tryz.underlying67 hj hy0 hy1 hy2 rfl (by decide) _ _ _ rfl (own_low (C := 0) HO.out (alloc_below wr _)) ⟨wr.heap.size, 0, none⟩ 1 1 [wv a, jv v] rfl rfl (World.news_of_block (cs := #[wv a, jv v]) (t := 99) (fr := (0, 0)) (heap_alloc_new wr _)) (by intro u hu; simp at hu; rcases hu with rfl | rfl <;> rfl) (by decide) ?qc3 ?qc4 ?qc5 (wr.heap.size + 1) ?qc6 ?_)
        case qc3 => unfold maxLen; omega
        case qc4 => omega
        case qc5 => have := HLW.out.size; simp; omega
        case qc6 => simp
        intro g7 cap7 w1 hown hgrow hsm hlt7
        have HB1 := Lib.hid (show Below w.heap.size w w1 from (Below.and HLW.out (alloc_below wr _)).grown hgrow (by have := HLW.out.size; simp; omega) (fun k hk => own_base HO.out hk))
        have HE := Lib.hid (HH.out.putL HB1.out HBB.out (L' := setL L a v) (vl' := .slice (some ⟨g7, 0, none⟩) (m + 1) cap7) (by
          rw [HSL.out, flatB_snoc, List.length_append, ← HM.out]
          exact hown))
        have f2 := HF2.out w1 HB1.out
        have c3 := HC2.out w1 HB1.out
        clear hown hgrow hsm hlt7
        go_wp2
        refine bodyPost_end (results_none rfl _ _ _) rfl ?_
        exact ⟨_, _, rfl, HE.out, HB1.out, rfl⟩
end Go.Proofs.YtahojhaeebmpoaaGreatDoor
/- Reserve of the document's blocks; for at most a million blocks that are not free, at most sixty-four slabs. -/
namespace Go.Proofs.YtahojhaeebmpoaaGreatDoor
open Go Go.RowKit
set_option linter.unusedVariables false
/-- The block j of the slab p + 1 is free, by the document's list. -/
def FreeB6 (cls : List Nat) (L : List (Nat × Nat)) (c p j : Nat) : Prop := p < cls.length ∧ cls.getD p 0 = c ∧ j < blN c ∧ isL L (adr (p + 1) c j) = 0
def R6RP (w : World) (B gw size : Nat) (cls : List Nat) (L : List (Nat × Nat)) (vc : Value) (c : Nat) (e : Ending) (w' : World) : Prop :=
  (∃ p j vl', FreeB6 cls L c p j ∧ (∀ p' j', (p' < p ∨ p' = p ∧ j' < j) → ¬ FreeB6 cls L c p' j') ∧ e = .returned (.tuple #[wv (adr (p + 1) c j), jv 0]) ∧ W6At w' B gw size cls (setL L (adr (p + 1) c j) 1) vc vl' ∧ But w w' (fun q => q = gw ∨ vc.ownBlock = some q)) ∨
  ((∀ p j, ¬ FreeB6 cls L c p j) ∧ ∃ p vl', p < cls.length ∧ cls.getD p 0 = 0 ∧ (∀ p', p' < p → cls.getD p' 0 ≠ 0) ∧ e = .returned (.tuple #[wv (adr (p + 1) c 0), jv 0]) ∧ W6At w' B gw size (cls.set p c) (setL L (adr (p + 1) c 0) 1) vc vl' ∧ But w w' (fun q => q = gw ∨ vc.ownBlock = some q)) ∨
  ((∀ p j, ¬ FreeB6 cls L c p j) ∧ (∀ p, p < cls.length → cls.getD p 0 ≠ 0) ∧ e = .returned (.tuple #[wv 0, jv 4]) ∧ w = w')
theorem but_set6 {w W1 : World} {gw : Nat} {v : Value} {fp : Nat → Prop} (hb : Below w.heap.size w W1) (hgw : fp gw) : But w (W1.setCell ⟨gw, 2, none⟩ v) fp :=
  ⟨hb.os, hb.tape, hb.output, by have := hb.size; simpa [World.setCell] using this, fun q hq hn => by rw [heap_setCell_other _ _ _ _ (fun e => hn (by rw [e]; exact hgw))]; exact hb.block q hq⟩
set_option maxRecDepth 100000 in
set_option maxHeartbeats 4000000 in
theorem r6Res_any {w : World} {B gw size : Nat} {cls : List Nat} {L : List (Nat × Nat)} {vc vl : Value} (h : W6At w B gw size cls L vc vl) (hL : L.length ≤ 1000000) (hB : B ≤ w.heap.size) (hn64 : cls.length ≤ 64) (hcl : ∀ x ∈ cls, x ≤ 1000) {c : Nat} (hc : 1 ≤ c ∧ c ≤ 3) :
    Calls Tryz.prog 27 #[fpt gw, jv c] w (R6RP w B gw size cls L vc c) := by
  obtain ⟨A, cap, hv, _, _, hs, _⟩ := own_sl h.cls
  subst hv
  have HIS := Lib.hid (fun a => r6Is_any h hL a)
  have c1 := h.row.cell 1
  simp only [List.getElem?_toArray, List.getElem?_cons_succ, List.getElem?_cons_zero] at c1
  have HSET := Lib.hid (fun (p j : Nat) (hf : FreeB6 cls L c p j) (hmin : ∀ p' j', (p' < p ∨ p' = p ∧ j' < j) → ¬ FreeB6 cls L c p' j') => (show Calls Tryz.prog 52 #[fpt gw, wv (adr (p + 1) c j), jv 1] w fun e w' => e = .returned (.tuple #[]) ∧ R6RP w B gw size cls L (.slice A cls.length cap) c (.returned (.tuple #[wv (adr (p + 1) c j), jv 0])) w' by
    refine (r6Set_any h hL hB (adr (p + 1) c j) 1).mono ?_
    rintro e w' ⟨vl', W1, rfl, hw, hb, rfl⟩
    exact ⟨rfl, .inl ⟨p, j, vl', hf, hmin, rfl, hw, but_set6 hb (.inl rfl)⟩⟩))
  have HSET2 := Lib.hid (fun (hno : ∀ p j, ¬ FreeB6 cls L c p j) (p : Nat) (g : Addr) (hg : A = some g) (hp : p < cls.length) (h0 : cls.getD p 0 = 0) (hmin : ∀ p', p' < p → cls.getD p' 0 ≠ 0) => (show Calls Tryz.prog 52 #[fpt gw, wv (adr (p + 1) c 0), jv 1] (w.setCell (g.add p) (jv c)) fun e w' => e = .returned (.tuple #[]) ∧ R6RP w B gw size cls L (.slice A cls.length cap) c (.returned (.tuple #[wv (adr (p + 1) c 0), jv 0])) w' by
    have hcls := h.cls
    obtain ⟨gb, rfl⟩ : ∃ gb, g = ⟨gb, 0, none⟩ := by
      rcases hcls.2 with ⟨e0, _⟩ | ⟨gb, cp, cur, e0, _⟩
      · rw [hg] at e0; cases e0
      · rw [hg] at e0; cases e0; exact ⟨gb, rfl⟩
    subst hg
    have ead : (⟨gb, 0, none⟩ : Addr).add p = ⟨gb, p, none⟩ := by rw [Addr.add_lit, Nat.zero_add]
    rw [ead]
    have ht := own_tag hcls (g := gb) rfl
    have hw : W6At (w.setCell ⟨gb, p, none⟩ (jv c)) B gw size (cls.set p c) L (.slice (some ⟨gb, 0, none⟩) cls.length cap) vl := by
      refine ⟨h.row.other (p := ⟨gb, p, none⟩) (Ne.symm (tagNe ht h.row.tag (by decide))) _, ?_, own_setc h.bl _ (fun q hq => tagNe (own_tag h.bl hq) ht (by decide)), h.low⟩
      have := own_stored hcls p (jv c)
      rw [List.length_set, List.map_set]
      exact this
    have hsz : (w.setCell ⟨gb, p, none⟩ (jv c)).heap.size = w.heap.size := by simp [World.setCell]
    refine (r6Set_any hw hL (by rw [hsz]; exact hB) (adr (p + 1) c 0) 1).mono ?_
    rintro e w' ⟨vl', W1, rfl, hw', hb, rfl⟩
    refine ⟨rfl, .inr (.inl ⟨hno, p, vl', hp, h0, hmin, rfl, hw', ?_⟩)⟩
    have hb2 := but_set6 (v := vl') (fp := fun q => q = gw ∨ (Value.slice (some ⟨gb, 0, none⟩) cls.length cap).ownBlock = some q) hb (.inl rfl)
    refine ⟨hb2.os, hb2.tape, hb2.output, by have := hb2.size; rw [hsz] at this; exact this, fun q hq hn => ?_⟩
    rw [hb2.block q (by rw [hsz]; exact hq) hn]
    exact heap_setCell_other _ _ _ _ (fun e => hn (.inr (by rw [e]; rfl)))))
  obtain ⟨n, hn⟩ : ∃ n, n = cls.length := ⟨_, rfl⟩
  rw [← hn] at c1 hn64 HSET HSET2 ⊢
  have HN := Lib.hid hn
  have HCELL := Lib.hid (fun (i : Nat) (hi : i < n) => (show ∃ g x, A = some g ∧ cls.getD i 0 = x ∧ x ≤ 1000 ∧ w.cell? (g.add i) = some (.int .i64 (x : Int)) by
    have hi' : i < cls.length := by rw [← hn]; exact hi
    obtain ⟨g, e, q⟩ := hs.at_ (i := i) (by rw [List.length_map]; exact hi')
    refine ⟨g, cls[i], e, by rw [List.getD_eq_getElem?_getD, List.getElem?_eq_getElem hi']; rfl, hcl _ (List.getElem_mem hi'), ?_⟩
    rw [q, List.getElem_map]; rfl))
  have HFREE := Lib.hid (fun (i : Nat) (hi : i < n) => (show ∀ g x, A = some g → w.cell? (g.add i) = some x → w.frozen? (g.add i) = false from fun g x hg hx => by
    have hcls := h.cls
    rcases hcls.2 with ⟨e0, _⟩ | ⟨gb, cp, cur, e0, _, hh, _⟩
    · rw [hg] at e0; cases e0
    · rw [hg] at e0; cases e0
      have hrow : Row w gb 3 cur := hh
      have ead : (⟨gb, 0, none⟩ : Addr).add i = ⟨gb, i, none⟩ := by rw [Addr.add_lit, Nat.zero_add]
      rw [ead]
      exact hrow.free i))
  have HBK := Lib.hid (refBlocks_any (c : Int) w)
  rw [blN_C] at HBK
  have HBL := Lib.hid (fun (W : World) (i j : Nat) (h1 : 1 ≤ i ∧ i ≤ 64) (hj : j < blN c) => (show Calls Tryz.prog 42 #[.int .i64 (i : Int), .int .i64 (c : Int), .int .i64 (j : Int)] W fun e w' => e = .returned (.int .u64 (adr i c j : Int)) ∧ W = w' by
    have := refBlock_any (i : Int) (c : Int) (j : Int) W
    rw [adr_blk h1.1 h1.2 hj] at this
    exact this))
  obtain ⟨b, hb⟩ : ∃ b, b = blN c := ⟨_, rfl⟩
  have hb15 : b ≤ 15 := by rw [hb]; exact blN_le c
  have hb0 : 0 < b := by rw [hb]; unfold blN; split <;> (try split) <;> (try split) <;> omega
  rw [← hb] at HBK HBL
  have HBE := Lib.hid hb
  have HBL0 := Lib.hid (HBL.out w)
  have d1 : decide ((c : Int) < 1) = false := by simp; omega
  have d2 : decide (3 < (c : Int)) = false := by simp; omega
  clear h hs hn hb hcl hB
  unfold fpt jv at *
  unfold wv at HIS HSET HSET2
  go_enter Tryz.func27, Tryz.ntmps27
  go_wp2
  go_loopg [6] n (fun k v wr => ∃ i : Nat, v = .int .i64 ((i : Int) + 1) ∧ i ≤ n ∧ n - i ≤ k ∧ wr = w ∧ ∀ p j, p < i → ¬ FreeB6 cls L c p j)
  case atStart => exact ⟨0, rfl, by omega, by omega, rfl, fun p j hp => by omega⟩
  case round =>
    obtain ⟨i, rfl, hin, hk, rfl, hno⟩ := hrel
    have HNO := Lib.hid hno
    clear hno
    obtain ⟨i1, hi1⟩ : ∃ i1, i1 = i + 1 := ⟨_, rfl⟩
    have hi1I : ((i : Int) + 1) = (i1 : Int) := by omega
    rw [hi1I]
    have HI1 := Lib.hid hi1
    by_cases hlt : i < n
    · have hi1n : i1 ≤ n := by omega
      have hsub : (i1 : Int) - 1 = (i : Int) := by omega
      have hi1b : 1 ≤ i1 ∧ i1 ≤ 64 := by omega
      obtain ⟨g, x, hAg, hx, hx1000, q1⟩ := HCELL.out i hlt
      have HAG := Lib.hid hAg
      subst hAg
      have HX := Lib.hid hx
      clear hi1 hi1I hx
      go_wp2
      go_loopg [7] b (fun k v wr2 => ∃ j : Nat, v = .int .i64 (j : Int) ∧ j ≤ b ∧ b - j ≤ k ∧ wr2 = wr ∧ ∀ j', j' < j → ¬ FreeB6 cls L c i j')
      case atStart => exact ⟨0, rfl, by omega, by omega, rfl, fun j' hj => by omega⟩
      case round =>
        obtain ⟨j, rfl, hjb, hk2, rfl, hnj⟩ := hrel
        have HNJ := Lib.hid hnj
        clear hnj
        go_wp2_with fail
        refine HBK.out.mono ?_
        rintro e w1 ⟨rfl, rfl⟩
        by_cases hltj : j < b
        · have hltJ : decide ((j : Int) < (b : Int)) = true := by simp; omega
          by_cases hxc : x = c
          · have e1 : ((x : Int) == (c : Int)) = true := by simp; omega
            have HXC := Lib.hid hxc
            clear hxc
            have HB2 := Lib.hid (HBL0.out i1 j hi1b hltj)
            obtain ⟨ad, had⟩ : ∃ ad, ad = adr i1 c j := ⟨_, rfl⟩
            rw [← had] at HB2
            have HI2 := Lib.hid (HIS.out ad)
            obtain ⟨z, hz⟩ : ∃ z, z = isL L ad := ⟨_, rfl⟩
            rw [← hz] at HI2
            have HAD := Lib.hid had
            have HZ := Lib.hid hz
            clear had hz
            go_wp2_with fail
            refine HB2.out.mono ?_
            rintro e w1 ⟨rfl, rfl⟩
            go_wp2_with fail
            refine HI2.out.mono ?_
            rintro e w1 ⟨rfl, rfl⟩
            by_cases hz0 : z = 0
            · have e2 : ((z : Int) == 0) = true := by simp; omega
              have HF := Lib.hid (show FreeB6 cls L c i j from ⟨by rw [← HN.out]; exact hlt, by rw [HX.out]; exact HXC.out, by rw [← HBE.out]; exact hltj, by rw [← HI1.out, ← HAD.out, ← HZ.out]; exact hz0⟩)
              have HS := Lib.hid (HSET.out i j HF.out (fun p' j' h => by
                rcases h with h | ⟨rfl, h⟩
                · exact HNO.out p' j' h
                · exact HNJ.out j' h))
              rw [← HI1.out, ← HAD.out] at HS
              clear hz0
              go_wp2_with fail
              refine HS.out.mono ?_
              rintro e w2 ⟨rfl, hpost⟩
              have HP := Lib.hid hpost
              clear hpost
              go_wp2
              go_ret2
              exact HP.out
            · have e2 : ((z : Int) == 0) = false := by simp; omega
              have HZ0 := Lib.hid hz0
              clear hz0
              go_wp2
              go_roundg (b - (j + 1))
              case measure => omega
              case rel => exact ⟨j + 1, by go_num, by omega, by omega, rfl, fun j' hj' hf => by
                by_cases e : j' = j
                · subst e
                  have h4 := hf.2.2.2
                  rw [← HI1.out, ← HAD.out, ← HZ.out] at h4
                  exact HZ0.out h4
                · exact HNJ.out j' (by omega) hf⟩
          · have e1 : ((x : Int) == (c : Int)) = false := by simp; omega
            have HXC := Lib.hid hxc
            clear hxc
            go_wp2
            go_roundg (n - (i + 1))
            case measure => omega
            case rel => exact ⟨i + 1, by have := HI1.out; congr 1; omega, by omega, by omega, rfl, fun p j hp hf => by
              by_cases e : p = i
              · subst e
                exact HXC.out (by rw [← HX.out]; exact hf.2.1)
              · exact HNO.out p j (by omega) hf⟩
        · have hltJ : decide ((j : Int) < (b : Int)) = false := by simp; omega
          go_wp2
          go_roundg (n - (i + 1))
          case measure => omega
          case rel => exact ⟨i + 1, by have := HI1.out; congr 1; omega, by omega, by omega, rfl, fun p j2 hp hf => by
            by_cases e : p = i
            · subst e
              exact HNJ.out j2 (by have := hf.2.2.1; have := HBE.out; omega) hf
            · exact HNO.out p j2 (by omega) hf⟩
    · have hi1n : ¬ i1 ≤ n := by omega
      have HNONE := Lib.hid (show ∀ p j, ¬ FreeB6 cls L c p j from fun p j hf => HNO.out p j (by have := hf.1; have := HN.out; omega) hf)
      clear hi1 hi1I
      go_wp2
      go_loopg [9] n (fun k v wr2 => ∃ i : Nat, v = .int .i64 ((i : Int) + 1) ∧ i ≤ n ∧ n - i ≤ k ∧ wr2 = wr ∧ ∀ p, p < i → cls.getD p 0 ≠ 0)
      case atStart => exact ⟨0, rfl, by omega, by omega, rfl, fun p hp => by omega⟩
      case round =>
        obtain ⟨i2, rfl, hin2, hk2, rfl, hnz⟩ := hrel
        have HNZ := Lib.hid hnz
        clear hnz
        obtain ⟨i3, hi3⟩ : ∃ i3, i3 = i2 + 1 := ⟨_, rfl⟩
        have hi3I : ((i2 : Int) + 1) = (i3 : Int) := by omega
        rw [hi3I]
        have HI3 := Lib.hid hi3
        by_cases hlt2 : i2 < n
        · have hi3n : i3 ≤ n := by omega
          have hsub : (i3 : Int) - 1 = (i2 : Int) := by omega
          have hi3b : 1 ≤ i3 ∧ i3 ≤ 64 := by omega
          obtain ⟨g, x, hAg, hx, hx1000, q1⟩ := HCELL.out i2 hlt2
          have f1 := HFREE.out i2 hlt2 g _ hAg q1
          have HX := Lib.hid hx
          by_cases hx0 : x = 0
          · have e0 : ((x : Int) == 0) = true := by simp; omega
            have HS := Lib.hid (HSET2.out HNONE.out i2 g hAg hlt2 (by rw [HX.out]; exact hx0) HNZ.out)
            subst hAg
            have HB2 := Lib.hid (HBL.out (wr.setCell (g.add i2) (.int .i64 (c : Int))) i3 0 hi3b hb0)
            obtain ⟨ad, had⟩ : ∃ ad, ad = adr i3 c 0 := ⟨_, rfl⟩
            rw [← HI3.out, ← had] at HS
            rw [← had] at HB2
            rw [show ((0 : Nat) : Int) = 0 from rfl] at HB2
            clear hi3 hi3I hx hx0 had
            go_wp2_with fail
            refine HB2.out.mono ?_
            rintro e w2 ⟨rfl, rfl⟩
            go_wp2_with fail
            refine HS.out.mono ?_
            rintro e w3 ⟨rfl, hpost⟩
            have HP := Lib.hid hpost
            clear hpost
            go_wp2
            go_ret2
            exact HP.out
          · have e0 : ((x : Int) == 0) = false := by simp; omega
            subst hAg
            have HX0 := Lib.hid hx0
            clear hi3 hi3I hx hx0
            go_wp2
            go_roundg (n - (i2 + 1))
            case measure => omega
            case rel => exact ⟨i2 + 1, by have := HI3.out; congr 1; omega, by omega, by omega, rfl, fun p hp => by
              by_cases e : p = i2
              · subst e; rw [HX.out]; exact HX0.out
              · exact HNZ.out p (by omega)⟩
        · have hi3n : ¬ i3 ≤ n := by omega
          have HE := Lib.hid (show R6RP wr B gw size cls L (.slice A n cap) c (.returned (.tuple #[wv 0, jv 4])) wr from .inr (.inr ⟨HNONE.out, fun p hp => HNZ.out p (by have := HN.out; omega), rfl, rfl⟩))
          unfold wv jv at HE
          clear hi3 hi3I
          go_wp2
          go_ret2
          exact HE.out
end Go.Proofs.YtahojhaeebmpoaaGreatDoor
/- Reserve: the program's slabs and the document's list answer the same, and say the same behind it; plain. -/
namespace Go.Proofs.YtahojhaeebmpoaaGreatDoor
open Go Go.RowKit
set_option linter.unusedVariables false
/-- What the document's Reserve answers and leaves. -/
def ResL (cls : List Nat) (L : List (Nat × Nat)) (c : Nat) (e : Ending) (cls' : List Nat) (L' : List (Nat × Nat)) : Prop :=
  (∃ p j, FreeB6 cls L c p j ∧ (∀ p' j', (p' < p ∨ p' = p ∧ j' < j) → ¬ FreeB6 cls L c p' j') ∧ e = .returned (.tuple #[wv (adr (p + 1) c j), jv 0]) ∧ cls' = cls ∧ L' = setL L (adr (p + 1) c j) 1) ∨
  ((∀ p j, ¬ FreeB6 cls L c p j) ∧ ∃ p, p < cls.length ∧ cls.getD p 0 = 0 ∧ (∀ p', p' < p → cls.getD p' 0 ≠ 0) ∧ e = .returned (.tuple #[wv (adr (p + 1) c 0), jv 0]) ∧ cls' = cls.set p c ∧ L' = setL L (adr (p + 1) c 0) 1) ∨
  ((∀ p j, ¬ FreeB6 cls L c p j) ∧ (∀ p, p < cls.length → cls.getD p 0 ≠ 0) ∧ e = .returned (.tuple #[wv 0, jv 4]) ∧ cls' = cls ∧ L' = L)
theorem R6RP.plain {w w' : World} {B gw size c : Nat} {cls : List Nat} {L : List (Nat × Nat)} {vc vl : Value} {e : Ending} (hw : W6At w B gw size cls L vc vl) (h : R6RP w B gw size cls L vc c e w') :
    ∃ cls' L' vl', ResL cls L c e cls' L' ∧ W6At w' B gw size cls' L' vc vl' ∧ But w w' (fun q => q = gw ∨ vc.ownBlock = some q) := by
  rcases h with ⟨p, j, vl', h1, h2, h3, h4, h5⟩ | ⟨h0, p, vl', h1, h2, h3, h4, h5, h6⟩ | ⟨h0, h1, h2, rfl⟩
  · exact ⟨_, _, _, .inl ⟨p, j, h1, h2, h3, rfl, rfl⟩, h4, h5⟩
  · exact ⟨_, _, _, .inr (.inl ⟨h0, p, h1, h2, h3, h4, rfl, rfl⟩), h5, h6⟩
  · exact ⟨_, _, _, .inr (.inr ⟨h0, h1, h2, rfl, rfl⟩), hw, But.refl _ _⟩
theorem getD_cls {hs : List Hd} {p : Nat} {x : Hd} (hx : hs[p]? = some x) : (hs.map Hd.cls).getD p 0 = x.cls := by
  rw [List.getD_eq_getElem?_getD, List.getElem?_map, hx]; rfl
/-- A free block, either way. -/
theorem free6 {hs : List Hd} {cls : List Nat} {L : List (Nat × Nat)} (h : W6Is hs cls L) (ok : HsOk hs) (hm : hs.length ≤ 64) {c p j : Nat} :
    FreeB6 cls L c p j ↔ ∃ x, hs[p]? = some x ∧ x.cls = c ∧ x.bl[j]? = some 0 := by
  constructor
  · rintro ⟨h1, h2, h3, h4⟩
    rw [h.cls, List.length_map] at h1
    have hx := List.getElem?_eq_getElem h1
    rw [h.cls, getD_cls hx] at h2
    have o := ok p _ hx
    have hj : j < (hs[p]).bl.length := by rw [o.2, h2]; exact h3
    refine ⟨_, hx, h2, ?_⟩
    have hv := List.getElem?_eq_getElem hj
    have := h.at_ (adr (p + 1) c j) _ (.inl ⟨p, j, _, hx, hj, by rw [o.1, h2], hv⟩)
    rw [hv, ← this, h4]
  · rintro ⟨x, hx, h2, h3⟩
    have o := ok p x hx
    have hj := (List.getElem?_eq_some_iff.1 h3).1
    have hp := (List.getElem?_eq_some_iff.1 hx).1
    refine ⟨by rw [h.cls, List.length_map]; exact hp, by rw [h.cls, getD_cls hx]; exact h2, by rw [← h2, ← o.2]; exact hj, ?_⟩
    exact h.at_ _ 0 (.inl ⟨p, j, x, hx, hj, by rw [o.1, h2], h3⟩)
theorem freeB6 {hs : List Hd} {cls : List Nat} {L : List (Nat × Nat)} (h : W6Is hs cls L) (ok : HsOk hs) (hm : hs.length ≤ 64) {c a : Nat} :
    FreeB hs c a ↔ ∃ p j, FreeB6 cls L c p j ∧ adr (p + 1) c j = a := by
  constructor
  · rintro ⟨i, j, x, hx, hc, hb, ha⟩
    exact ⟨i, j, (free6 h ok hm).2 ⟨x, hx, hc, hb⟩, by rw [← (ok i x hx).1]; exact ha⟩
  · rintro ⟨p, j, hf, ha⟩
    obtain ⟨x, hx, hc, hb⟩ := (free6 h ok hm).1 hf
    exact ⟨p, j, x, hx, hc, hb, by rw [(ok p x hx).1]; exact ha⟩
theorem res_same {hs hs1 hs' : List Hd} {cls cls' : List Nat} {L L' : List (Nat × Nat)} {c : Nat} {e e' : Ending} (h : W6Is hs cls L) (ok : HsOk hs) (hm : hs.length ≤ 64) (hc : 1 ≤ c ∧ c ≤ 3) (hcl : Claimed hs hs1 c) (htk : Took hs1 hs' c e) (hr : ResL cls L c e' cls' L') :
    e = e' ∧ W6Is hs' cls' L' := by
  rcases hcl with ⟨⟨a0, ha0⟩, rfl⟩ | ⟨hno, ⟨i, x, hz, hx, rfl⟩ | ⟨hz, rfl⟩⟩
  · rcases htk with ⟨i, j, x, hx, hxc, hb, hmin, rfl, rfl⟩ | ⟨hn, _, _⟩
    · rcases hr with ⟨p, q, hf, hlex, rfl, rfl, rfl⟩ | ⟨hn, _⟩ | ⟨hn, _⟩
      · obtain ⟨y, hy, hyc, hyb⟩ := (free6 h ok hm).1 hf
        have o := ok i x hx
        have oy := ok p y hy
        have hj := (List.getElem?_eq_some_iff.1 hb).1
        have hq := (List.getElem?_eq_some_iff.1 hyb).1
        have hF : Found hs1 (adr x.no x.cls j) i j := ⟨x, hx, hj, rfl⟩
        have hF2 : Found hs1 (adr y.no y.cls q) p q := ⟨y, hy, hq, rfl⟩
        have hle := hmin (adr y.no c q) ⟨p, q, y, hy, hyc, hyb, rfl⟩
        have hnl : ¬ (i < p ∨ i = p ∧ j < q) := fun hl => hlex i j hl ((free6 h ok hm).2 ⟨x, hx, hxc, hb⟩)
        have hnl2 : ¬ (p < i ∨ p = i ∧ q < j) := fun hl => by
          have := found_lt ok hm hF2 hF hl
          rw [hyc, hxc] at this
          omega
        obtain ⟨rfl, rfl⟩ : i = p ∧ j = q := by omega
        have hs := h.set ok hm (v := 1) hx hj
        have ea : adr x.no x.cls j = adr (i + 1) c j := by rw [hxc, o.1]
        have eb : adr x.no c j = adr (i + 1) c j := by rw [o.1]
        rw [ea] at hs
        rw [eb]
        exact ⟨rfl, hs⟩
      · exact absurd ((freeB6 h ok hm).1 ha0) (fun ⟨p, j, hf, _⟩ => hn p j hf)
      · exact absurd ((freeB6 h ok hm).1 ha0) (fun ⟨p, j, hf, _⟩ => hn p j hf)
    · exact absurd ha0 (hn a0)
  · have hi := (List.getElem?_eq_some_iff.1 hx).1
    have hx0 : x.cls = 0 := by obtain ⟨⟨z, hz1, hz2⟩, _⟩ := hz; rw [hx] at hz1; cases hz1; exact hz2
    have o := ok i x hx
    have h1 := h.claim ok hm hx hx0 (c := c)
    have ok1 : HsOk (hs.set i ⟨x.no, c, 0, blK (blN c) 0 (blN c)⟩) := ok.claim hx
    have hm1 : (hs.set i ⟨x.no, c, 0, blK (blN c) 0 (blN c)⟩).length ≤ 64 := by simpa using hm
    have hnew : (hs.set i ⟨x.no, c, 0, blK (blN c) 0 (blN c)⟩)[i]? = some ⟨x.no, c, 0, blK (blN c) 0 (blN c)⟩ := by rw [List.getElem?_set, if_pos rfl, if_pos hi]
    have hb0 : 0 < blN c := by unfold blN; split <;> (try split) <;> (try split) <;> omega
    have hfree0 : FreeB (hs.set i ⟨x.no, c, 0, blK (blN c) 0 (blN c)⟩) c (adr x.no c 0) := ⟨i, 0, _, hnew, rfl, by show (blK (blN c) 0 (blN c))[0]? = some 0; rw [blK_val hb0]; simp, rfl⟩
    have only : ∀ k y j, (hs.set i ⟨x.no, c, 0, blK (blN c) 0 (blN c)⟩)[k]? = some y → y.cls = c → y.bl[j]? = some 0 → k = i := fun k y j hy hyc hyb => by
      rw [List.getElem?_set] at hy
      by_cases hk : i = k
      · exact hk.symm
      · rw [if_neg hk] at hy
        exact absurd ⟨k, j, y, hy, hyc, hyb, rfl⟩ (hno (adr y.no c j))
    rcases htk with ⟨i', j, x', hx', hxc, hb, hmin, rfl, rfl⟩ | ⟨hn, _, _⟩
    · obtain rfl := only i' x' j hx' hxc hb
      rw [hnew] at hx'
      cases hx'
      have hle := hmin _ hfree0
      obtain rfl : j = 0 := by
        have e : adr x.no c j ≤ adr x.no c 0 := hle
        unfold adr at e
        have : 64 * c * j ≤ 0 ∨ j = 0 := by
          rcases Nat.eq_zero_or_pos j with hj | hj
          · exact .inr hj
          · left
            first | omega | (simp at e; omega)
        rcases this with h2 | h2
        · rcases Nat.eq_zero_or_pos j with hj | hj
          · exact hj
          · have : 0 < 64 * c * j := Nat.mul_pos (by omega) hj
            omega
        · exact h2
      have hz2 : ∀ p', p' < i' → cls.getD p' 0 ≠ 0 := fun p' hp' => by
        have hl : p' < hs.length := by omega
        have := hz.2 p' _ hp' (List.getElem?_eq_getElem hl)
        rw [h.cls, getD_cls (List.getElem?_eq_getElem hl)]
        exact this
      rcases hr with ⟨p, q, hf, _⟩ | ⟨_, p, hp, hp0, hpz, rfl, rfl, rfl⟩ | ⟨_, hn, _⟩
      · exact absurd ((freeB6 h ok hm).2 ⟨p, q, hf, rfl⟩) (hno _)
      · obtain rfl : p = i' := by
          rcases Nat.lt_trichotomy p i' with hlt | he | hlt
          · exact absurd hp0 (hz2 p hlt)
          · exact he
          · exact absurd (by rw [h.cls, getD_cls hx]; exact hx0) (hpz i' hlt)
        have hset := h1.set ok1 hm1 (v := 1) hnew (j := 0) (by show 0 < (blK _ _ _).length; rw [blK_len]; exact hb0)
        have e1 : adr x.no c 0 = adr (p + 1) c 0 := by rw [o.1]
        rw [← e1]
        exact ⟨rfl, hset⟩
      · exact absurd (by rw [h.cls, getD_cls hx]; exact hx0) (hn i' (by rw [h.cls, List.length_map]; exact hi))
    · exact absurd hfree0 (hn _)
  · have hnz : ∀ p, p < cls.length → cls.getD p 0 ≠ 0 := fun p hp => by
      rw [h.cls, List.length_map] at hp
      rw [h.cls, getD_cls (List.getElem?_eq_getElem hp)]
      exact hz p _ (List.getElem?_eq_getElem hp)
    rcases htk with ⟨i', j, x', hx', hxc, hb, _, _, _⟩ | ⟨_, rfl, rfl⟩
    · exact absurd ⟨i', j, x', hx', hxc, hb, rfl⟩ (hno _)
    · rcases hr with ⟨p, q, hf, _⟩ | ⟨_, p, hp, hp0, _⟩ | ⟨_, _, rfl, rfl, rfl⟩
      · exact absurd ((freeB6 h ok hm).2 ⟨p, q, hf, rfl⟩) (hno _)
      · exact absurd hp0 (hnz p hp)
      · exact ⟨rfl, h⟩
end Go.Proofs.YtahojhaeebmpoaaGreatDoor
/- start of the law's game: what it asks of a turn that is refused, what it keeps of one that is not. -/
namespace Go.Proofs.YtahojhaeebmpoaaGreatDoor
open Go Go.RowKit
set_option linter.unusedVariables false
/-- A turn of the law's game, as cells. -/
def turn6V (p : Value) (a tt st : Nat) : List Value := [p, wv a, jv tt, jv st]
theorem W6At.grown {w w' : World} {B gw size : Nat} {cls : List Nat} {L : List (Nat × Nat)} {vc vl : Value} {row : Option Nat} (h : W6At w B gw size cls L vc vl) (hg : w.grownBy w' row) (hn : ∀ g, row = some g → Tag w g 154) : W6At w' B gw size cls L vc vl :=
  ⟨h.row.grown hg (fun e => tagNe (hn _ e.symm) h.row.tag (by decide) rfl), own_grown h.cls hg (fun g hg2 e => tagNe (hn g e.symm) (own_tag h.cls hg2) (by decide) rfl), own_grown h.bl hg (fun g hg2 e => tagNe (hn g e.symm) (own_tag h.bl hg2) (by decide) rfl), h.low⟩
theorem W6At.setc {w : World} {B gw size : Nat} {cls : List Nat} {L : List (Nat × Nat)} {vc vl : Value} (h : W6At w B gw size cls L vc vl) {p : Addr} (u : Value) (hp : Tag w p.block 51) : W6At (w.setCell p u) B gw size cls L vc vl :=
  ⟨h.row.other (Ne.symm (tagNe hp h.row.tag (by decide))) u, own_setc h.cls u (fun g hg => tagNe (own_tag h.cls hg) hp (by decide)), own_setc h.bl u (fun g hg => tagNe (own_tag h.bl hg) hp (by decide)), h.low⟩
theorem but_set6S {w W1 : World} {gw : Nat} {v : Value} {fp : Nat → Prop} (hb : Below w.heap.size w W1) (hgw : fp gw) : But w (W1.setCell ⟨gw, 2, none⟩ v) fp :=
  ⟨hb.os, hb.tape, hb.output, by have := hb.size; simpa [World.setCell] using this, fun q hq hn => by rw [heap_setCell_other _ _ _ _ (fun e => hn (by rw [e]; exact hgw))]; exact hb.block q hq⟩
def StaPost (w : World) (gg B gw size : Nat) (cls : List Nat) (L : List (Nat × Nat)) (vm vs vt vc : Value) (n : Nat) (xs : List Value) (a now tt gt : Nat) (e : Ending) (w' : World) : Prop :=
  e = .returned (.bool true) ∧ ∃ vl' vt', Row w' gg 51 #[vm, vs, fpt gw, vt'] ∧ W6At w' B gw size cls (setL L a now) vc vl' ∧ w'.ownsRow B 154 4 vt' (n + 1) (xs ++ turn6V (fpt gt) a tt 0) ∧ (vt'.ownBlock = vt.ownBlock ∨ ∀ k, vt'.ownBlock = some k → w.heap.size ≤ k) ∧ But w w' (fun q => q = gw ∨ q = gg ∨ vt.ownBlock = some q)
set_option maxRecDepth 100000 in
set_option maxHeartbeats 1600000 in
theorem start6_ok {w : World} {gg B gw size : Nat} {cls : List Nat} {L : List (Nat × Nat)} {vm vs vt vc vl : Value} {n : Nat} {xs : List Value} (hr : Row w gg 51 #[vm, vs, fpt gw, vt]) (h : W6At w B gw size cls L vc vl) (ht : w.ownsRow B 154 4 vt n xs) (hL : L.length ≤ 1000000) (hB : B ≤ w.heap.size) (hn : n ≤ 1000000) {a now tt was gt : Nat} {c : Int} (hc : 0 ≤ c ∧ c ≤ 64) (hw : isL L a = was) :
    Calls Tryz.prog 53 #[fpt gg, wv a, .int .i64 c, jv was, jv now, jv tt, fpt gt, .int .i64 0] w (StaPost w gg B gw size cls L vm vs vt vc n xs a now tt gt) := by
  have c0 := hr.cell 2
  simp only [List.getElem?_toArray, List.getElem?_cons_succ, List.getElem?_cons_zero] at c0
  have HIS := Lib.hid (r6Is_any h hL a)
  have HSET := Lib.hid (r6Set_any h hL hB a now)
  have d1 : decide (c < 0) = false := by simp; omega
  have d2 : decide (64 < c) = false := by simp; omega
  rw [hw] at HIS
  have e1 : ((was : Int) != (was : Int)) = false := by simp
  have HR := Lib.hid hr
  have HT := Lib.hid ht
  have HH := Lib.hid h
  have HBB := Lib.hid hB
  clear hc hr h hw ht hB
  obtain ⟨j0, hj, hy0, hy1, hy2⟩ := info_parts (show (Tryz.prog.info? 154).map (fun i => (i.zero, i.size, i.bytes)) = some (some (.agg #[.pointer none, .int .u64 0, .int .i64 0, .int .i64 0]), 4, 32) by kernel_rfl)
  unfold fpt at c0
  unfold fpt wv jv at HIS HSET ⊢
  go_enter Tryz.func53, Tryz.ntmps53
  go_wp2_with fail
  refine HIS.out.mono ?_
  rintro e w1 ⟨rfl, rfl⟩
  go_wp2_with fail
  refine HSET.out.mono ?_
  rintro e w2 ⟨vl', W1, rfl, hw6, hb1, rfl⟩
  obtain ⟨W2, hW2⟩ : ∃ W2, W2 = W1.setCell ⟨gw, 2, none⟩ vl' := ⟨_, rfl⟩
  have hr1 := HR.out.below hb1 HR.out.lt
  have ht1 := own_low (C := 0) HT.out hb1
  have htg := HH.out.row.below hb1 HH.out.row.lt
  have hr2 : Row W2 gg 51 #[vm, vs, fpt gw, vt] := by rw [hW2]; exact hr1.other (p := ⟨gw, 2, none⟩) (tagNe hr1.tag htg.tag (by decide)) _
  have ht2 : W2.ownsRow B 154 4 vt n xs := by rw [hW2]; exact own_setc ht1 _ (fun g hg => tagNe (own_tag ht1 hg) htg.tag (by decide))
  have hbut2 : But w W2 (fun q => q = gw ∨ q = gg ∨ vt.ownBlock = some q) := by rw [hW2]; exact but_set6S hb1 (.inl rfl)
  rw [← hW2] at hw6 ⊢
  have c3 := hr2.cell 3
  simp only [List.getElem?_toArray, List.getElem?_cons_succ, List.getElem?_cons_zero] at c3
  have HR2 := Lib.hid hr2
  have HT2 := Lib.hid ht2
  have HW2 := Lib.hid hw6
  have HBU := Lib.hid hbut2
  clear hW2 hr1 ht1 htg hr2 ht2 hbut2 hw6 hb1 HIS HSET
  go_wp2_with (at_builtin; refine wpList_append_lies _ rfl _ _ 49 rfl B 154 j0 (.agg #[.pointer none, .int .u64 0, .int .i64 0, .int .i64 0]) 4 32 Tryz.underlying49 hj hy0 hy1 hy2 rfl (by decide) vt n xs rfl (own_low (C := 0) HT2.out (alloc_below W2 _)) ⟨W2.heap.size, 0, none⟩ 1 1 (turn6V (fpt gt) a tt 0) rfl rfl (World.news_of_block (cs := (turn6V (fpt gt) a tt 0).toArray) (t := 154) (fr := (0, 0)) (heap_alloc_new W2 _)) (by intro u hu; simp [turn6V] at hu; rcases hu with rfl | rfl | rfl | rfl <;> rfl) (by decide) ?qc3 ?qc4 ?qc5 (W2.heap.size + 1) ?qc6 ?_)
  case qc3 => unfold maxLen; omega
  case qc4 => omega
  case qc5 => have := HBU.out.size; have := HBB.out; simp; omega
  case qc6 => simp
  intro g7 cap7 w3 hown hgrow hsm hlt7
  have hal := alloc_below W2 (.cells #[.pointer (some ⟨gt, 0, none⟩), .int .u64 (a : Int), .int .i64 (tt : Int), .int .i64 0] 154)
  have htl := own_low (C := 0) HT2.out hal
  have hne : vt.ownBlock ≠ some gg := fun e => tagNe (own_tag HT2.out e) HR2.out.tag (by decide) rfl
  have hr3 := (HR2.out.below hal HR2.out.lt).grown hgrow (fun e => hne e.symm)
  have hw3 := (HW2.out.below hal).grown hgrow (fun g e => own_tag htl e)
  have f3 := hr3.free 3
  have HE := Lib.hid (show StaPost w gg B gw size cls L vm vs vt vc n xs a now tt gt (.returned (.bool true)) (w3.setCell ⟨gg, 3, none⟩ (.slice (some ⟨g7, 0, none⟩) (n + 1) cap7)) from
    ⟨rfl, _, _, hr3.set 3 _, hw3.setc (p := ⟨gg, 3, none⟩) _ hr3.tag, own_setc hown _ (fun g hg => tagNe (own_tag hown hg) hr3.tag (by decide)), (by
      rcases hsm with h | h
      · exact .inl h.symm
      · refine .inr fun k hk => ?_
        have h1 := HBU.out.size
        have h2 : some g7 = some k := hk
        cases h2
        omega), by
      have hb := HBU.out
      refine ⟨hgrow.os.trans (hal.os.trans hb.os), hgrow.tape.trans (hal.tape.trans hb.tape), hgrow.output.trans (hal.output.trans hb.output), ?_, fun q hq hn => ?_⟩
      · have h1 := hb.size; have h2 := hal.size; have h3 := hgrow.size
        simp only [World.setCell]
        have : (w3.setCell ⟨gg, 3, none⟩ (.slice (some ⟨g7, 0, none⟩) (n + 1) cap7)).heap.size = w3.heap.size := by simp [World.setCell]
        show w.heap.size ≤ (w3.setCell ⟨gg, 3, none⟩ (.slice (some ⟨g7, 0, none⟩) (n + 1) cap7)).heap.size
        rw [this]; omega
      · have hq2 : q < W2.heap.size := Nat.lt_of_lt_of_le hq hb.size
        rw [heap_setCell_other _ _ _ _ (fun e => hn (.inr (.inl e))), hgrow.block q (Nat.lt_of_lt_of_le hq2 hal.size) (fun e => hn (.inr (.inr e.symm))), hal.block q hq2]
        exact hb.block q hq hn⟩)
  clear hown hgrow hsm hlt7 hal htl hne hw3
  have c4 := hr3.cell 3
  clear hr3
  go_wp2
  go_ret
  exact HE.out
end Go.Proofs.YtahojhaeebmpoaaGreatDoor
