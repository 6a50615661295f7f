/- Texts of this claim, packed: 6Same. -/
import Derived.Test.YtahojhaeebmpoaaGreatDoorPk41
import Derived.Test.YtahojhaeebmpoaaGreatDoorPk44
import Derived.Test.YtahojhaeebmpoaaGreatDoorPk28
import Derived.Test.YtahojhaeebmpoaaGreatDoorPk40
import Derived.Test.YtahojhaeebmpoaaGreatDoorPk38
import Derived.Deep.QuietTactic
import Derived.Deep.DeepCutAuto
import Derived.Deep.CutBlock
/- same of layer 6: the program's slabs and the document's blocks that say the same are found to; for at most a thousand blocks that are not free. -/
namespace Go.Proofs.YtahojhaeebmpoaaGreatDoor
open Go Go.RowKit
set_option linter.unusedVariables false
theorem belowT6 {w w1 w2 : World} (h : Below w.heap.size w w1) (h2 : Below w1.heap.size w1 w2) : Below w.heap.size w w2 := Below.and h h2
set_option maxRecDepth 100000 in
set_option maxHeartbeats 8000000 in
theorem same6_any {w : World} {y : SLay} {hs : List Hd} {fs : Nat → List Nat} {B gw size : Nat} {cls : List Nat} {L : List (Nat × Nat)} {vc vl : Value} (h : SlabMem w y hs fs) (ok : HsOk hs) (fo : FsOk hs fs) (R : RS w y) (hW : W6At w B gw size cls L vc vl) (hI : W6Is hs cls L) (hL : L.length ≤ 1000) (h0 : ∀ p ∈ L, p.1 ≠ 0) :
    Calls Tryz.prog 11 #[fpt y.gs, fpt gw] w fun e w' => e = .returned (.bool true) ∧ Below w.heap.size w w' := by
  have hlen : cls.length = hs.length := by rw [hI.cls, List.length_map]
  have hm := h.most
  have hcl3 : ∀ x ∈ cls, x ≤ 3 := by
    intro x hx
    rw [hI.cls] at hx
    obtain ⟨d, hd, rfl⟩ := List.mem_map.1 hx
    exact (h.lens d hd).2
  obtain ⟨Ac, cc, hvc, _, _, hsl, _⟩ := own_sl hW.cls
  subst hvc
  obtain ⟨n, hn⟩ : ∃ n, n = hs.length := ⟨_, rfl⟩
  have HCELL := Lib.hid (fun (W : World) (hb : Below w.heap.size w W) (i : Nat) (hi : i < n) => (show ∃ g x, Ac = some g ∧ hs[i]? = some x ∧ x.cls ≤ 3 ∧ W.cell? (g.add i) = some (.int .i64 (x.cls : Int)) by
    have hi' : i < cls.length := by omega
    have hi2 : i < hs.length := by omega
    obtain ⟨g, e, q⟩ := (hsl.below hb).at_ (i := i) (by rw [List.length_map]; exact hi')
    refine ⟨g, hs[i], e, List.getElem?_eq_getElem hi2, (h.lens _ (List.getElem_mem hi2)).2, ?_⟩
    rw [q, List.getElem_map]
    have : cls[i] = (hs[i]).cls := by simp [hI.cls]
    rw [this]
    rfl))
  have HC1 := Lib.hid (fun (W : World) (hb : Below w.heap.size w W) => (show W.cell? ⟨gw, 1, none⟩ = some (.slice Ac n cc) by
    have := (hW.below hb).row.cell 1
    rw [hlen, ← hn] at this
    simpa using this))
  have HSL := Lib.hid (fun (W : World) (hb : Below w.heap.size w W) => (show Calls Tryz.prog 43 #[.pointer (some ⟨y.gs, 0, none⟩)] W fun e w' => e = .returned (.int .i64 (n : Int)) ∧ W = w' by
    have := slabs_at (h.below hb)
    rwa [← hn] at this))
  have HUS := Lib.hid (fun (W : World) (hb : Below w.heap.size w W) => used_any (h.below hb) ok (R.1.below hb))
  have HUR := Lib.hid (fun (W : World) (hb : Below w.heap.size w W) => by
    have := r6Used_any (hW.below hb) hL hI.nd h0
    rw [used_same ok hm hI] at this
    exact this)
  have hul : (usedL hs).length ≤ 1000000000 := by
    have := usedL_len (hs := hs) (fun x hx => (h.lens x hx).1)
    omega
  have HUL := Lib.hid hul
  have HCL := Lib.hid (fun (W : World) (hb : Below w.heap.size w W) (i : Nat) (x : Hd) (hx : hs[i]? = some x) => class_at (h.below hb) hx)
  have HRM := Lib.hid (fun (W : World) (hb : Below w.heap.size w W) (c : Nat) (h1 : 1 ≤ c) (h3 : c ≤ 3) => (room_any (h.below hb) (R.below hb) h1 h3).mono (R' := fun e w' => e = .returned (jv (roomS hs fs c hs.length)) ∧ Below W.heap.size W w') (by rintro e w' ⟨rfl, hg⟩; exact ⟨rfl, hg.all⟩))
  have HRR := Lib.hid (fun (W : World) (hb : Below w.heap.size w W) (c : Nat) (h1 : 1 ≤ c) (h3 : c ≤ 3) => (show Calls Tryz.prog 25 #[fpt gw, jv c] W fun e w' => e = .returned (jv (roomS hs fs c hs.length)) ∧ W = w' by
    have := r6Room_any (hW.below hb) (by omega) (by omega) (fun x hx => by have := hcl3 x hx; omega) ⟨h1, h3⟩
    rw [hlen, ← room_same ok hm fo hI h1] at this
    exact this))
  have HIS := Lib.hid (fun (W : World) (hb : Below w.heap.size w W) (a : Nat) => is_any (h.below hb) ok (R.1.below hb) a)
  have HIR := Lib.hid (fun (W : World) (hb : Below w.heap.size w W) (a : Nat) => r6Is_any (hW.below hb) (by omega) a)
  have HAT := Lib.hid hI.at_
  have HBK := Lib.hid (fun (c : Nat) (W : World) => (show Calls Tryz.prog 23 #[.int .i64 (c : Int)] W fun e w' => e = .returned (.int .i64 (blN c : Int)) ∧ W = w' by
    have := refBlocks_any (c : Int) W
    rwa [blN_C] at this))
  have HBL := Lib.hid (fun (i c j : Nat) (W : World) (h1 : 1 ≤ i ∧ i ≤ 64) (hj : j < blN c) => (show Calls Tryz.prog 42 #[.int .i64 (i : Int), .int .i64 (c : Int), .int .i64 (j : Int)] W fun e w' => e = .returned (.int .u64 (adr i c j : Int)) ∧ W = w' by
    have := refBlock_any (i : Int) (c : Int) (j : Int) W
    rw [adr_blk h1.1 h1.2 hj] at this
    exact this))
  have hn64 : n ≤ 64 := by omega
  have EGs := Lib.hid (enters_of Tryz.func43 (by kernel_rfl) rfl)
  have EGu := Lib.hid (enters_of Tryz.func44 (by kernel_rfl) rfl)
  have EGr := Lib.hid (enters_of Tryz.func24 (by kernel_rfl) rfl)
  have EGe := Lib.hid (enters_of Tryz.func28 (by kernel_rfl) rfl)
  have EGc := Lib.hid (enters_of Tryz.func12 (by kernel_rfl) rfl)
  have mixed : Tryz.prog.follows .mixedOrders = true := by kernel_rfl
  clear h R hW hI h0 hlen hm hcl3 hsl hul hL ok fo hn
  unfold fpt jv at *
  unfold wv at HIS HIR
  go_enter Tryz.func11, Tryz.ntmps11
  go_upto_region 1 with (fail)
  refine wp_region_noPanic ?_
  refine wp_region_held_drew (S := (fun WW => WW.cell? ⟨gw, 1, none⟩ = some (.slice Ac n cc))) (by kernel_rfl) (HC1.out _ (drew_below _)) (fun hHeld => ?_)
  refine wpAnyH_take (i := 0) (oi := ⟨some 10, _, _, _, _, _⟩) (v := .pointer (some ⟨y.gs, 0, none⟩)) rfl (by kernel_rfl) (by kernel_rfl) (by kernel_rfl) (fun _ _ _ h => h) (Or.inl ⟨by kernel_rfl, by intro WW hSw; skip; go_simp⟩) (by assumption) ?_
  (try simp only [Act.put, List.setIfInBounds_toArray, List.set_cons_zero, List.set_cons_succ])
  refine wpAnyH_take (i := 2) (oi := ⟨some 12, _, _, _, _, _⟩) (v := .pointer (some ⟨gw, 0, none⟩)) rfl (by kernel_rfl) (by kernel_rfl) (by kernel_rfl) (fun _ _ _ h => h) (Or.inl ⟨by kernel_rfl, by intro WW hSw; skip; go_simp⟩) (by assumption) ?_
  (try simp only [Act.put, List.setIfInBounds_toArray, List.set_cons_zero, List.set_cons_succ])
  refine wpAnyH_take (i := 3) (oi := ⟨some 13, _, _, _, _, _⟩) (v := .pointer (some ⟨gw, 0, none⟩)) rfl (by kernel_rfl) (by kernel_rfl) (by kernel_rfl) (fun _ _ _ h => h) (Or.inl ⟨by kernel_rfl, by intro WW hSw; skip; go_simp⟩) (by assumption) ?_
  (try simp only [Act.put, List.setIfInBounds_toArray, List.set_cons_zero, List.set_cons_succ])
  refine wpAnyH_take (i := 4) (oi := ⟨some 14, _, _, _, _, _⟩) (v := .pointer (some ⟨gw, 1, none⟩)) rfl (by kernel_rfl) (by kernel_rfl) (by kernel_rfl) (fun _ _ _ h => h) (Or.inl ⟨by kernel_rfl, by intro WW hSw; skip; go_simp⟩) (by assumption) ?_
  (try simp only [Act.put, List.setIfInBounds_toArray, List.set_cons_zero, List.set_cons_succ])
  refine wpAnyH_take (i := 5) (oi := ⟨some 15, _, _, _, _, _⟩) (v := .slice Ac n cc) rfl (by kernel_rfl) (by kernel_rfl) (by kernel_rfl) (fun _ _ _ h => h) (Or.inl ⟨by kernel_rfl, by intro WW hSw; skip; go_simp⟩) (by assumption) ?_
  (try simp only [Act.put, List.setIfInBounds_toArray, List.set_cons_zero, List.set_cons_succ])
  refine wpAnyH_take (i := 6) (oi := ⟨some 16, _, _, _, _, _⟩) (v := .int .i64 (n : Int)) rfl (by kernel_rfl) (by kernel_rfl) (by kernel_rfl) (fun _ _ _ h => h) (Or.inl ⟨by kernel_rfl, by intro WW hSw; skip; go_simp⟩) (by assumption) ?_
  (try simp only [Act.put, List.setIfInBounds_toArray, List.set_cons_zero, List.set_cons_succ])
  have z0 := Lib.hid (drew_below w)
  refine wpAnyH_one (i := 1) (oi := ⟨_, _, _, _, _, _⟩) rfl (by kernel_rfl) (fun K hK => ?_)
  refine step_calls (by rfl) 43 EGs.out [.tmp 10] _ rfl [.pointer (some ⟨y.gs, 0, none⟩)] rfl (HSL.out _ z0.out) ?_
  rintro e xx ⟨rfl, rfl⟩
  refine ⟨_, rfl, hK _ _ hHeld (fun _ => ?_)⟩
  clear hK K
  (try simp only [Act.put, List.setIfInBounds_toArray, List.set_cons_zero, List.set_cons_succ])
  refine wpAnyH_take (i := 7) (oi := ⟨some 17, _, _, _, _, _⟩) (v := .bool false) rfl (by kernel_rfl) (by kernel_rfl) (by kernel_rfl) (fun _ _ _ h => h) (Or.inl ⟨by kernel_rfl, by intro WW hSw; skip; go_simp⟩) (by assumption) ?_
  (try simp only [Act.put, List.setIfInBounds_toArray, List.set_cons_zero, List.set_cons_succ])
  refine wpAnyH_take (i := 8) (oi := ⟨some 18, _, _, _, _, _⟩) (v := .bool false) rfl (by kernel_rfl) (by kernel_rfl) (by kernel_rfl) (fun _ _ _ h => h) (Or.inl ⟨by kernel_rfl, by intro WW hSw; skip; go_simp⟩) (by assumption) ?_
  (try simp only [Act.put, List.setIfInBounds_toArray, List.set_cons_zero, List.set_cons_succ])
  refine wpAnyH_take (i := 9) (oi := ⟨some 19, _, _, _, _, _⟩) (v := .pointer (some ⟨y.gs, 0, none⟩)) rfl (by kernel_rfl) (by kernel_rfl) (by kernel_rfl) (fun _ _ _ h => h) (Or.inl ⟨by kernel_rfl, by intro WW hSw; skip; go_simp⟩) (by assumption) ?_
  (try simp only [Act.put, List.setIfInBounds_toArray, List.set_cons_zero, List.set_cons_succ])
  refine wpAnyH_take (i := 11) (oi := ⟨some 21, _, _, _, _, _⟩) (v := .pointer (some ⟨gw, 0, none⟩)) rfl (by kernel_rfl) (by kernel_rfl) (by kernel_rfl) (fun _ _ _ h => h) (Or.inl ⟨by kernel_rfl, by intro WW hSw; skip; go_simp⟩) (by assumption) ?_
  (try simp only [Act.put, List.setIfInBounds_toArray, List.set_cons_zero, List.set_cons_succ])
  refine wpAnyH_one (i := 10) (oi := ⟨_, _, _, _, _, _⟩) rfl (by kernel_rfl) (fun K hK => ?_)
  refine step_calls (by rfl) 44 EGu.out [.tmp 19] _ rfl [.pointer (some ⟨y.gs, 0, none⟩)] rfl (HUS.out _ z0.out) ?_
  rintro e x1 ⟨v1, rfl, o1, b1⟩
  have z1 := Lib.hid (Below.and z0.out b1)
  have O1 := Lib.hid o1
  refine ⟨_, rfl, hK _ _ (HC1.out _ z1.out) (fun _ => ?_)⟩
  clear hHeld
  have hHeld := HC1.out _ z1.out
  clear hK K o1 b1
  (try simp only [Act.put, List.setIfInBounds_toArray, List.set_cons_zero, List.set_cons_succ])
  refine wpAnyH_one (i := 12) (oi := ⟨_, _, _, _, _, _⟩) rfl (by kernel_rfl) (fun K hK => ?_)
  refine step_calls (by rfl) 24 EGr.out [.tmp 21] _ rfl [.pointer (some ⟨gw, 0, none⟩)] rfl (HUR.out _ z1.out) ?_
  rintro e x2 ⟨v2, rfl, o2, b2⟩
  have z2 := Lib.hid (Below.and z1.out b2)
  have O2 := Lib.hid o2
  have O12 := Lib.hid (own_low (C := w.drew.heap.size) O1.out b2)
  refine ⟨_, rfl, hK _ _ (HC1.out _ z2.out) (fun _ => ?_)⟩
  clear hHeld
  have hHeld := HC1.out _ z2.out
  clear hK K o2 b2
  (try simp only [Act.put, List.setIfInBounds_toArray, List.set_cons_zero, List.set_cons_succ])
  refine wpAnyH_one (i := 13) (oi := ⟨_, _, _, _, _, _⟩) rfl (by kernel_rfl) (fun K hK => ?_)
  refine step_calls (by rfl) 28 EGe.out [.tmp 20, .tmp 22] _ rfl [v1, v2] rfl (r5Same_own O12.out O2.out HUL.out) ?_
  rintro e x3 ⟨rfl, b3⟩
  have z3 := Lib.hid (Below.and z2.out b3)
  refine ⟨_, rfl, hK _ _ (HC1.out _ z3.out) (fun _ => ?_)⟩
  clear hHeld
  have hHeld := HC1.out _ z3.out
  clear hK K b3 O1 O2 O12
  (try simp only [Act.put, List.setIfInBounds_toArray, List.set_cons_zero, List.set_cons_succ])
  refine wpAnyH_take (i := 14) (oi := ⟨some 24, _, _, _, _, _⟩) (v := .bool false) rfl (by kernel_rfl) (by kernel_rfl) (by kernel_rfl) (fun _ _ _ h => h) (Or.inl ⟨by kernel_rfl, by intro WW hSw; skip; go_simp⟩) (by assumption) ?_
  (try simp only [Act.put, List.setIfInBounds_toArray, List.set_cons_zero, List.set_cons_succ])
  refine wpAnyH_take (i := 15) (oi := ⟨some 25, _, _, _, _, _⟩) (v := .bool false) rfl (by kernel_rfl) (by kernel_rfl) (by kernel_rfl) (fun _ _ _ h => h) (Or.inl ⟨by kernel_rfl, by intro WW hSw; skip; go_simp⟩) (by assumption) ?_
  (try simp only [Act.put, List.setIfInBounds_toArray, List.set_cons_zero, List.set_cons_succ])
  refine wpAnyH_done (by kernel_rfl) ?_ _
  unfold NoPanic
  clear hHeld
  clear z0 z1 z2
  go_wp2
  go_loopg [5] n (fun k v wr => ∃ i : Nat, v = .int .i64 ((i : Int) + 1) ∧ i ≤ n ∧ n - i ≤ k ∧ Below w.heap.size w wr)
  case atStart => exact ⟨0, rfl, by omega, by omega, z3.out⟩
  case round =>
    obtain ⟨i, rfl, hin, hk, hlow⟩ := hrel
    rename World => wr
    have HLW := Lib.hid hlow
    have c1 := HC1.out wr hlow
    clear hlow z3
    obtain ⟨i1, hi1⟩ : ∃ i1, i1 = i + 1 := ⟨_, rfl⟩
    have hi1I : ((i : Int) + 1) = (i1 : Int) := by omega
    rw [hi1I]
    have HI1 := Lib.hid hi1
    by_cases hlt : i < n
    · have hi1n : i1 ≤ n := by omega
      have hsub : (i1 : Int) - 1 = (i : Int) := by omega
      have hwi : IntKind.i64.wrap (i : Int) = (i : Int) := by rw [IntKind.wrap_i64]; omega
      obtain ⟨g, x, hAc, hx, hx3, _⟩ := HCELL.out wr HLW.out i hlt
      subst hAc
      have HX := Lib.hid hx
      have HS6 := Lib.hid (fun (W : World) (hb : Below w.heap.size w W) => (show (fun WW => WW.cell? ⟨gw, 1, none⟩ = some (.slice (some g) n cc) ∧ WW.cell? (g.add i) = some (.int .i64 (x.cls : Int))) W by
        obtain ⟨g2, x2, e2, hx2, _, q2⟩ := HCELL.out W hb i hlt
        cases e2
        rw [HX.out] at hx2
        cases hx2
        exact ⟨HC1.out W hb, q2⟩))
      have z0 := Lib.hid (belowT6 HLW.out (drew_below wr))
      have HCLI := Lib.hid (by
        have := HCL.out _ z0.out i x HX.out
        rw [hi1I] at this
        exact this)
      clear hx hi1 hi1I
      go_upto_region 6 with (fail)
      refine wp_region_noPanic ?_
      refine wp_region_held_drew (S := (fun WW => WW.cell? ⟨gw, 1, none⟩ = some (.slice (some g) n cc) ∧ WW.cell? (g.add i) = some (.int .i64 (x.cls : Int)))) (by kernel_rfl) (HS6.out _ z0.out) (fun hHeld => ?_)
      refine wpAnyH_take (i := 0) (oi := ⟨some 35, _, _, _, _, _⟩) (v := .pointer (some ⟨y.gs, 0, none⟩)) rfl (by kernel_rfl) (by kernel_rfl) (by kernel_rfl) (fun _ _ _ h => h) (Or.inl ⟨by kernel_rfl, by intro WW hSw; obtain ⟨s0, s1⟩ := hSw; go_simp⟩) (by assumption) ?_
      (try simp only [Act.put, List.setIfInBounds_toArray, List.set_cons_zero, List.set_cons_succ])
      refine wpAnyH_take (i := 1) (oi := ⟨some 36, _, _, _, _, _⟩) (v := .int .i64 (i1 : Int)) rfl (by kernel_rfl) (by kernel_rfl) (by kernel_rfl) (fun _ _ _ h => h) (Or.inl ⟨by kernel_rfl, by intro WW hSw; obtain ⟨s0, s1⟩ := hSw; go_simp⟩) (by assumption) ?_
      (try simp only [Act.put, List.setIfInBounds_toArray, List.set_cons_zero, List.set_cons_succ])
      refine wpAnyH_take (i := 3) (oi := ⟨some 38, _, _, _, _, _⟩) (v := .pointer (some ⟨gw, 0, none⟩)) rfl (by kernel_rfl) (by kernel_rfl) (by kernel_rfl) (fun _ _ _ h => h) (Or.inl ⟨by kernel_rfl, by intro WW hSw; obtain ⟨s0, s1⟩ := hSw; go_simp⟩) (by assumption) ?_
      (try simp only [Act.put, List.setIfInBounds_toArray, List.set_cons_zero, List.set_cons_succ])
      refine wpAnyH_take (i := 4) (oi := ⟨some 39, _, _, _, _, _⟩) (v := .pointer (some ⟨gw, 0, none⟩)) rfl (by kernel_rfl) (by kernel_rfl) (by kernel_rfl) (fun _ _ _ h => h) (Or.inl ⟨by kernel_rfl, by intro WW hSw; obtain ⟨s0, s1⟩ := hSw; go_simp⟩) (by assumption) ?_
      (try simp only [Act.put, List.setIfInBounds_toArray, List.set_cons_zero, List.set_cons_succ])
      refine wpAnyH_take (i := 5) (oi := ⟨some 40, _, _, _, _, _⟩) (v := .pointer (some ⟨gw, 1, none⟩)) rfl (by kernel_rfl) (by kernel_rfl) (by kernel_rfl) (fun _ _ _ h => h) (Or.inl ⟨by kernel_rfl, by intro WW hSw; obtain ⟨s0, s1⟩ := hSw; go_simp⟩) (by assumption) ?_
      (try simp only [Act.put, List.setIfInBounds_toArray, List.set_cons_zero, List.set_cons_succ])
      refine wpAnyH_take (i := 6) (oi := ⟨some 41, _, _, _, _, _⟩) (v := .slice (some g) n cc) rfl (by kernel_rfl) (by kernel_rfl) (by kernel_rfl) (fun _ _ _ h => h) (Or.inl ⟨by kernel_rfl, by intro WW hSw; obtain ⟨s0, s1⟩ := hSw; go_simp⟩) (by assumption) ?_
      (try simp only [Act.put, List.setIfInBounds_toArray, List.set_cons_zero, List.set_cons_succ])
      refine wpAnyH_take (i := 7) (oi := ⟨some 42, _, _, _, _, _⟩) (v := .int .i64 (i1 : Int)) rfl (by kernel_rfl) (by kernel_rfl) (by kernel_rfl) (fun _ _ _ h => h) (Or.inl ⟨by kernel_rfl, by intro WW hSw; obtain ⟨s0, s1⟩ := hSw; go_simp⟩) (by assumption) ?_
      (try simp only [Act.put, List.setIfInBounds_toArray, List.set_cons_zero, List.set_cons_succ])
      refine wpAnyH_take (i := 8) (oi := ⟨some 43, _, _, _, _, _⟩) (v := .int .i64 (i : Int)) rfl (by kernel_rfl) (by kernel_rfl) (by kernel_rfl) (fun _ _ _ h => h) (Or.inl ⟨by kernel_rfl, by intro WW hSw; obtain ⟨s0, s1⟩ := hSw; go_simp⟩) (by assumption) ?_
      (try simp only [Act.put, List.setIfInBounds_toArray, List.set_cons_zero, List.set_cons_succ])
      refine wpAnyH_take (i := 9) (oi := ⟨some 44, _, _, _, _, _⟩) (v := .pointer (some (g.add i))) rfl (by kernel_rfl) (by kernel_rfl) (by kernel_rfl) (fun _ _ _ h => h) (Or.inl ⟨by kernel_rfl, by intro WW hSw; obtain ⟨s0, s1⟩ := hSw; go_simp⟩) (by assumption) ?_
      (try simp only [Act.put, List.setIfInBounds_toArray, List.set_cons_zero, List.set_cons_succ])
      refine wpAnyH_take (i := 10) (oi := ⟨some 45, _, _, _, _, _⟩) (v := .int .i64 (x.cls : Int)) rfl (by kernel_rfl) (by kernel_rfl) (by kernel_rfl) (fun _ _ _ h => h) (Or.inl ⟨by kernel_rfl, by intro WW hSw; obtain ⟨s0, s1⟩ := hSw; go_simp⟩) (by assumption) ?_
      (try simp only [Act.put, List.setIfInBounds_toArray, List.set_cons_zero, List.set_cons_succ])
      refine wpAnyH_one (i := 2) (oi := ⟨_, _, _, _, _, _⟩) rfl (by kernel_rfl) (fun K hK => ?_)
      refine step_calls (by rfl) 12 EGc.out [.tmp 35, .tmp 36] _ rfl [.pointer (some ⟨y.gs, 0, none⟩), .int .i64 (i1 : Int)] rfl HCLI.out ?_
      rintro e xx ⟨rfl, rfl⟩
      refine ⟨_, rfl, hK _ _ hHeld (fun _ => ?_)⟩
      clear hK K
      (try simp only [Act.put, List.setIfInBounds_toArray, List.set_cons_zero, List.set_cons_succ])
      refine wpAnyH_take (i := 11) (oi := ⟨some 46, _, _, _, _, _⟩) (v := .bool false) rfl (by kernel_rfl) (by kernel_rfl) (by kernel_rfl) (fun _ _ _ h => h) (Or.inl ⟨by kernel_rfl, by intro WW hSw; obtain ⟨s0, s1⟩ := hSw; go_simp⟩) (by assumption) ?_
      (try simp only [Act.put, List.setIfInBounds_toArray, List.set_cons_zero, List.set_cons_succ])
      refine wpAnyH_done (by kernel_rfl) ?_ _
      unfold NoPanic
      clear hHeld
      go_wp2
      go_roundg (n - (i + 1))
      case measure => omega
      case rel => exact ⟨i + 1, by have := HI1.out; congr 1; omega, by omega, by omega, z0.out⟩
    · have hi1n : ¬ i1 ≤ n := by omega
      clear hi1 hi1I
      go_wp2
      go_loopg [6] 4 (fun k v wr => ∃ c : Nat, v = .int .i64 (c : Int) ∧ 1 ≤ c ∧ c ≤ 4 ∧ 4 - c ≤ k ∧ Below w.heap.size w wr)
      case atStart => exact ⟨1, rfl, by omega, by omega, by omega, HLW.out⟩
      case round =>
        obtain ⟨c, rfl, hc1, hc4, hk2, hlow⟩ := hrel
        rename World => wc
        have HLC := Lib.hid hlow
        clear hlow HLW c1
        by_cases hc3 : c ≤ 3
        · have hc3I : decide ((c : Int) ≤ 3) = true := by simp; omega
          have HR1 := Lib.hid (HRM.out wc HLC.out c hc1 hc3)
          obtain ⟨rm, hrm⟩ : ∃ rm, rm = roomS hs fs c hs.length := ⟨_, rfl⟩
          rw [← hrm] at HR1
          have hne : ((rm : Int) != (rm : Int)) = false := by simp
          go_wp2_with fail
          refine HR1.out.mono ?_
          rintro e w3 ⟨rfl, hb3⟩
          have HL3 := Lib.hid (belowT6 HLC.out hb3)
          have HR2 := Lib.hid (HRR.out w3 HL3.out c hc1 hc3)
          rw [← hrm] at HR2
          clear hb3 hrm HR1
          go_wp2_with fail
          refine HR2.out.mono ?_
          rintro e w4 ⟨rfl, rfl⟩
          go_wp2
          go_loopg [7] n (fun k v wr => ∃ i : Nat, v = .int .i64 ((i : Int) + 1) ∧ i ≤ n ∧ n - i ≤ k ∧ Below w.heap.size w wr)
          case atStart => exact ⟨0, rfl, by omega, by omega, HL3.out⟩
          case round =>
            obtain ⟨i2, rfl, hin2, hk3, hlow⟩ := hrel
            rename World => wd
            have HLD := Lib.hid hlow
            have d1 := HC1.out wd hlow
            clear hlow HL3 HR2
            obtain ⟨i3, hi3⟩ : ∃ i3, i3 = i2 + 1 := ⟨_, rfl⟩
            have hi3I : ((i2 : Int) + 1) = (i3 : Int) := by omega
            rw [hi3I]
            have HI3 := Lib.hid hi3
            by_cases hlt2 : i2 < n
            · have hi3n : i3 ≤ n := by omega
              have hsub2 : (i3 : Int) - 1 = (i2 : Int) := by omega
              have hi3b : 1 ≤ i3 ∧ i3 ≤ 64 := by omega
              obtain ⟨b, hb⟩ : ∃ b, b = blN c := ⟨_, rfl⟩
              have hb15 : b ≤ 15 := by rw [hb]; exact blN_le c
              have HBB := Lib.hid hb
              have HBKc := Lib.hid (fun W => HBK.out c W)
              rw [← hb] at HBKc
              clear hi3 hi3I hb
              go_wp2
              go_loopg [8] b (fun k v wr => ∃ j : Nat, v = .int .i64 (j : Int) ∧ j ≤ b ∧ b - j ≤ k ∧ Below w.heap.size w wr)
              case atStart => exact ⟨0, rfl, by omega, by omega, HLD.out⟩
              case round =>
                obtain ⟨j, rfl, hjb, hk4, hlow⟩ := hrel
                rename World => we
                have HLE := Lib.hid hlow
                have e1 := HC1.out we hlow
                obtain ⟨g2, x2, hA2, hx2, hx23, q2⟩ := HCELL.out we hlow i2 hlt2
                subst hA2
                clear hlow HLD d1
                go_wp2_with fail
                refine (HBKc.out we).mono ?_
                rintro e w5 ⟨rfl, rfl⟩
                by_cases hltj : j < b
                · have hltJ : decide ((j : Int) < (b : Int)) = true := by simp; omega
                  by_cases hxc : x2.cls = c
                  · have ec : ((x2.cls : Int) == (c : Int)) = true := by simp; omega
                    clear hxc
                    have HB2 := Lib.hid (HBL.out i3 c j we hi3b (by rw [← HBB.out]; exact hltj))
                    obtain ⟨ad, had⟩ : ∃ ad, ad = adr i3 c j := ⟨_, rfl⟩
                    rw [← had] at HB2
                    clear had
                    go_wp2_with fail
                    refine HB2.out.mono ?_
                    rintro e w5 ⟨rfl, rfl⟩
                    go_wp2_with fail
                    refine (HIS.out we HLE.out ad).mono ?_
                    rintro e w6 ⟨⟨v, hv, rfl⟩, hb6⟩
                    have HL6 := Lib.hid (belowT6 HLE.out hb6)
                    have HV := Lib.hid (HAT.out ad v hv)
                    have HI6 := Lib.hid (HIR.out w6 HL6.out ad)
                    rw [HV.out] at HI6
                    unfold jv at *
                    have hvv : ((v : Int) != (v : Int)) = false := by simp
                    clear hv hb6
                    go_wp2_with fail
                    refine HI6.out.mono ?_
                    rintro e w7 ⟨rfl, rfl⟩
                    go_wp2
                    go_roundg (b - (j + 1))
                    case measure => omega
                    case rel => exact ⟨j + 1, by go_num, by omega, by omega, HL6.out⟩
                  · have ec : ((x2.cls : Int) == (c : Int)) = false := by simp; omega
                    clear hxc
                    go_wp2
                    go_roundg (n - (i2 + 1))
                    case measure => omega
                    case rel => exact ⟨i2 + 1, by have := HI3.out; congr 1; omega, by omega, by omega, HLE.out⟩
                · have hltJ : decide ((j : Int) < (b : Int)) = false := by simp; omega
                  have hje : ¬ j < b := hltj
                  go_wp2
                  go_roundg (n - (i2 + 1))
                  case measure => omega
                  case rel => exact ⟨i2 + 1, by have := HI3.out; congr 1; omega, by omega, by omega, HLE.out⟩
            · have hi3n : ¬ i3 ≤ n := by omega
              clear hi3 hi3I
              go_wp2
              go_roundg (4 - (c + 1))
              case measure => omega
              case rel => exact ⟨c + 1, by go_num, by omega, by omega, by omega, HLD.out⟩
        · have hc3I : decide ((c : Int) ≤ 3) = false := by simp; omega
          go_wp2
          go_ret
          exact ⟨rfl, HLC.out⟩
end Go.Proofs.YtahojhaeebmpoaaGreatDoor
