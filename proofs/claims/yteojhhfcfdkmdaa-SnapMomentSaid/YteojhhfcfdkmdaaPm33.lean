/- Texts of this claim, packed: SnRt, N9Ins. -/
import Derived.Test.YteojhhfcfdkmdaaPm32
import Derived.Test.YteojhhfcfdkmdaaPm26
set_option linter.unusedSimpArgs false
set_option linter.unusedVariables false
/- Which nodes the law takes; no conditions. -/
namespace Go.Proofs.Yteojhhfcfdkmdaa
open Go.RowKit
set_option linter.unusedVariables false
attribute [local go_sem] Oper.semAt_some
theorem NdAt_setCells {w : World} {b g : Nat} {n : Nd} (h : NdAt w g n) (hb : b ≠ g) (vs : List Value) : NdAt (w.setCells b 0 vs) g n := by
  have : ∀ (vs : List Value) (o : Nat) (w : World), NdAt w g n → NdAt (w.setCells b o vs) g n := by
    intro vs
    induction vs with
    | nil => exact fun o w h => h
    | cons v t ih => exact fun o w h => ih (o + 1) _ (h.other (p := ⟨b, o, none⟩) (fun e => hb e.symm) v)
  exact this vs 0 w h
theorem drew_low11 (w : World) : Below w.heap.size w w.drew := (Below.refl _ w).drew
set_option maxRecDepth 100000 in
set_option maxHeartbeats 8000000 in
theorem right11_any (n : Nd) (w : World) : Calls Try.prog 4 #[n.V] w fun e w' => e = .returned (.tuple #[n.side.V, .bool (rightB n)]) ∧ Below w.heap.size w w' := by
  have mixed : Try.prog.follows .mixedOrders = true := by kernel_rfl
  have rx := Row.new w 27 n.cl.toArray
  have ry := Row.new (w.alloc (.cells n.cl.toArray 27)) 27 zeroNd.cl.toArray
  simp only [World.size_alloc] at ry
  obtain ⟨W1, hW1⟩ : ∃ W1, W1 = (w.alloc (.cells n.cl.toArray 27)).alloc (.cells #[.int .i64 0, .int .u64 0, .int .u64 0, .int .u64 0, .int .u64 0, .int .u64 0, .int .u64 0, .int .u64 0, .int .u64 0, .int .u64 0, .int .u64 0, .int .u64 0, .int .u64 0, .int .u64 0, .int .u64 0, .int .u64 0, .int .u64 0, .int .u64 0, .int .u64 0, .int .u64 0, .int .u64 0] 27) := ⟨_, rfl⟩
  have hb1 : Below w.heap.size w W1 := by rw [hW1]; exact low_and (alloc_low _ _) (alloc_low _ _)
  have r0 : NdAt W1 w.heap.size n := by rw [hW1]; exact rx.alloc _
  have r1 : NdAt W1 (w.heap.size + 1) zeroNd := by rw [hW1]; exact ry
  have hs1 : w.heap.size + 2 ≤ W1.heap.size := by rw [hW1]; simp
  have c2 : W1.cell? ⟨w.heap.size, 2, none⟩ = some (.int .u64 n.nx) := ndAt_at r0 2
  have f2 := r0.free 2
  have EGa := Lib.hid (enters_of Try.func18 (by kernel_rfl) rfl)
  have EGb := Lib.hid (enters_of Try.func15 (by kernel_rfl) rfl)
  have HM := Lib.hid fun W' => r8May_any n.side 0 false W'
  have HI := Lib.hid fun W' => r8Inv_any n.side W'
  obtain ⟨mb, hmb⟩ : ∃ mb, mb = n.side.may 0 false := ⟨_, rfl⟩
  obtain ⟨iv, hiv⟩ : ∃ iv, iv = n.side.inv := ⟨_, rfl⟩
  have hrb : rightB n = (n.side.may 0 false && decide (n.side.inv < 0)) := rfl
  rw [← hmb, ← hiv] at hrb
  rw [← hmb] at HM
  rw [← hiv] at HI
  have HW1 := Lib.hid hW1
  clear hmb hiv hW1 rx ry
  by_cases hx : n.nx = 0
  · rw [hx] at c2
    have H0 := Lib.hid (show NdAt W1 w.heap.size n.side by rw [Nd.side_eq hx]; exact r0)
    have H1 := Lib.hid r1
    have HB2 := Lib.hid hb1
    clear hx r0 r1 hb1 hs1
    cases mb with
    | false =>
      have HD := Lib.hid (show rightB n = false by rw [hrb]; rfl)
      clear hrb
      go_enter Try.func4, Try.ntmps4
      go_wp2_with (rw [← HW1.out])
      refine wp_region_held_drew (S := fun W' => NdAt W' w.heap.size n.side) (by kernel_rfl) (H0.out.below (drew_low11 _) H0.out.lt) (fun hHeld => ?_)
      refine wpAnyH_take (i := 0) (oi := ⟨some 8, _, _, _, _, _⟩) (v := .agg n.side.cl.toArray) rfl (by kernel_rfl) (by kernel_rfl) (by kernel_rfl) (fun _ _ _ h => h) (yieldsIf_load_mid (by rfl) _ _ rfl w.heap.size 0 rfl n.side.cl _ (fun w' hw' => ndR hw') Try.underlying27 rfl ndI) (by assumption) ?_
      (try simp only [Act.put, List.setIfInBounds_toArray, List.set_cons_zero, List.set_cons_succ])
      refine wpAnyH_take (i := 1) (oi := ⟨some 9, _, _, _, _, _⟩) (v := .agg n.side.cl.toArray) rfl (by kernel_rfl) (by kernel_rfl) (by kernel_rfl) (fun _ _ _ h => h) (yieldsIf_load_mid (by rfl) _ _ rfl w.heap.size 0 rfl n.side.cl _ (fun w' hw' => ndR hw') Try.underlying27 rfl ndI) (by assumption) ?_
      (try simp only [Act.put, List.setIfInBounds_toArray, List.set_cons_zero, List.set_cons_succ])
      refine wpAnyH_one (i := 2) (oi := ⟨some 10, _, _, _, _, _⟩) rfl (by kernel_rfl) (fun K hK => ?_)
      refine step_calls (by rfl) 18 EGa.out [.tmp 9, .const (.int .u64 0), .const (.bool false)] _ rfl [n.side.V, .int .u64 0, .bool false] rfl (HM.out _) ?_
      rintro e w3 ⟨rfl, h3⟩
      have g3 := low_and (drew_low11 _) h3
      refine ⟨_, rfl, hK _ _ (hHeld.below h3 hHeld.lt) (fun hSn => ?_)⟩
      clear hK K
      (try simp only [Act.put, List.setIfInBounds_toArray, List.set_cons_zero, List.set_cons_succ])
      refine wpAnyH_take (i := 3) (oi := ⟨some 11, _, _, _, _, _⟩) (v := .bool false) rfl (by kernel_rfl) (by kernel_rfl) (by kernel_rfl) (fun _ _ _ h => h) (Or.inl ⟨by rfl, by intro WW hSw; (try dsimp only at hSw); go_simp⟩) (by assumption) ?_
      (try simp only [Act.put, List.setIfInBounds_toArray, List.set_cons_zero, List.set_cons_succ])
      refine wpAnyH_take (i := 4) (oi := ⟨some 12, _, _, _, _, _⟩) (v := undef) rfl (by kernel_rfl) (by kernel_rfl) (by kernel_rfl) (fun _ _ _ h => h) (Or.inr ⟨by rfl, rfl⟩) (by assumption) ?_
      (try simp only [Act.put, List.setIfInBounds_toArray, List.set_cons_zero, List.set_cons_succ])
      refine wpAnyH_take (i := 5) (oi := ⟨some 13, _, _, _, _, _⟩) (v := undef) rfl (by kernel_rfl) (by kernel_rfl) (by kernel_rfl) (fun _ _ _ h => h) (Or.inr ⟨by rfl, rfl⟩) (by assumption) ?_
      (try simp only [Act.put, List.setIfInBounds_toArray, List.set_cons_zero, List.set_cons_succ])
      refine wpAnyH_take (i := 6) (oi := ⟨some 14, _, _, _, _, _⟩) (v := undef) rfl (by kernel_rfl) (by kernel_rfl) (by kernel_rfl) (fun _ _ _ h => h) (Or.inr ⟨by rfl, rfl⟩) (by assumption) ?_
      (try simp only [Act.put, List.setIfInBounds_toArray, List.set_cons_zero, List.set_cons_succ])
      refine wpAnyH_take (i := 7) (oi := ⟨some 15, _, _, _, _, _⟩) (v := .bool false) rfl (by kernel_rfl) (by kernel_rfl) (by kernel_rfl) (fun _ _ _ h => h) (Or.inl ⟨by rfl, by intro WW hSw; (try dsimp only at hSw); go_simp⟩) (by assumption) ?_
      (try simp only [Act.put, List.setIfInBounds_toArray, List.set_cons_zero, List.set_cons_succ])
      refine wpAnyH_one (i := 8) (oi := ⟨none, _, _, _, _, _⟩) rfl (by kernel_rfl) (fun K hK => ?_)
      rw [if_pos (by rfl)]
      refine wp_store_mid 27 _ _ rfl (w.heap.size + 1) 0 n.side.cl.toArray rfl rfl (row_there (H1.out.below g3 H1.out.lt) (Nat.le_refl 21)) ndI (all_oneCell_toArray (cl_one _)) ?_
      have K0 := NdAt_setCells (n := n.side) hSn (show w.heap.size + 1 ≠ w.heap.size by omega) n.side.cl
      refine hK _ _ K0 (fun hSn2 => ?_)
      clear hK K
      (try simp only [Act.put, List.setIfInBounds_toArray, List.set_cons_zero, List.set_cons_succ])
      refine wpAnyH_take (i := 9) (oi := ⟨some 3, _, _, _, _, _⟩) (v := .bool false) rfl (by kernel_rfl) (by kernel_rfl) (by kernel_rfl) (fun _ _ _ h => h) (Or.inl ⟨by rfl, by intro WW hSw; (try dsimp only at hSw); go_simp⟩) (by assumption) ?_
      (try simp only [Act.put, List.setIfInBounds_toArray, List.set_cons_zero, List.set_cons_succ])
      refine wpAnyH_done (by kernel_rfl) ?_ _
      have H1f := Lib.hid (row_setCells (vs := n.side.cl) (H1.out.below g3 H1.out.lt) rfl)
      have HBf := Lib.hid (setCells_low n.side.cl (show w.heap.size ≤ w.heap.size + 1 by omega) (low_and HB2.out g3))
      clear K0 hSn hHeld
      go_wp2
      refine bodyPost_ret (results_node_tmp rfl _ _ (w.heap.size + 1) n.side rfl H1f.out) rfl ⟨?_, HBf.out⟩
      rw [HD.out]
      rfl
    | true =>
      have HD := Lib.hid (show rightB n = decide (iv < 0) by rw [hrb]; rfl)
      clear hrb
      go_enter Try.func4, Try.ntmps4
      go_wp2_with (rw [← HW1.out])
      refine wp_region_held_drew (S := fun W' => NdAt W' w.heap.size n.side) (by kernel_rfl) (H0.out.below (drew_low11 _) H0.out.lt) (fun hHeld => ?_)
      refine wpAnyH_take (i := 0) (oi := ⟨some 8, _, _, _, _, _⟩) (v := .agg n.side.cl.toArray) rfl (by kernel_rfl) (by kernel_rfl) (by kernel_rfl) (fun _ _ _ h => h) (yieldsIf_load_mid (by rfl) _ _ rfl w.heap.size 0 rfl n.side.cl _ (fun w' hw' => ndR hw') Try.underlying27 rfl ndI) (by assumption) ?_
      (try simp only [Act.put, List.setIfInBounds_toArray, List.set_cons_zero, List.set_cons_succ])
      refine wpAnyH_take (i := 1) (oi := ⟨some 9, _, _, _, _, _⟩) (v := .agg n.side.cl.toArray) rfl (by kernel_rfl) (by kernel_rfl) (by kernel_rfl) (fun _ _ _ h => h) (yieldsIf_load_mid (by rfl) _ _ rfl w.heap.size 0 rfl n.side.cl _ (fun w' hw' => ndR hw') Try.underlying27 rfl ndI) (by assumption) ?_
      (try simp only [Act.put, List.setIfInBounds_toArray, List.set_cons_zero, List.set_cons_succ])
      refine wpAnyH_one (i := 2) (oi := ⟨some 10, _, _, _, _, _⟩) rfl (by kernel_rfl) (fun K hK => ?_)
      refine step_calls (by rfl) 18 EGa.out [.tmp 9, .const (.int .u64 0), .const (.bool false)] _ rfl [n.side.V, .int .u64 0, .bool false] rfl (HM.out _) ?_
      rintro e w3 ⟨rfl, h3⟩
      have g3 := low_and (drew_low11 _) h3
      refine ⟨_, rfl, hK _ _ (hHeld.below h3 hHeld.lt) (fun hSn => ?_)⟩
      clear hK K
      (try simp only [Act.put, List.setIfInBounds_toArray, List.set_cons_zero, List.set_cons_succ])
      refine wpAnyH_take (i := 3) (oi := ⟨some 11, _, _, _, _, _⟩) (v := .bool true) rfl (by kernel_rfl) (by kernel_rfl) (by kernel_rfl) (fun _ _ _ h => h) (Or.inl ⟨by rfl, by intro WW hSw; (try dsimp only at hSw); go_simp⟩) (by assumption) ?_
      (try simp only [Act.put, List.setIfInBounds_toArray, List.set_cons_zero, List.set_cons_succ])
      refine wpAnyH_take (i := 4) (oi := ⟨some 12, _, _, _, _, _⟩) (v := .agg n.side.cl.toArray) rfl (by kernel_rfl) (by kernel_rfl) (by kernel_rfl) (fun _ _ _ h => h) (yieldsIf_load_mid (by rfl) _ _ rfl w.heap.size 0 rfl n.side.cl _ (fun w' hw' => ndR hw') Try.underlying27 rfl ndI) (by assumption) ?_
      (try simp only [Act.put, List.setIfInBounds_toArray, List.set_cons_zero, List.set_cons_succ])
      refine wpAnyH_one (i := 5) (oi := ⟨some 13, _, _, _, _, _⟩) rfl (by kernel_rfl) (fun K hK => ?_)
      refine step_calls (by rfl) 15 EGb.out [.tmp 12] _ rfl [n.side.V] rfl (HI.out _) ?_
      rintro e w4 ⟨rfl, h4⟩
      have g4 := low_and g3 h4
      refine ⟨_, rfl, hK _ _ (hSn.below h4 hSn.lt) (fun hSn => ?_)⟩
      clear hK K
      (try simp only [Act.put, List.setIfInBounds_toArray, List.set_cons_zero, List.set_cons_succ])
      refine wpAnyH_take (i := 6) (oi := ⟨some 14, _, _, _, _, _⟩) (v := .bool (decide (iv < 0))) rfl (by kernel_rfl) (by kernel_rfl) (by kernel_rfl) (fun _ _ _ h => h) (Or.inl ⟨by rfl, by intro WW hSw; (try dsimp only at hSw); go_simp⟩) (by assumption) ?_
      (try simp only [Act.put, List.setIfInBounds_toArray, List.set_cons_zero, List.set_cons_succ])
      refine wpAnyH_take (i := 7) (oi := ⟨some 15, _, _, _, _, _⟩) (v := .bool (decide (iv < 0))) rfl (by kernel_rfl) (by kernel_rfl) (by kernel_rfl) (fun _ _ _ h => h) (Or.inl ⟨by rfl, by intro WW hSw; (try dsimp only at hSw); go_simp⟩) (by assumption) ?_
      (try simp only [Act.put, List.setIfInBounds_toArray, List.set_cons_zero, List.set_cons_succ])
      refine wpAnyH_one (i := 8) (oi := ⟨none, _, _, _, _, _⟩) rfl (by kernel_rfl) (fun K hK => ?_)
      rw [if_pos (by rfl)]
      refine wp_store_mid 27 _ _ rfl (w.heap.size + 1) 0 n.side.cl.toArray rfl rfl (row_there (H1.out.below g4 H1.out.lt) (Nat.le_refl 21)) ndI (all_oneCell_toArray (cl_one _)) ?_
      have K0 := NdAt_setCells (n := n.side) hSn (show w.heap.size + 1 ≠ w.heap.size by omega) n.side.cl
      refine hK _ _ K0 (fun hSn2 => ?_)
      clear hK K
      (try simp only [Act.put, List.setIfInBounds_toArray, List.set_cons_zero, List.set_cons_succ])
      refine wpAnyH_take (i := 9) (oi := ⟨some 3, _, _, _, _, _⟩) (v := .bool (decide (iv < 0))) rfl (by kernel_rfl) (by kernel_rfl) (by kernel_rfl) (fun _ _ _ h => h) (Or.inl ⟨by rfl, by intro WW hSw; (try dsimp only at hSw); go_simp⟩) (by assumption) ?_
      (try simp only [Act.put, List.setIfInBounds_toArray, List.set_cons_zero, List.set_cons_succ])
      refine wpAnyH_done (by kernel_rfl) ?_ _
      have H1f := Lib.hid (row_setCells (vs := n.side.cl) (H1.out.below g4 H1.out.lt) rfl)
      have HBf := Lib.hid (setCells_low n.side.cl (show w.heap.size ≤ w.heap.size + 1 by omega) (low_and HB2.out g4))
      clear K0 hSn hHeld
      go_wp2
      refine bodyPost_ret (results_node_tmp rfl _ _ (w.heap.size + 1) n.side rfl H1f.out) rfl ⟨?_, HBf.out⟩
      rw [HD.out]
      rfl
  · have g0 := r0.set 2 (uw 1280)
    rw [Nd.side_cl hx] at g0
    have g1 := r1.other (p := ⟨w.heap.size, 2, none⟩) (by dsimp only; omega) (uw 1280)
    have gb := hb1.setCell (p := ⟨w.heap.size, 2, none⟩) (Nat.le_refl _) (uw 1280)
    obtain ⟨W2, hW2⟩ : ∃ W2, W2 = W1.setCell ⟨w.heap.size, 2, none⟩ (uw 1280) := ⟨_, rfl⟩
    rw [← hW2] at g0 g1 gb
    have H0 := Lib.hid g0
    have H1 := Lib.hid g1
    have HB2 := Lib.hid gb
    have HW2 := Lib.hid hW2
    have hx1 : (n.nx != 0) = true := by simpa using hx
    obtain ⟨x, hxx⟩ : ∃ x, x = n.nx := ⟨_, rfl⟩
    rw [← hxx] at c2 hx1
    clear g0 g1 gb hW2 hx hxx r0 r1 hb1 hs1
    cases mb with
    | false =>
      have HD := Lib.hid (show rightB n = false by rw [hrb]; rfl)
      clear hrb
      go_enter Try.func4, Try.ntmps4
      go_wp2_with (rw [← HW1.out])
      rw [← HW2.out]
      refine wp_region_held_drew (S := fun W' => NdAt W' w.heap.size n.side) (by kernel_rfl) (H0.out.below (drew_low11 _) H0.out.lt) (fun hHeld => ?_)
      refine wpAnyH_take (i := 0) (oi := ⟨some 8, _, _, _, _, _⟩) (v := .agg n.side.cl.toArray) rfl (by kernel_rfl) (by kernel_rfl) (by kernel_rfl) (fun _ _ _ h => h) (yieldsIf_load_mid (by rfl) _ _ rfl w.heap.size 0 rfl n.side.cl _ (fun w' hw' => ndR hw') Try.underlying27 rfl ndI) (by assumption) ?_
      (try simp only [Act.put, List.setIfInBounds_toArray, List.set_cons_zero, List.set_cons_succ])
      refine wpAnyH_take (i := 1) (oi := ⟨some 9, _, _, _, _, _⟩) (v := .agg n.side.cl.toArray) rfl (by kernel_rfl) (by kernel_rfl) (by kernel_rfl) (fun _ _ _ h => h) (yieldsIf_load_mid (by rfl) _ _ rfl w.heap.size 0 rfl n.side.cl _ (fun w' hw' => ndR hw') Try.underlying27 rfl ndI) (by assumption) ?_
      (try simp only [Act.put, List.setIfInBounds_toArray, List.set_cons_zero, List.set_cons_succ])
      refine wpAnyH_one (i := 2) (oi := ⟨some 10, _, _, _, _, _⟩) rfl (by kernel_rfl) (fun K hK => ?_)
      refine step_calls (by rfl) 18 EGa.out [.tmp 9, .const (.int .u64 0), .const (.bool false)] _ rfl [n.side.V, .int .u64 0, .bool false] rfl (HM.out _) ?_
      rintro e w3 ⟨rfl, h3⟩
      have g3 := low_and (drew_low11 _) h3
      refine ⟨_, rfl, hK _ _ (hHeld.below h3 hHeld.lt) (fun hSn => ?_)⟩
      clear hK K
      (try simp only [Act.put, List.setIfInBounds_toArray, List.set_cons_zero, List.set_cons_succ])
      refine wpAnyH_take (i := 3) (oi := ⟨some 11, _, _, _, _, _⟩) (v := .bool false) rfl (by kernel_rfl) (by kernel_rfl) (by kernel_rfl) (fun _ _ _ h => h) (Or.inl ⟨by rfl, by intro WW hSw; (try dsimp only at hSw); go_simp⟩) (by assumption) ?_
      (try simp only [Act.put, List.setIfInBounds_toArray, List.set_cons_zero, List.set_cons_succ])
      refine wpAnyH_take (i := 4) (oi := ⟨some 12, _, _, _, _, _⟩) (v := undef) rfl (by kernel_rfl) (by kernel_rfl) (by kernel_rfl) (fun _ _ _ h => h) (Or.inr ⟨by rfl, rfl⟩) (by assumption) ?_
      (try simp only [Act.put, List.setIfInBounds_toArray, List.set_cons_zero, List.set_cons_succ])
      refine wpAnyH_take (i := 5) (oi := ⟨some 13, _, _, _, _, _⟩) (v := undef) rfl (by kernel_rfl) (by kernel_rfl) (by kernel_rfl) (fun _ _ _ h => h) (Or.inr ⟨by rfl, rfl⟩) (by assumption) ?_
      (try simp only [Act.put, List.setIfInBounds_toArray, List.set_cons_zero, List.set_cons_succ])
      refine wpAnyH_take (i := 6) (oi := ⟨some 14, _, _, _, _, _⟩) (v := undef) rfl (by kernel_rfl) (by kernel_rfl) (by kernel_rfl) (fun _ _ _ h => h) (Or.inr ⟨by rfl, rfl⟩) (by assumption) ?_
      (try simp only [Act.put, List.setIfInBounds_toArray, List.set_cons_zero, List.set_cons_succ])
      refine wpAnyH_take (i := 7) (oi := ⟨some 15, _, _, _, _, _⟩) (v := .bool false) rfl (by kernel_rfl) (by kernel_rfl) (by kernel_rfl) (fun _ _ _ h => h) (Or.inl ⟨by rfl, by intro WW hSw; (try dsimp only at hSw); go_simp⟩) (by assumption) ?_
      (try simp only [Act.put, List.setIfInBounds_toArray, List.set_cons_zero, List.set_cons_succ])
      refine wpAnyH_one (i := 8) (oi := ⟨none, _, _, _, _, _⟩) rfl (by kernel_rfl) (fun K hK => ?_)
      rw [if_pos (by rfl)]
      refine wp_store_mid 27 _ _ rfl (w.heap.size + 1) 0 n.side.cl.toArray rfl rfl (row_there (H1.out.below g3 H1.out.lt) (Nat.le_refl 21)) ndI (all_oneCell_toArray (cl_one _)) ?_
      have K0 := NdAt_setCells (n := n.side) hSn (show w.heap.size + 1 ≠ w.heap.size by omega) n.side.cl
      refine hK _ _ K0 (fun hSn2 => ?_)
      clear hK K
      (try simp only [Act.put, List.setIfInBounds_toArray, List.set_cons_zero, List.set_cons_succ])
      refine wpAnyH_take (i := 9) (oi := ⟨some 3, _, _, _, _, _⟩) (v := .bool false) rfl (by kernel_rfl) (by kernel_rfl) (by kernel_rfl) (fun _ _ _ h => h) (Or.inl ⟨by rfl, by intro WW hSw; (try dsimp only at hSw); go_simp⟩) (by assumption) ?_
      (try simp only [Act.put, List.setIfInBounds_toArray, List.set_cons_zero, List.set_cons_succ])
      refine wpAnyH_done (by kernel_rfl) ?_ _
      have H1f := Lib.hid (row_setCells (vs := n.side.cl) (H1.out.below g3 H1.out.lt) rfl)
      have HBf := Lib.hid (setCells_low n.side.cl (show w.heap.size ≤ w.heap.size + 1 by omega) (low_and HB2.out g3))
      clear K0 hSn hHeld
      go_wp2
      refine bodyPost_ret (results_node_tmp rfl _ _ (w.heap.size + 1) n.side rfl H1f.out) rfl ⟨?_, HBf.out⟩
      rw [HD.out]
      rfl
    | true =>
      have HD := Lib.hid (show rightB n = decide (iv < 0) by rw [hrb]; rfl)
      clear hrb
      go_enter Try.func4, Try.ntmps4
      go_wp2_with (rw [← HW1.out])
      rw [← HW2.out]
      refine wp_region_held_drew (S := fun W' => NdAt W' w.heap.size n.side) (by kernel_rfl) (H0.out.below (drew_low11 _) H0.out.lt) (fun hHeld => ?_)
      refine wpAnyH_take (i := 0) (oi := ⟨some 8, _, _, _, _, _⟩) (v := .agg n.side.cl.toArray) rfl (by kernel_rfl) (by kernel_rfl) (by kernel_rfl) (fun _ _ _ h => h) (yieldsIf_load_mid (by rfl) _ _ rfl w.heap.size 0 rfl n.side.cl _ (fun w' hw' => ndR hw') Try.underlying27 rfl ndI) (by assumption) ?_
      (try simp only [Act.put, List.setIfInBounds_toArray, List.set_cons_zero, List.set_cons_succ])
      refine wpAnyH_take (i := 1) (oi := ⟨some 9, _, _, _, _, _⟩) (v := .agg n.side.cl.toArray) rfl (by kernel_rfl) (by kernel_rfl) (by kernel_rfl) (fun _ _ _ h => h) (yieldsIf_load_mid (by rfl) _ _ rfl w.heap.size 0 rfl n.side.cl _ (fun w' hw' => ndR hw') Try.underlying27 rfl ndI) (by assumption) ?_
      (try simp only [Act.put, List.setIfInBounds_toArray, List.set_cons_zero, List.set_cons_succ])
      refine wpAnyH_one (i := 2) (oi := ⟨some 10, _, _, _, _, _⟩) rfl (by kernel_rfl) (fun K hK => ?_)
      refine step_calls (by rfl) 18 EGa.out [.tmp 9, .const (.int .u64 0), .const (.bool false)] _ rfl [n.side.V, .int .u64 0, .bool false] rfl (HM.out _) ?_
      rintro e w3 ⟨rfl, h3⟩
      have g3 := low_and (drew_low11 _) h3
      refine ⟨_, rfl, hK _ _ (hHeld.below h3 hHeld.lt) (fun hSn => ?_)⟩
      clear hK K
      (try simp only [Act.put, List.setIfInBounds_toArray, List.set_cons_zero, List.set_cons_succ])
      refine wpAnyH_take (i := 3) (oi := ⟨some 11, _, _, _, _, _⟩) (v := .bool true) rfl (by kernel_rfl) (by kernel_rfl) (by kernel_rfl) (fun _ _ _ h => h) (Or.inl ⟨by rfl, by intro WW hSw; (try dsimp only at hSw); go_simp⟩) (by assumption) ?_
      (try simp only [Act.put, List.setIfInBounds_toArray, List.set_cons_zero, List.set_cons_succ])
      refine wpAnyH_take (i := 4) (oi := ⟨some 12, _, _, _, _, _⟩) (v := .agg n.side.cl.toArray) rfl (by kernel_rfl) (by kernel_rfl) (by kernel_rfl) (fun _ _ _ h => h) (yieldsIf_load_mid (by rfl) _ _ rfl w.heap.size 0 rfl n.side.cl _ (fun w' hw' => ndR hw') Try.underlying27 rfl ndI) (by assumption) ?_
      (try simp only [Act.put, List.setIfInBounds_toArray, List.set_cons_zero, List.set_cons_succ])
      refine wpAnyH_one (i := 5) (oi := ⟨some 13, _, _, _, _, _⟩) rfl (by kernel_rfl) (fun K hK => ?_)
      refine step_calls (by rfl) 15 EGb.out [.tmp 12] _ rfl [n.side.V] rfl (HI.out _) ?_
      rintro e w4 ⟨rfl, h4⟩
      have g4 := low_and g3 h4
      refine ⟨_, rfl, hK _ _ (hSn.below h4 hSn.lt) (fun hSn => ?_)⟩
      clear hK K
      (try simp only [Act.put, List.setIfInBounds_toArray, List.set_cons_zero, List.set_cons_succ])
      refine wpAnyH_take (i := 6) (oi := ⟨some 14, _, _, _, _, _⟩) (v := .bool (decide (iv < 0))) rfl (by kernel_rfl) (by kernel_rfl) (by kernel_rfl) (fun _ _ _ h => h) (Or.inl ⟨by rfl, by intro WW hSw; (try dsimp only at hSw); go_simp⟩) (by assumption) ?_
      (try simp only [Act.put, List.setIfInBounds_toArray, List.set_cons_zero, List.set_cons_succ])
      refine wpAnyH_take (i := 7) (oi := ⟨some 15, _, _, _, _, _⟩) (v := .bool (decide (iv < 0))) rfl (by kernel_rfl) (by kernel_rfl) (by kernel_rfl) (fun _ _ _ h => h) (Or.inl ⟨by rfl, by intro WW hSw; (try dsimp only at hSw); go_simp⟩) (by assumption) ?_
      (try simp only [Act.put, List.setIfInBounds_toArray, List.set_cons_zero, List.set_cons_succ])
      refine wpAnyH_one (i := 8) (oi := ⟨none, _, _, _, _, _⟩) rfl (by kernel_rfl) (fun K hK => ?_)
      rw [if_pos (by rfl)]
      refine wp_store_mid 27 _ _ rfl (w.heap.size + 1) 0 n.side.cl.toArray rfl rfl (row_there (H1.out.below g4 H1.out.lt) (Nat.le_refl 21)) ndI (all_oneCell_toArray (cl_one _)) ?_
      have K0 := NdAt_setCells (n := n.side) hSn (show w.heap.size + 1 ≠ w.heap.size by omega) n.side.cl
      refine hK _ _ K0 (fun hSn2 => ?_)
      clear hK K
      (try simp only [Act.put, List.setIfInBounds_toArray, List.set_cons_zero, List.set_cons_succ])
      refine wpAnyH_take (i := 9) (oi := ⟨some 3, _, _, _, _, _⟩) (v := .bool (decide (iv < 0))) rfl (by kernel_rfl) (by kernel_rfl) (by kernel_rfl) (fun _ _ _ h => h) (Or.inl ⟨by rfl, by intro WW hSw; (try dsimp only at hSw); go_simp⟩) (by assumption) ?_
      (try simp only [Act.put, List.setIfInBounds_toArray, List.set_cons_zero, List.set_cons_succ])
      refine wpAnyH_done (by kernel_rfl) ?_ _
      have H1f := Lib.hid (row_setCells (vs := n.side.cl) (H1.out.below g4 H1.out.lt) rfl)
      have HBf := Lib.hid (setCells_low n.side.cl (show w.heap.size ≤ w.heap.size + 1 by omega) (low_and HB2.out g4))
      clear K0 hSn hHeld
      go_wp2
      refine bodyPost_ret (results_node_tmp rfl _ _ (w.heap.size + 1) n.side rfl H1f.out) rfl ⟨?_, HBf.out⟩
      rw [HD.out]
      rfl
end Go.Proofs.Yteojhhfcfdkmdaa
/- fast's Insert: of any node, any key, any pointer; conditions: numbers of the width. -/
namespace Go.Proofs.Yteojhhfcfdkmdaa
open Go.RowKit
set_option linter.unusedVariables false
/-- Stores, and an error, in new memory. -/
def PutsOut (w : World) (r : List (Int × Int) × Int) (e : Ending) (w' : World) : Prop :=
  (∃ v, e = .returned (.tuple #[v, .int .i64 r.2]) ∧ w'.ownsRow w.heap.size 64 2 v r.1.length (flatE r.1)) ∧ Below w.heap.size w w'
/-- A whole change. -/
def wholeL (base : Int) (n : Nd) (l : List (Int × Int)) : List (Int × Int) := [(base + 24, IntKind.u64.wrap (n.ct + 1))] ++ l ++ [(base + 24, IntKind.u64.wrap (n.ct + 2))]
def insL (base : Int) (n : Nd) (key ptr : Int) : List (Int × Int) := wholeL base n (mkRoom base n (n.at key) ++ [(kA base (n.at key), key), (pA base (n.at key), ptr)])
def insP (base : Int) (n : Nd) (key ptr : Int) : List (Int × Int) × Int :=
  if refE base n [ptr] ≠ 0 then ([], refE base n [ptr]) else if ((n.find key).isSome || !n.mayHave key) = true then ([], 2) else if n.len = 8 then ([], 4) else (insL base n key ptr, 0)
theorem refE_base {b : Int} {n : Nd} {l : List Int} (h : refE b n l = 0) : 0 ≤ b ∧ b ≤ 1099511627776 := by
  unfold refE at h
  split at h
  · rename_i hc
    rw [Bool.and_eq_true, Bool.and_eq_true] at hc
    have := (bOk_iff b).1 hc.1.1
    omega
  · omega
theorem at_len (n : Nd) (key : Int) : n.at key ≤ n.len := by
  unfold Nd.at
  have hv : ∀ x ∈ n.vp, x < n.len := fun x hx => (n.vp_lt hx).1
  generalize n.vp = l at hv
  suffices H : ∀ (q l : List Nat), l = q.reverse → (∀ x ∈ l, x < n.len) → atL n key l ≤ n.len from H l.reverse l (by simp) hv
  intro q
  induction q with
  | nil => intro l hl _; subst hl; exact Nat.zero_le _
  | cons a q ih =>
    intro l hl hz
    rw [List.reverse_cons] at hl
    subst hl
    rw [atL_snoc]
    split
    · exact hz a (by simp)
    · exact ih _ rfl (fun z hz' => hz z (List.mem_append_left _ hz'))
theorem ChAt.mono {w : World} {B B' b : Nat} {base : Int} {n : Nd} {l : List (Int × Int)} (h : ChAt w B b base n l) (hb : B' ≤ B) : ChAt w B' b base n l := by
  obtain ⟨hB, v, hr, ho, hn⟩ := h
  exact ⟨by omega, v, hr, ownS_mono ho hb, hn⟩
theorem ads_single (w : World) (a : Int) : AdsAt (w.alloc (.cells #[.int .u64 a] 23)) (.slice (some ⟨w.heap.size, 0, none⟩) 1 1) [a] := by
  have hr := Row.new w 23 #[.int .u64 a]
  refine ⟨_, 1, rfl, fun _ => ⟨w.heap.size, 0, rfl, fun i e he => ?_⟩⟩
  match i, he with
  | 0, he => cases he; exact hr.cell 0
theorem mkRoom_len (base : Int) (n : Nd) (p : Nat) (h7 : n.len ≤ 7) : (mkRoom base n p).length ≤ 20 := by
  unfold mkRoom
  rw [List.length_append, List.length_append, upN_len]
  split <;> simp <;> omega
set_option maxRecDepth 100000 in
set_option maxHeartbeats 8000000 in
theorem ins_any {base : Int} (hb : 0 ≤ base) (n : Nd) (key ptr : Int) (w : World) : Calls Try.prog 42 #[.int .u64 base, n.V, .int .u64 key, .int .u64 ptr] w (PutsOut w (insP base n key ptr)) := by
  have r0 := Row.new w 27 n.cl.toArray
  obtain ⟨Wa, hWa⟩ : ∃ Wa, Wa = w.alloc (.cells n.cl.toArray 27) := ⟨_, rfl⟩
  rw [← hWa] at r0
  have hb0 : Below w.heap.size w Wa := by rw [hWa]; exact alloc_low _ _
  have HB0 := Lib.hid hb0
  have HRR := Lib.hid (fun W' (hb : Below Wa.heap.size Wa W') => (show NdAt W' w.heap.size n from r0.below hb r0.lt))
  have HWa := Lib.hid hWa
  have HWs := Lib.hid (show w.heap.size ≤ Wa.heap.size from hb0.size)
  have HAl := Lib.hid (alloc_low Wa (.cells #[.int .u64 ptr] 23))
  have HRef := Lib.hid (refusal_any hb n (ads_single Wa ptr) (by simp))
  have HFd := Lib.hid (fun W' => nFind_any n key W')
  have HMH := Lib.hid (fun W' => mayHave_any n key W')
  have HLn := Lib.hid (fun W' => nlen_any n W')
  have HAt := Lib.hid (fun W' => nAt_any n key W')
  have hP : insP base n key ptr = if refE base n [ptr] ≠ 0 then ([], refE base n [ptr]) else if ((n.find key).isSome || !n.mayHave key) = true then ([], 2) else if n.len = 8 then ([], 4) else (insL base n key ptr, 0) := rfl
  have hbb := fun h => refE_base (b := base) (n := n) (l := [ptr]) h
  have hal := at_len n key
  have hl8 := n.len_le
  generalize hR : insP base n key ptr = R at hP ⊢
  clear hR
  have HIL := Lib.hid (show insL base n key ptr = wholeL base n (mkRoom base n (n.at key) ++ [(kA base (n.at key), key), (pA base (n.at key), ptr)]) from rfl)
  have HML := Lib.hid (fun p (h : n.len ≤ 7) => mkRoom_len base n p h)
  generalize insL base n key ptr = IL at hP HIL
  generalize refE base n [ptr] = E at HRef hP hbb
  obtain ⟨a, ha⟩ : ∃ a, a = n.at key := ⟨_, rfl⟩
  rw [← ha] at HAt hal HIL
  obtain ⟨f, hf⟩ : ∃ f, f = n.find key := ⟨_, rfl⟩
  rw [← hf] at HFd hP
  generalize n.mayHave key = mh at HMH hP
  have hr0 := Below.refl Wa.heap.size Wa
  clear r0 hWa hb0 ha hf
  obtain hE | hE : E ≠ 0 ∨ E = 0 := by omega
  · have HR := Lib.hid (show R = ([], E) by rw [hP, if_pos hE])
    have hEb : (E != 0) = true := by simpa using hE
    clear hP hbb
    go_enter Try.func42, Try.ntmps42
    go_wp2_with (first
      | (rw [← HWa.out]; refine wpList_load_mid rfl _ _ rfl w.heap.size 0 rfl n.cl _ (ndR (HRR.out _ (by assumption))) Try.underlying27 rfl ndI ?_)
      | (go_at_call 57; refine HRef.out.mono ?_; rintro e w1 ⟨rfl, h1⟩; have h1 := low_and HAl.out h1))
    go_ret2
    rw [HR.out]
    exact ⟨⟨_, rfl, World.ownsRow_nil _ _ _ _⟩, low_and HB0.out h1⟩
  · subst hE
    rw [if_neg (by simp)] at hP
    obtain ⟨g1, g2⟩ := hbb rfl
    have HP := Lib.hid hP
    clear hP hbb
    have hbse : 0 ≤ base ∧ base ≤ 1099511627776 := ⟨g1, g2⟩
    cases f with
    | some x =>
      have HFd2 := Lib.hid (fun W' => (HFd.out W').mono fun e w' h => (show e = .returned (.tuple #[.int .i64 (x : Int), .bool true]) ∧ Below W'.heap.size W' w' from h))
      have HR := Lib.hid (show R = ([], 2) by rw [HP.out]; rfl)
      clear HFd
      go_enter Try.func42, Try.ntmps42
      go_wp2_with (first
      | (rw [← HWa.out]; (refine wpList_load_mid rfl _ _ rfl w.heap.size 0 rfl n.cl _ (ndR (HRR.out _ (by assumption))) Try.underlying27 rfl ndI ?_))
      | (refine wpList_load_mid rfl _ _ rfl w.heap.size 0 rfl n.cl _ (ndR (HRR.out _ (by assumption))) Try.underlying27 rfl ndI ?_)
      | (refine wpList_load_midg (by rfl) _ _ rfl w.heap.size 0 rfl n.cl _ (ndR (HRR.out _ (by assumption))) Try.underlying27 rfl ndI ?_)
      | (go_at_call 57; refine HRef.out.mono ?_; rintro e w1 ⟨rfl, h1⟩; have h1 := low_and HAl.out h1)
      | (go_at_call 58; refine (HFd2.out _).mono ?_; rintro e w2 ⟨rfl, h2⟩; have h2 := low_and h1 h2)
      | (go_at_call 59; refine (HMH.out _).mono ?_; rintro e w3 ⟨rfl, h3⟩; have h3 := low_and h2 h3)
      | (go_at_call 60; refine (HLn.out _).mono ?_; rintro e w4 ⟨rfl, h4⟩; have h4 := low_and h3 h4))
      go_ret2
      rw [HR.out]
      exact ⟨⟨_, rfl, World.ownsRow_nil _ _ _ _⟩, low_and HB0.out h2⟩
    | none =>
      have HFd2 := Lib.hid (fun W' => (HFd.out W').mono fun e w' h => (show e = .returned (.tuple #[.int .i64 0, .bool false]) ∧ Below W'.heap.size W' w' from h))
      clear HFd
      cases mh with
      | false =>
        have HR := Lib.hid (show R = ([], 2) by rw [HP.out]; rfl)
        go_enter Try.func42, Try.ntmps42
        go_wp2_with (first
      | (rw [← HWa.out]; (refine wpList_load_mid rfl _ _ rfl w.heap.size 0 rfl n.cl _ (ndR (HRR.out _ (by assumption))) Try.underlying27 rfl ndI ?_))
      | (refine wpList_load_mid rfl _ _ rfl w.heap.size 0 rfl n.cl _ (ndR (HRR.out _ (by assumption))) Try.underlying27 rfl ndI ?_)
      | (refine wpList_load_midg (by rfl) _ _ rfl w.heap.size 0 rfl n.cl _ (ndR (HRR.out _ (by assumption))) Try.underlying27 rfl ndI ?_)
      | (go_at_call 57; refine HRef.out.mono ?_; rintro e w1 ⟨rfl, h1⟩; have h1 := low_and HAl.out h1)
      | (go_at_call 58; refine (HFd2.out _).mono ?_; rintro e w2 ⟨rfl, h2⟩; have h2 := low_and h1 h2)
      | (go_at_call 59; refine (HMH.out _).mono ?_; rintro e w3 ⟨rfl, h3⟩; have h3 := low_and h2 h3)
      | (go_at_call 60; refine (HLn.out _).mono ?_; rintro e w4 ⟨rfl, h4⟩; have h4 := low_and h3 h4))
        go_ret2
        rw [HR.out]
        exact ⟨⟨_, rfl, World.ownsRow_nil _ _ _ _⟩, low_and HB0.out h3⟩
      | true =>
        obtain h8 | h8 : n.len = 8 ∨ n.len ≤ 7 := by omega
        · have HR := Lib.hid (show R = ([], 4) by rw [HP.out, h8]; rfl)
          rw [h8] at HLn
          clear HP
          go_enter Try.func42, Try.ntmps42
          go_wp2_with (first
      | (rw [← HWa.out]; (refine wpList_load_mid rfl _ _ rfl w.heap.size 0 rfl n.cl _ (ndR (HRR.out _ (by assumption))) Try.underlying27 rfl ndI ?_))
      | (refine wpList_load_mid rfl _ _ rfl w.heap.size 0 rfl n.cl _ (ndR (HRR.out _ (by assumption))) Try.underlying27 rfl ndI ?_)
      | (refine wpList_load_midg (by rfl) _ _ rfl w.heap.size 0 rfl n.cl _ (ndR (HRR.out _ (by assumption))) Try.underlying27 rfl ndI ?_)
      | (go_at_call 57; refine HRef.out.mono ?_; rintro e w1 ⟨rfl, h1⟩; have h1 := low_and HAl.out h1)
      | (go_at_call 58; refine (HFd2.out _).mono ?_; rintro e w2 ⟨rfl, h2⟩; have h2 := low_and h1 h2)
      | (go_at_call 59; refine (HMH.out _).mono ?_; rintro e w3 ⟨rfl, h3⟩; have h3 := low_and h2 h3)
      | (go_at_call 60; refine (HLn.out _).mono ?_; rintro e w4 ⟨rfl, h4⟩; have h4 := low_and h3 h4))
          go_ret2
          rw [HR.out]
          exact ⟨⟨_, rfl, World.ownsRow_nil _ _ _ _⟩, low_and HB0.out h4⟩
        · have HR := Lib.hid (show R = (IL, 0) by rw [HP.out, if_neg (by simp), if_neg (by omega)])
          have h8b : ((n.len : Int) == 8) = false := by simp; omega
          have HBg := Lib.hid (fun W' => begin_any hbse n W')
          have eg1 := enters_of Try.func61 (by kernel_rfl) rfl
          have eg2 := enters_of Try.func62 (by kernel_rfl) rfl
          have EG1 := Lib.hid eg1
          have EG2 := Lib.hid eg2
          clear HP eg1 eg2
          go_enter Try.func42, Try.ntmps42
          go_wp2_with (first
      | (rw [← HWa.out]; (refine wpList_load_mid rfl _ _ rfl w.heap.size 0 rfl n.cl _ (ndR (HRR.out _ (by assumption))) Try.underlying27 rfl ndI ?_))
      | (refine wpList_load_mid rfl _ _ rfl w.heap.size 0 rfl n.cl _ (ndR (HRR.out _ (by assumption))) Try.underlying27 rfl ndI ?_)
      | (refine wpList_load_midg (by rfl) _ _ rfl w.heap.size 0 rfl n.cl _ (ndR (HRR.out _ (by assumption))) Try.underlying27 rfl ndI ?_)
      | (go_at_call 57; refine HRef.out.mono ?_; rintro e w1 ⟨rfl, h1⟩; have h1 := low_and HAl.out h1)
      | (go_at_call 58; refine (HFd2.out _).mono ?_; rintro e w2 ⟨rfl, h2⟩; have h2 := low_and h1 h2)
      | (go_at_call 59; refine (HMH.out _).mono ?_; rintro e w3 ⟨rfl, h3⟩; have h3 := low_and h2 h3)
      | (go_at_call 60; refine (HLn.out _).mono ?_; rintro e w4 ⟨rfl, h4⟩; have h4 := low_and h3 h4))
          refine wp_region_held_drew (S := fun W' => Below Wa.heap.size Wa W') (by kernel_rfl) (low_and h4 (drew_low9 _)) (fun hHeld => ?_)
          refine wpAnyH_take (i := 0) (oi := ⟨some 39, _, _, _, _, _⟩) (v := .int .u64 base) rfl (by kernel_rfl) (by kernel_rfl) (by kernel_rfl) (fun _ _ _ h => h) (Or.inl ⟨by rfl, by intro w hSw; go_simp⟩) (by assumption) ?_
          simp only [Act.put, List.setIfInBounds_toArray, List.set_cons_zero, List.set_cons_succ]
          refine wpAnyH_take (i := 1) (oi := ⟨some 40, _, _, _, _, _⟩) (v := .agg n.cl.toArray) rfl (by kernel_rfl) (by kernel_rfl) (by kernel_rfl) (fun _ _ _ h => h) (yieldsIf_load_mid (by rfl) _ _ rfl w.heap.size 0 rfl n.cl _ (fun w' hw' => ndR (HRR.out _ hw')) Try.underlying27 rfl ndI) (by assumption) ?_
          simp only [Act.put, List.setIfInBounds_toArray, List.set_cons_zero, List.set_cons_succ]
          refine wpAnyH_take (i := 3) (oi := ⟨some 42, _, _, _, _, _⟩) (v := .agg n.cl.toArray) rfl (by kernel_rfl) (by kernel_rfl) (by kernel_rfl) (fun _ _ _ h => h) (yieldsIf_load_mid (by rfl) _ _ rfl w.heap.size 0 rfl n.cl _ (fun w' hw' => ndR (HRR.out _ hw')) Try.underlying27 rfl ndI) (by assumption) ?_
          simp only [Act.put, List.setIfInBounds_toArray, List.set_cons_zero, List.set_cons_succ]
          refine wpAnyH_take (i := 4) (oi := ⟨some 43, _, _, _, _, _⟩) (v := .int .u64 key) rfl (by kernel_rfl) (by kernel_rfl) (by kernel_rfl) (fun _ _ _ h => h) (Or.inl ⟨by rfl, by intro w hSw; go_simp⟩) (by assumption) ?_
          simp only [Act.put, List.setIfInBounds_toArray, List.set_cons_zero, List.set_cons_succ]
          refine wpAnyH_one (i := 2) (oi := ⟨some 41, _, _, _, _, _⟩) rfl (by kernel_rfl) (fun K hK => ?_)
          refine step_calls (by rfl) 61 EG1.out [.tmp 39, .tmp 40] _ rfl [.int .u64 base, n.V] rfl (HBg.out _) ?_
          rintro e w5 ⟨b, rfl, hch, hb5⟩
          have h5 := low_and hHeld (hb5.mono (Nat.le_refl _))
          refine ⟨_, rfl, hK _ _ h5 (fun _ => ?_)⟩
          clear hK
          have HCh := Lib.hid (ChAt.mono (B' := w.heap.size) hch (Nat.le_trans HWs.out hHeld.size))
          clear hch
          simp only [Act.put, List.setIfInBounds_toArray, List.set_cons_zero, List.set_cons_succ]
          refine wpAnyH_one (i := 5) (oi := ⟨some 44, _, _, _, _, _⟩) rfl (by kernel_rfl) (fun K hK => ?_)
          refine step_calls (by rfl) 62 EG2.out [.tmp 42, .tmp 43] _ rfl [n.V, .int .u64 key] rfl (HAt.out _) ?_
          rintro e w6 ⟨rfl, hb6⟩
          have h6 := low_and h5 hb6
          refine ⟨_, rfl, hK _ _ h6 (fun _ => ?_)⟩
          clear hK
          have HCh6 := Lib.hid (HCh.out.low hb6)
          simp only [Act.put, List.setIfInBounds_toArray, List.set_cons_zero, List.set_cons_succ]
          refine wpAnyH_take (i := 6) (oi := ⟨some 13, _, _, _, _, _⟩) (v := .pointer (some ⟨b, 0, none⟩)) rfl (by kernel_rfl) (by kernel_rfl) (by kernel_rfl) (fun _ _ _ h => h) (Or.inl ⟨by rfl, by intro w hSw; go_simp⟩) (by assumption) ?_
          simp only [Act.put, List.setIfInBounds_toArray, List.set_cons_zero, List.set_cons_succ]
          refine wpAnyH_take (i := 7) (oi := ⟨some 14, _, _, _, _, _⟩) (v := .int .i64 (a : Int)) rfl (by kernel_rfl) (by kernel_rfl) (by kernel_rfl) (fun _ _ _ h => h) (Or.inl ⟨by rfl, by intro w hSw; go_simp⟩) (by assumption) ?_
          simp only [Act.put, List.setIfInBounds_toArray, List.set_cons_zero, List.set_cons_succ]
          refine wpAnyH_done (by kernel_rfl) ?_ _
          have ha7 : a ≤ 7 := by omega
          have HMR := Lib.hid (makeRoom_any HCh6.out (by simp) hbse (p := a) hal h8)
          have hml := HML.out a h8
          generalize hmk : mkRoom base n a = M at HMR hml HIL
          have HKey := Lib.hid (fun W (h : ChAt W w.heap.size b base n ([(base + 24, IntKind.u64.wrap (n.ct + 1))] ++ M)) => ckey_any h (by rw [List.length_append, List.length_singleton]; omega) hbse (p := a) (by omega) key)
          have HPtr := Lib.hid (fun W (h : ChAt W w.heap.size b base n ([(base + 24, IntKind.u64.wrap (n.ct + 1))] ++ M ++ [(kA base a, key)])) => cptr_any h (by rw [List.length_append, List.length_append, List.length_singleton, List.length_singleton]; omega) hbse (p := a) (by omega) ptr)
          have HEnd := Lib.hid (fun W (h : ChAt W w.heap.size b base n ([(base + 24, IntKind.u64.wrap (n.ct + 1))] ++ M ++ [(kA base a, key)] ++ [(pA base a, ptr)])) => cend_any h (by simp only [List.length_append, List.length_singleton]; omega) hbse)
          have HILf := Lib.hid (show IL = [(base + 24, IntKind.u64.wrap (n.ct + 1))] ++ M ++ [(kA base a, key)] ++ [(pA base a, ptr)] ++ [(base + 24, IntKind.u64.wrap (n.ct + 2))] by rw [HIL.out]; simp [wholeL])
          have H06 := Lib.hid (low_and HB0.out h6)
          clear hmk hml HIL HML
          go_wp2_with (first
            | (go_at_call 63; refine HMR.out.mono ?_; rintro e w7 ⟨rfl, h7, hb7⟩)
            | (go_at_call 64; refine (HKey.out _ h7).mono ?_; rintro e w8 ⟨rfl, h8c, hb8⟩)
            | (go_at_call 65; refine (HPtr.out _ h8c).mono ?_; rintro e w9 ⟨rfl, h9, hb9⟩)
            | (go_at_call 66; refine (HEnd.out _ h9).mono ?_; rintro e w10 ⟨⟨v, rfl, ho⟩, hb10⟩))
          go_ret2
          rw [HR.out]
          refine ⟨⟨_, rfl, ?_⟩, H06.out.trans (hb7.trans (hb8.trans (hb9.trans hb10)))⟩
          rw [HILf.out, List.length_append (bs := [(base + 24, IntKind.u64.wrap (n.ct + 2))])]
          exact ho
end Go.Proofs.Yteojhhfcfdkmdaa
