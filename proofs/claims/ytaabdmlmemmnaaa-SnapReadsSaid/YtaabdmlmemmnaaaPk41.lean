/- Texts of this claim, packed: SnRt. -/
import Derived.Test.YtaabdmlmemmnaaaPk40
import Derived.Test.YtaabdmlmemmnaaaPk25
/- Which nodes the law takes; no conditions. -/
namespace Go.Proofs.Ytaabdmlmemmnaaa
open Go.RowKit
set_option linter.unusedVariables false
attribute [local go_sem] Oper.semAt_some
theorem NdAt_setCells {w : World} {b g : Nat} {n : Nd} (h : NdAt w g n) (hb : b ≠ g) (vs : List Value) : NdAt (w.setCells b 0 vs) g n := by
  have : ∀ (vs : List Value) (o : Nat) (w : World), NdAt w g n → NdAt (w.setCells b o vs) g n := by
    intro vs
    induction vs with
    | nil => exact fun o w h => h
    | cons v t ih => exact fun o w h => ih (o + 1) _ (h.other (p := ⟨b, o, none⟩) (fun e => hb e.symm) v)
  exact this vs 0 w h
theorem drew_low11 (w : World) : Below w.heap.size w w.drew := (Below.refl _ w).drew
set_option maxRecDepth 100000 in
set_option maxHeartbeats 8000000 in
theorem right11_any (n : Nd) (w : World) : Calls Try.prog 7 #[n.V] w fun e w' => e = .returned (.tuple #[n.side.V, .bool (rightB n)]) ∧ Below w.heap.size w w' := by
  have mixed : Try.prog.follows .mixedOrders = true := by kernel_rfl
  have rx := Row.new w 27 n.cl.toArray
  have ry := Row.new (w.alloc (.cells n.cl.toArray 27)) 27 zeroNd.cl.toArray
  simp only [World.size_alloc] at ry
  obtain ⟨W1, hW1⟩ : ∃ W1, W1 = (w.alloc (.cells n.cl.toArray 27)).alloc (.cells #[.int .i64 0, .int .u64 0, .int .u64 0, .int .u64 0, .int .u64 0, .int .u64 0, .int .u64 0, .int .u64 0, .int .u64 0, .int .u64 0, .int .u64 0, .int .u64 0, .int .u64 0, .int .u64 0, .int .u64 0, .int .u64 0, .int .u64 0, .int .u64 0, .int .u64 0, .int .u64 0, .int .u64 0] 27) := ⟨_, rfl⟩
  have hb1 : Below w.heap.size w W1 := by rw [hW1]; exact low_and (alloc_low _ _) (alloc_low _ _)
  have r0 : NdAt W1 w.heap.size n := by rw [hW1]; exact rx.alloc _
  have r1 : NdAt W1 (w.heap.size + 1) zeroNd := by rw [hW1]; exact ry
  have hs1 : w.heap.size + 2 ≤ W1.heap.size := by rw [hW1]; simp
  have c2 : W1.cell? ⟨w.heap.size, 2, none⟩ = some (.int .u64 n.nx) := ndAt_at r0 2
  have f2 := r0.free 2
  have EGa := Lib.hid (enters_of Try.func31 (by kernel_rfl) rfl)
  have EGb := Lib.hid (enters_of Try.func19 (by kernel_rfl) rfl)
  have HM := Lib.hid fun W' => r8May_any n.side 0 false W'
  have HI := Lib.hid fun W' => r8Inv_any n.side W'
  obtain ⟨mb, hmb⟩ : ∃ mb, mb = n.side.may 0 false := ⟨_, rfl⟩
  obtain ⟨iv, hiv⟩ : ∃ iv, iv = n.side.inv := ⟨_, rfl⟩
  have hrb : rightB n = (n.side.may 0 false && decide (n.side.inv < 0)) := rfl
  rw [← hmb, ← hiv] at hrb
  rw [← hmb] at HM
  rw [← hiv] at HI
  have HW1 := Lib.hid hW1
  clear hmb hiv hW1 rx ry
  by_cases hx : n.nx = 0
  · rw [hx] at c2
    have H0 := Lib.hid (show NdAt W1 w.heap.size n.side by rw [Nd.side_eq hx]; exact r0)
    have H1 := Lib.hid r1
    have HB2 := Lib.hid hb1
    clear hx r0 r1 hb1 hs1
    cases mb with
    | false =>
      have HD := Lib.hid (show rightB n = false by rw [hrb]; rfl)
      clear hrb
      go_enter Try.func7, Try.ntmps7
      go_wp2_with (rw [← HW1.out])
      refine wp_region_held_drew (S := fun W' => NdAt W' w.heap.size n.side) (by kernel_rfl) (H0.out.below (drew_low11 _) H0.out.lt) (fun hHeld => ?_)
      refine wpAnyH_take (i := 0) (oi := ⟨some 8, _, _, _, _, _⟩) (v := .agg n.side.cl.toArray) rfl (by kernel_rfl) (by kernel_rfl) (by kernel_rfl) (fun _ _ _ h => h) (yieldsIf_load_mid (by rfl) _ _ rfl w.heap.size 0 rfl n.side.cl _ (fun w' hw' => ndR hw') Try.underlying27 rfl ndI) (by assumption) ?_
      (try simp only [Act.put, List.setIfInBounds_toArray, List.set_cons_zero, List.set_cons_succ])
      refine wpAnyH_take (i := 1) (oi := ⟨some 9, _, _, _, _, _⟩) (v := .agg n.side.cl.toArray) rfl (by kernel_rfl) (by kernel_rfl) (by kernel_rfl) (fun _ _ _ h => h) (yieldsIf_load_mid (by rfl) _ _ rfl w.heap.size 0 rfl n.side.cl _ (fun w' hw' => ndR hw') Try.underlying27 rfl ndI) (by assumption) ?_
      (try simp only [Act.put, List.setIfInBounds_toArray, List.set_cons_zero, List.set_cons_succ])
      refine wpAnyH_one (i := 2) (oi := ⟨some 10, _, _, _, _, _⟩) rfl (by kernel_rfl) (fun K hK => ?_)
      refine step_calls (by rfl) 31 EGa.out [.tmp 9, .const (.int .u64 0), .const (.bool false)] _ rfl [n.side.V, .int .u64 0, .bool false] rfl (HM.out _) ?_
      rintro e w3 ⟨rfl, h3⟩
      have g3 := low_and (drew_low11 _) h3
      refine ⟨_, rfl, hK _ _ (hHeld.below h3 hHeld.lt) (fun hSn => ?_)⟩
      clear hK K
      (try simp only [Act.put, List.setIfInBounds_toArray, List.set_cons_zero, List.set_cons_succ])
      refine wpAnyH_take (i := 3) (oi := ⟨some 11, _, _, _, _, _⟩) (v := .bool false) rfl (by kernel_rfl) (by kernel_rfl) (by kernel_rfl) (fun _ _ _ h => h) (Or.inl ⟨by rfl, by intro WW hSw; (try dsimp only at hSw); go_simp⟩) (by assumption) ?_
      (try simp only [Act.put, List.setIfInBounds_toArray, List.set_cons_zero, List.set_cons_succ])
      refine wpAnyH_take (i := 4) (oi := ⟨some 12, _, _, _, _, _⟩) (v := undef) rfl (by kernel_rfl) (by kernel_rfl) (by kernel_rfl) (fun _ _ _ h => h) (Or.inr ⟨by rfl, rfl⟩) (by assumption) ?_
      (try simp only [Act.put, List.setIfInBounds_toArray, List.set_cons_zero, List.set_cons_succ])
      refine wpAnyH_take (i := 5) (oi := ⟨some 13, _, _, _, _, _⟩) (v := undef) rfl (by kernel_rfl) (by kernel_rfl) (by kernel_rfl) (fun _ _ _ h => h) (Or.inr ⟨by rfl, rfl⟩) (by assumption) ?_
      (try simp only [Act.put, List.setIfInBounds_toArray, List.set_cons_zero, List.set_cons_succ])
      refine wpAnyH_take (i := 6) (oi := ⟨some 14, _, _, _, _, _⟩) (v := undef) rfl (by kernel_rfl) (by kernel_rfl) (by kernel_rfl) (fun _ _ _ h => h) (Or.inr ⟨by rfl, rfl⟩) (by assumption) ?_
      (try simp only [Act.put, List.setIfInBounds_toArray, List.set_cons_zero, List.set_cons_succ])
      refine wpAnyH_take (i := 7) (oi := ⟨some 15, _, _, _, _, _⟩) (v := .bool false) rfl (by kernel_rfl) (by kernel_rfl) (by kernel_rfl) (fun _ _ _ h => h) (Or.inl ⟨by rfl, by intro WW hSw; (try dsimp only at hSw); go_simp⟩) (by assumption) ?_
      (try simp only [Act.put, List.setIfInBounds_toArray, List.set_cons_zero, List.set_cons_succ])
      refine wpAnyH_one (i := 8) (oi := ⟨none, _, _, _, _, _⟩) rfl (by kernel_rfl) (fun K hK => ?_)
      rw [if_pos (by rfl)]
      refine wp_store_mid 27 _ _ rfl (w.heap.size + 1) 0 n.side.cl.toArray rfl rfl (row_there (H1.out.below g3 H1.out.lt) (Nat.le_refl 21)) ndI (all_oneCell_toArray (cl_one _)) ?_
      have K0 := NdAt_setCells (n := n.side) hSn (show w.heap.size + 1 ≠ w.heap.size by omega) n.side.cl
      refine hK _ _ K0 (fun hSn2 => ?_)
      clear hK K
      (try simp only [Act.put, List.setIfInBounds_toArray, List.set_cons_zero, List.set_cons_succ])
      refine wpAnyH_take (i := 9) (oi := ⟨some 3, _, _, _, _, _⟩) (v := .bool false) rfl (by kernel_rfl) (by kernel_rfl) (by kernel_rfl) (fun _ _ _ h => h) (Or.inl ⟨by rfl, by intro WW hSw; (try dsimp only at hSw); go_simp⟩) (by assumption) ?_
      (try simp only [Act.put, List.setIfInBounds_toArray, List.set_cons_zero, List.set_cons_succ])
      refine wpAnyH_done (by kernel_rfl) ?_ _
      have H1f := Lib.hid (row_setCells (vs := n.side.cl) (H1.out.below g3 H1.out.lt) rfl)
      have HBf := Lib.hid (setCells_low n.side.cl (show w.heap.size ≤ w.heap.size + 1 by omega) (low_and HB2.out g3))
      clear K0 hSn hHeld
      go_wp2
      refine bodyPost_ret (results_node_tmp rfl _ _ (w.heap.size + 1) n.side rfl H1f.out) rfl ⟨?_, HBf.out⟩
      rw [HD.out]
      rfl
    | true =>
      have HD := Lib.hid (show rightB n = decide (iv < 0) by rw [hrb]; rfl)
      clear hrb
      go_enter Try.func7, Try.ntmps7
      go_wp2_with (rw [← HW1.out])
      refine wp_region_held_drew (S := fun W' => NdAt W' w.heap.size n.side) (by kernel_rfl) (H0.out.below (drew_low11 _) H0.out.lt) (fun hHeld => ?_)
      refine wpAnyH_take (i := 0) (oi := ⟨some 8, _, _, _, _, _⟩) (v := .agg n.side.cl.toArray) rfl (by kernel_rfl) (by kernel_rfl) (by kernel_rfl) (fun _ _ _ h => h) (yieldsIf_load_mid (by rfl) _ _ rfl w.heap.size 0 rfl n.side.cl _ (fun w' hw' => ndR hw') Try.underlying27 rfl ndI) (by assumption) ?_
      (try simp only [Act.put, List.setIfInBounds_toArray, List.set_cons_zero, List.set_cons_succ])
      refine wpAnyH_take (i := 1) (oi := ⟨some 9, _, _, _, _, _⟩) (v := .agg n.side.cl.toArray) rfl (by kernel_rfl) (by kernel_rfl) (by kernel_rfl) (fun _ _ _ h => h) (yieldsIf_load_mid (by rfl) _ _ rfl w.heap.size 0 rfl n.side.cl _ (fun w' hw' => ndR hw') Try.underlying27 rfl ndI) (by assumption) ?_
      (try simp only [Act.put, List.setIfInBounds_toArray, List.set_cons_zero, List.set_cons_succ])
      refine wpAnyH_one (i := 2) (oi := ⟨some 10, _, _, _, _, _⟩) rfl (by kernel_rfl) (fun K hK => ?_)
      refine step_calls (by rfl) 31 EGa.out [.tmp 9, .const (.int .u64 0), .const (.bool false)] _ rfl [n.side.V, .int .u64 0, .bool false] rfl (HM.out _) ?_
      rintro e w3 ⟨rfl, h3⟩
      have g3 := low_and (drew_low11 _) h3
      refine ⟨_, rfl, hK _ _ (hHeld.below h3 hHeld.lt) (fun hSn => ?_)⟩
      clear hK K
      (try simp only [Act.put, List.setIfInBounds_toArray, List.set_cons_zero, List.set_cons_succ])
      refine wpAnyH_take (i := 3) (oi := ⟨some 11, _, _, _, _, _⟩) (v := .bool true) rfl (by kernel_rfl) (by kernel_rfl) (by kernel_rfl) (fun _ _ _ h => h) (Or.inl ⟨by rfl, by intro WW hSw; (try dsimp only at hSw); go_simp⟩) (by assumption) ?_
      (try simp only [Act.put, List.setIfInBounds_toArray, List.set_cons_zero, List.set_cons_succ])
      refine wpAnyH_take (i := 4) (oi := ⟨some 12, _, _, _, _, _⟩) (v := .agg n.side.cl.toArray) rfl (by kernel_rfl) (by kernel_rfl) (by kernel_rfl) (fun _ _ _ h => h) (yieldsIf_load_mid (by rfl) _ _ rfl w.heap.size 0 rfl n.side.cl _ (fun w' hw' => ndR hw') Try.underlying27 rfl ndI) (by assumption) ?_
      (try simp only [Act.put, List.setIfInBounds_toArray, List.set_cons_zero, List.set_cons_succ])
      refine wpAnyH_one (i := 5) (oi := ⟨some 13, _, _, _, _, _⟩) rfl (by kernel_rfl) (fun K hK => ?_)
      refine step_calls (by rfl) 19 EGb.out [.tmp 12] _ rfl [n.side.V] rfl (HI.out _) ?_
      rintro e w4 ⟨rfl, h4⟩
      have g4 := low_and g3 h4
      refine ⟨_, rfl, hK _ _ (hSn.below h4 hSn.lt) (fun hSn => ?_)⟩
      clear hK K
      (try simp only [Act.put, List.setIfInBounds_toArray, List.set_cons_zero, List.set_cons_succ])
      refine wpAnyH_take (i := 6) (oi := ⟨some 14, _, _, _, _, _⟩) (v := .bool (decide (iv < 0))) rfl (by kernel_rfl) (by kernel_rfl) (by kernel_rfl) (fun _ _ _ h => h) (Or.inl ⟨by rfl, by intro WW hSw; (try dsimp only at hSw); go_simp⟩) (by assumption) ?_
      (try simp only [Act.put, List.setIfInBounds_toArray, List.set_cons_zero, List.set_cons_succ])
      refine wpAnyH_take (i := 7) (oi := ⟨some 15, _, _, _, _, _⟩) (v := .bool (decide (iv < 0))) rfl (by kernel_rfl) (by kernel_rfl) (by kernel_rfl) (fun _ _ _ h => h) (Or.inl ⟨by rfl, by intro WW hSw; (try dsimp only at hSw); go_simp⟩) (by assumption) ?_
      (try simp only [Act.put, List.setIfInBounds_toArray, List.set_cons_zero, List.set_cons_succ])
      refine wpAnyH_one (i := 8) (oi := ⟨none, _, _, _, _, _⟩) rfl (by kernel_rfl) (fun K hK => ?_)
      rw [if_pos (by rfl)]
      refine wp_store_mid 27 _ _ rfl (w.heap.size + 1) 0 n.side.cl.toArray rfl rfl (row_there (H1.out.below g4 H1.out.lt) (Nat.le_refl 21)) ndI (all_oneCell_toArray (cl_one _)) ?_
      have K0 := NdAt_setCells (n := n.side) hSn (show w.heap.size + 1 ≠ w.heap.size by omega) n.side.cl
      refine hK _ _ K0 (fun hSn2 => ?_)
      clear hK K
      (try simp only [Act.put, List.setIfInBounds_toArray, List.set_cons_zero, List.set_cons_succ])
      refine wpAnyH_take (i := 9) (oi := ⟨some 3, _, _, _, _, _⟩) (v := .bool (decide (iv < 0))) rfl (by kernel_rfl) (by kernel_rfl) (by kernel_rfl) (fun _ _ _ h => h) (Or.inl ⟨by rfl, by intro WW hSw; (try dsimp only at hSw); go_simp⟩) (by assumption) ?_
      (try simp only [Act.put, List.setIfInBounds_toArray, List.set_cons_zero, List.set_cons_succ])
      refine wpAnyH_done (by kernel_rfl) ?_ _
      have H1f := Lib.hid (row_setCells (vs := n.side.cl) (H1.out.below g4 H1.out.lt) rfl)
      have HBf := Lib.hid (setCells_low n.side.cl (show w.heap.size ≤ w.heap.size + 1 by omega) (low_and HB2.out g4))
      clear K0 hSn hHeld
      go_wp2
      refine bodyPost_ret (results_node_tmp rfl _ _ (w.heap.size + 1) n.side rfl H1f.out) rfl ⟨?_, HBf.out⟩
      rw [HD.out]
      rfl
  · have g0 := r0.set 2 (uw 1280)
    rw [Nd.side_cl hx] at g0
    have g1 := r1.other (p := ⟨w.heap.size, 2, none⟩) (by dsimp only; omega) (uw 1280)
    have gb := hb1.setCell (p := ⟨w.heap.size, 2, none⟩) (Nat.le_refl _) (uw 1280)
    obtain ⟨W2, hW2⟩ : ∃ W2, W2 = W1.setCell ⟨w.heap.size, 2, none⟩ (uw 1280) := ⟨_, rfl⟩
    rw [← hW2] at g0 g1 gb
    have H0 := Lib.hid g0
    have H1 := Lib.hid g1
    have HB2 := Lib.hid gb
    have HW2 := Lib.hid hW2
    have hx1 : (n.nx != 0) = true := by simpa using hx
    obtain ⟨x, hxx⟩ : ∃ x, x = n.nx := ⟨_, rfl⟩
    rw [← hxx] at c2 hx1
    clear g0 g1 gb hW2 hx hxx r0 r1 hb1 hs1
    cases mb with
    | false =>
      have HD := Lib.hid (show rightB n = false by rw [hrb]; rfl)
      clear hrb
      go_enter Try.func7, Try.ntmps7
      go_wp2_with (rw [← HW1.out])
      rw [← HW2.out]
      refine wp_region_held_drew (S := fun W' => NdAt W' w.heap.size n.side) (by kernel_rfl) (H0.out.below (drew_low11 _) H0.out.lt) (fun hHeld => ?_)
      refine wpAnyH_take (i := 0) (oi := ⟨some 8, _, _, _, _, _⟩) (v := .agg n.side.cl.toArray) rfl (by kernel_rfl) (by kernel_rfl) (by kernel_rfl) (fun _ _ _ h => h) (yieldsIf_load_mid (by rfl) _ _ rfl w.heap.size 0 rfl n.side.cl _ (fun w' hw' => ndR hw') Try.underlying27 rfl ndI) (by assumption) ?_
      (try simp only [Act.put, List.setIfInBounds_toArray, List.set_cons_zero, List.set_cons_succ])
      refine wpAnyH_take (i := 1) (oi := ⟨some 9, _, _, _, _, _⟩) (v := .agg n.side.cl.toArray) rfl (by kernel_rfl) (by kernel_rfl) (by kernel_rfl) (fun _ _ _ h => h) (yieldsIf_load_mid (by rfl) _ _ rfl w.heap.size 0 rfl n.side.cl _ (fun w' hw' => ndR hw') Try.underlying27 rfl ndI) (by assumption) ?_
      (try simp only [Act.put, List.setIfInBounds_toArray, List.set_cons_zero, List.set_cons_succ])
      refine wpAnyH_one (i := 2) (oi := ⟨some 10, _, _, _, _, _⟩) rfl (by kernel_rfl) (fun K hK => ?_)
      refine step_calls (by rfl) 31 EGa.out [.tmp 9, .const (.int .u64 0), .const (.bool false)] _ rfl [n.side.V, .int .u64 0, .bool false] rfl (HM.out _) ?_
      rintro e w3 ⟨rfl, h3⟩
      have g3 := low_and (drew_low11 _) h3
      refine ⟨_, rfl, hK _ _ (hHeld.below h3 hHeld.lt) (fun hSn => ?_)⟩
      clear hK K
      (try simp only [Act.put, List.setIfInBounds_toArray, List.set_cons_zero, List.set_cons_succ])
      refine wpAnyH_take (i := 3) (oi := ⟨some 11, _, _, _, _, _⟩) (v := .bool false) rfl (by kernel_rfl) (by kernel_rfl) (by kernel_rfl) (fun _ _ _ h => h) (Or.inl ⟨by rfl, by intro WW hSw; (try dsimp only at hSw); go_simp⟩) (by assumption) ?_
      (try simp only [Act.put, List.setIfInBounds_toArray, List.set_cons_zero, List.set_cons_succ])
      refine wpAnyH_take (i := 4) (oi := ⟨some 12, _, _, _, _, _⟩) (v := undef) rfl (by kernel_rfl) (by kernel_rfl) (by kernel_rfl) (fun _ _ _ h => h) (Or.inr ⟨by rfl, rfl⟩) (by assumption) ?_
      (try simp only [Act.put, List.setIfInBounds_toArray, List.set_cons_zero, List.set_cons_succ])
      refine wpAnyH_take (i := 5) (oi := ⟨some 13, _, _, _, _, _⟩) (v := undef) rfl (by kernel_rfl) (by kernel_rfl) (by kernel_rfl) (fun _ _ _ h => h) (Or.inr ⟨by rfl, rfl⟩) (by assumption) ?_
      (try simp only [Act.put, List.setIfInBounds_toArray, List.set_cons_zero, List.set_cons_succ])
      refine wpAnyH_take (i := 6) (oi := ⟨some 14, _, _, _, _, _⟩) (v := undef) rfl (by kernel_rfl) (by kernel_rfl) (by kernel_rfl) (fun _ _ _ h => h) (Or.inr ⟨by rfl, rfl⟩) (by assumption) ?_
      (try simp only [Act.put, List.setIfInBounds_toArray, List.set_cons_zero, List.set_cons_succ])
      refine wpAnyH_take (i := 7) (oi := ⟨some 15, _, _, _, _, _⟩) (v := .bool false) rfl (by kernel_rfl) (by kernel_rfl) (by kernel_rfl) (fun _ _ _ h => h) (Or.inl ⟨by rfl, by intro WW hSw; (try dsimp only at hSw); go_simp⟩) (by assumption) ?_
      (try simp only [Act.put, List.setIfInBounds_toArray, List.set_cons_zero, List.set_cons_succ])
      refine wpAnyH_one (i := 8) (oi := ⟨none, _, _, _, _, _⟩) rfl (by kernel_rfl) (fun K hK => ?_)
      rw [if_pos (by rfl)]
      refine wp_store_mid 27 _ _ rfl (w.heap.size + 1) 0 n.side.cl.toArray rfl rfl (row_there (H1.out.below g3 H1.out.lt) (Nat.le_refl 21)) ndI (all_oneCell_toArray (cl_one _)) ?_
      have K0 := NdAt_setCells (n := n.side) hSn (show w.heap.size + 1 ≠ w.heap.size by omega) n.side.cl
      refine hK _ _ K0 (fun hSn2 => ?_)
      clear hK K
      (try simp only [Act.put, List.setIfInBounds_toArray, List.set_cons_zero, List.set_cons_succ])
      refine wpAnyH_take (i := 9) (oi := ⟨some 3, _, _, _, _, _⟩) (v := .bool false) rfl (by kernel_rfl) (by kernel_rfl) (by kernel_rfl) (fun _ _ _ h => h) (Or.inl ⟨by rfl, by intro WW hSw; (try dsimp only at hSw); go_simp⟩) (by assumption) ?_
      (try simp only [Act.put, List.setIfInBounds_toArray, List.set_cons_zero, List.set_cons_succ])
      refine wpAnyH_done (by kernel_rfl) ?_ _
      have H1f := Lib.hid (row_setCells (vs := n.side.cl) (H1.out.below g3 H1.out.lt) rfl)
      have HBf := Lib.hid (setCells_low n.side.cl (show w.heap.size ≤ w.heap.size + 1 by omega) (low_and HB2.out g3))
      clear K0 hSn hHeld
      go_wp2
      refine bodyPost_ret (results_node_tmp rfl _ _ (w.heap.size + 1) n.side rfl H1f.out) rfl ⟨?_, HBf.out⟩
      rw [HD.out]
      rfl
    | true =>
      have HD := Lib.hid (show rightB n = decide (iv < 0) by rw [hrb]; rfl)
      clear hrb
      go_enter Try.func7, Try.ntmps7
      go_wp2_with (rw [← HW1.out])
      rw [← HW2.out]
      refine wp_region_held_drew (S := fun W' => NdAt W' w.heap.size n.side) (by kernel_rfl) (H0.out.below (drew_low11 _) H0.out.lt) (fun hHeld => ?_)
      refine wpAnyH_take (i := 0) (oi := ⟨some 8, _, _, _, _, _⟩) (v := .agg n.side.cl.toArray) rfl (by kernel_rfl) (by kernel_rfl) (by kernel_rfl) (fun _ _ _ h => h) (yieldsIf_load_mid (by rfl) _ _ rfl w.heap.size 0 rfl n.side.cl _ (fun w' hw' => ndR hw') Try.underlying27 rfl ndI) (by assumption) ?_
      (try simp only [Act.put, List.setIfInBounds_toArray, List.set_cons_zero, List.set_cons_succ])
      refine wpAnyH_take (i := 1) (oi := ⟨some 9, _, _, _, _, _⟩) (v := .agg n.side.cl.toArray) rfl (by kernel_rfl) (by kernel_rfl) (by kernel_rfl) (fun _ _ _ h => h) (yieldsIf_load_mid (by rfl) _ _ rfl w.heap.size 0 rfl n.side.cl _ (fun w' hw' => ndR hw') Try.underlying27 rfl ndI) (by assumption) ?_
      (try simp only [Act.put, List.setIfInBounds_toArray, List.set_cons_zero, List.set_cons_succ])
      refine wpAnyH_one (i := 2) (oi := ⟨some 10, _, _, _, _, _⟩) rfl (by kernel_rfl) (fun K hK => ?_)
      refine step_calls (by rfl) 31 EGa.out [.tmp 9, .const (.int .u64 0), .const (.bool false)] _ rfl [n.side.V, .int .u64 0, .bool false] rfl (HM.out _) ?_
      rintro e w3 ⟨rfl, h3⟩
      have g3 := low_and (drew_low11 _) h3
      refine ⟨_, rfl, hK _ _ (hHeld.below h3 hHeld.lt) (fun hSn => ?_)⟩
      clear hK K
      (try simp only [Act.put, List.setIfInBounds_toArray, List.set_cons_zero, List.set_cons_succ])
      refine wpAnyH_take (i := 3) (oi := ⟨some 11, _, _, _, _, _⟩) (v := .bool true) rfl (by kernel_rfl) (by kernel_rfl) (by kernel_rfl) (fun _ _ _ h => h) (Or.inl ⟨by rfl, by intro WW hSw; (try dsimp only at hSw); go_simp⟩) (by assumption) ?_
      (try simp only [Act.put, List.setIfInBounds_toArray, List.set_cons_zero, List.set_cons_succ])
      refine wpAnyH_take (i := 4) (oi := ⟨some 12, _, _, _, _, _⟩) (v := .agg n.side.cl.toArray) rfl (by kernel_rfl) (by kernel_rfl) (by kernel_rfl) (fun _ _ _ h => h) (yieldsIf_load_mid (by rfl) _ _ rfl w.heap.size 0 rfl n.side.cl _ (fun w' hw' => ndR hw') Try.underlying27 rfl ndI) (by assumption) ?_
      (try simp only [Act.put, List.setIfInBounds_toArray, List.set_cons_zero, List.set_cons_succ])
      refine wpAnyH_one (i := 5) (oi := ⟨some 13, _, _, _, _, _⟩) rfl (by kernel_rfl) (fun K hK => ?_)
      refine step_calls (by rfl) 19 EGb.out [.tmp 12] _ rfl [n.side.V] rfl (HI.out _) ?_
      rintro e w4 ⟨rfl, h4⟩
      have g4 := low_and g3 h4
      refine ⟨_, rfl, hK _ _ (hSn.below h4 hSn.lt) (fun hSn => ?_)⟩
      clear hK K
      (try simp only [Act.put, List.setIfInBounds_toArray, List.set_cons_zero, List.set_cons_succ])
      refine wpAnyH_take (i := 6) (oi := ⟨some 14, _, _, _, _, _⟩) (v := .bool (decide (iv < 0))) rfl (by kernel_rfl) (by kernel_rfl) (by kernel_rfl) (fun _ _ _ h => h) (Or.inl ⟨by rfl, by intro WW hSw; (try dsimp only at hSw); go_simp⟩) (by assumption) ?_
      (try simp only [Act.put, List.setIfInBounds_toArray, List.set_cons_zero, List.set_cons_succ])
      refine wpAnyH_take (i := 7) (oi := ⟨some 15, _, _, _, _, _⟩) (v := .bool (decide (iv < 0))) rfl (by kernel_rfl) (by kernel_rfl) (by kernel_rfl) (fun _ _ _ h => h) (Or.inl ⟨by rfl, by intro WW hSw; (try dsimp only at hSw); go_simp⟩) (by assumption) ?_
      (try simp only [Act.put, List.setIfInBounds_toArray, List.set_cons_zero, List.set_cons_succ])
      refine wpAnyH_one (i := 8) (oi := ⟨none, _, _, _, _, _⟩) rfl (by kernel_rfl) (fun K hK => ?_)
      rw [if_pos (by rfl)]
      refine wp_store_mid 27 _ _ rfl (w.heap.size + 1) 0 n.side.cl.toArray rfl rfl (row_there (H1.out.below g4 H1.out.lt) (Nat.le_refl 21)) ndI (all_oneCell_toArray (cl_one _)) ?_
      have K0 := NdAt_setCells (n := n.side) hSn (show w.heap.size + 1 ≠ w.heap.size by omega) n.side.cl
      refine hK _ _ K0 (fun hSn2 => ?_)
      clear hK K
      (try simp only [Act.put, List.setIfInBounds_toArray, List.set_cons_zero, List.set_cons_succ])
      refine wpAnyH_take (i := 9) (oi := ⟨some 3, _, _, _, _, _⟩) (v := .bool (decide (iv < 0))) rfl (by kernel_rfl) (by kernel_rfl) (by kernel_rfl) (fun _ _ _ h => h) (Or.inl ⟨by rfl, by intro WW hSw; (try dsimp only at hSw); go_simp⟩) (by assumption) ?_
      (try simp only [Act.put, List.setIfInBounds_toArray, List.set_cons_zero, List.set_cons_succ])
      refine wpAnyH_done (by kernel_rfl) ?_ _
      have H1f := Lib.hid (row_setCells (vs := n.side.cl) (H1.out.below g4 H1.out.lt) rfl)
      have HBf := Lib.hid (setCells_low n.side.cl (show w.heap.size ≤ w.heap.size + 1 by omega) (low_and HB2.out g4))
      clear K0 hSn hHeld
      go_wp2
      refine bodyPost_ret (results_node_tmp rfl _ _ (w.heap.size + 1) n.side rfl H1f.out) rfl ⟨?_, HBf.out⟩
      rw [HD.out]
      rfl
end Go.Proofs.Ytaabdmlmemmnaaa
