/- NodeMay and NodeValid: the laws are true of any node, any bound; where the library's table of powers lies as it was laid. -/
import Derived.Test.YthifamaoffkedaaDoorN8Known
import Derived.Test.YthifamaoffkedaaDoorN8Plc
import Derived.Test.YthifamaoffkedaaDoorN8RefM
import Derived.Test.YthifamaoffkedaaDoorN8RefI
import Derived.Test.YthifamaoffkedaaDoorN8RefA
namespace Go.Proofs.YthifamaoffkedaaDoor
open Go.RowKit
set_option linter.unusedVariables false
theorem same_yes {w : World} {v v' : Value} {l : List (Int × Int)} (h : EntAt w v l) (h' : EntAt w v' l) (hl : l.length ≤ 1000) : Calls Tryd.prog 18 #[v, v'] w fun e w' => e = .returned (.bool true) ∧ Below w.heap.size w w' :=
  (same_any h h' (by omega) (by omega)).mono fun e w' hh => by rw [decide_eq_true rfl] at hh; exact hh
set_option maxRecDepth 100000 in
set_option maxHeartbeats 8000000 in
theorem lawMay (n : Nd) (high : Int) (has : Bool) (w : World) (T : Pow w) : Calls Tryd.prog 6 #[n.V, .int .u64 high, .bool has] w fun e w' => e = .returned (.bool true) ∧ Below w.heap.size w w' := by
  have r0 := Row.new w 27 n.cl.toArray
  obtain ⟨Wa, hWa⟩ : ∃ Wa, Wa = w.alloc (.cells n.cl.toArray 27) := ⟨_, rfl⟩
  rw [← hWa] at r0
  have HB0 := Lib.hid (show Below w.heap.size w Wa by rw [hWa]; exact alloc_low _ _)
  have HRR := Lib.hid (fun W' (hb : Below Wa.heap.size Wa W') => (show NdAt W' w.heap.size n from r0.below hb r0.lt))
  have HWa := Lib.hid hWa
  have HK := Lib.hid (fun W' (hb : Below Wa.heap.size Wa W') => n8known_any W' (pow_low T (low_and HB0.out hb)))
  have hr0 := Below.refl Wa.heap.size Wa
  have HM := Lib.hid (fun W' => nMay_any n high has W')
  have HMr := Lib.hid (fun W' => r8May_any n high has W')
  have HA := Lib.hid (fun W' => nActive_any n high has W')
  have HAr := Lib.hid (fun W' => r8Active_any n high has W')
  have hal := n.act_len high has
  generalize n.may high has = mb at HM HMr
  generalize n.act high has = L at HA HAr hal
  have hbb : ((mb == mb) : Bool) = true := by simp
  have EGa := Lib.hid (enters_of Tryd.func26 (by kernel_rfl) rfl)
  have EGb := Lib.hid (enters_of Tryd.func27 (by kernel_rfl) rfl)
  have EGc := Lib.hid (enters_of Tryd.func28 (by kernel_rfl) rfl)
  have EGd := Lib.hid (enters_of Tryd.func29 (by kernel_rfl) rfl)
  have EGe := Lib.hid (enters_of Tryd.func18 (by kernel_rfl) rfl)
  have EGf := Lib.hid (enters_of Tryd.func14 (by kernel_rfl) rfl)
  clear r0 hWa
  go_enter Tryd.func6, Tryd.ntmps6
  go_wp2_with (rw [← HWa.out])
  refine wp_region_held_drew (S := fun W' => Below Wa.heap.size Wa W') (by kernel_rfl) (low_and hr0 (drew_low9 _)) (fun hHeld => ?_)
  refine wpAnyH_take (i := 0) (oi := ⟨some 7, _, _, _, _, _⟩) (v := .agg n.cl.toArray) rfl (by kernel_rfl) (by kernel_rfl) (by kernel_rfl) (fun _ _ _ h => h) (yieldsIf_load_mid (by rfl) _ _ rfl w.heap.size 0 rfl n.cl _ (fun w' hw' => ndR (HRR.out _ hw')) Tryd.underlying27 rfl ndI) (by assumption) ?_
  (try simp only [Act.put, List.setIfInBounds_toArray, List.set_cons_zero, List.set_cons_succ])
  refine wpAnyH_take (i := 1) (oi := ⟨some 8, _, _, _, _, _⟩) (v := .int .u64 high) rfl (by kernel_rfl) (by kernel_rfl) (by kernel_rfl) (fun _ _ _ h => h) (Or.inl ⟨by rfl, by intro WW hSw; (try dsimp only at hSw); go_simp⟩) (by assumption) ?_
  (try simp only [Act.put, List.setIfInBounds_toArray, List.set_cons_zero, List.set_cons_succ])
  refine wpAnyH_take (i := 2) (oi := ⟨some 9, _, _, _, _, _⟩) (v := .bool has) rfl (by kernel_rfl) (by kernel_rfl) (by kernel_rfl) (fun _ _ _ h => h) (Or.inl ⟨by rfl, by intro WW hSw; (try dsimp only at hSw); go_simp⟩) (by assumption) ?_
  (try simp only [Act.put, List.setIfInBounds_toArray, List.set_cons_zero, List.set_cons_succ])
  refine wpAnyH_take (i := 4) (oi := ⟨some 11, _, _, _, _, _⟩) (v := .agg n.cl.toArray) rfl (by kernel_rfl) (by kernel_rfl) (by kernel_rfl) (fun _ _ _ h => h) (yieldsIf_load_mid (by rfl) _ _ rfl w.heap.size 0 rfl n.cl _ (fun w' hw' => ndR (HRR.out _ hw')) Tryd.underlying27 rfl ndI) (by assumption) ?_
  (try simp only [Act.put, List.setIfInBounds_toArray, List.set_cons_zero, List.set_cons_succ])
  refine wpAnyH_take (i := 5) (oi := ⟨some 12, _, _, _, _, _⟩) (v := .int .u64 high) rfl (by kernel_rfl) (by kernel_rfl) (by kernel_rfl) (fun _ _ _ h => h) (Or.inl ⟨by rfl, by intro WW hSw; (try dsimp only at hSw); go_simp⟩) (by assumption) ?_
  (try simp only [Act.put, List.setIfInBounds_toArray, List.set_cons_zero, List.set_cons_succ])
  refine wpAnyH_take (i := 6) (oi := ⟨some 13, _, _, _, _, _⟩) (v := .bool has) rfl (by kernel_rfl) (by kernel_rfl) (by kernel_rfl) (fun _ _ _ h => h) (Or.inl ⟨by rfl, by intro WW hSw; (try dsimp only at hSw); go_simp⟩) (by assumption) ?_
  (try simp only [Act.put, List.setIfInBounds_toArray, List.set_cons_zero, List.set_cons_succ])
  refine wpAnyH_one (i := 3) (oi := ⟨some 10, _, _, _, _, _⟩) rfl (by kernel_rfl) (fun K hK => ?_)
  refine step_calls (by rfl) 26 EGa.out [.tmp 7, .tmp 8, .tmp 9] _ rfl [n.V, .int .u64 high, .bool has] rfl (HM.out _) ?_
  rintro e w1 ⟨rfl, h1⟩
  have g1 := low_and hHeld h1
  refine ⟨_, rfl, hK _ _ (low_and hHeld h1) (fun hSn => ?_)⟩
  clear hK K
  (try simp only [Act.put, List.setIfInBounds_toArray, List.set_cons_zero, List.set_cons_succ])
  refine wpAnyH_one (i := 7) (oi := ⟨some 14, _, _, _, _, _⟩) rfl (by kernel_rfl) (fun K hK => ?_)
  refine step_calls (by rfl) 27 EGb.out [.tmp 11, .tmp 12, .tmp 13] _ rfl [n.V, .int .u64 high, .bool has] rfl (HMr.out _) ?_
  rintro e w2 ⟨rfl, h2⟩
  have g2 := low_and g1 h2
  refine ⟨_, rfl, hK _ _ (low_and g1 h2) (fun hSn => ?_)⟩
  clear hK K
  (try simp only [Act.put, List.setIfInBounds_toArray, List.set_cons_zero, List.set_cons_succ])
  refine wpAnyH_take (i := 8) (oi := ⟨some 15, _, _, _, _, _⟩) (v := .bool true) rfl (by kernel_rfl) (by kernel_rfl) (by kernel_rfl) (fun _ _ _ h => h) (Or.inl ⟨by rfl, by intro WW hSw; (try dsimp only at hSw); go_simp⟩) (by assumption) ?_
  (try simp only [Act.put, List.setIfInBounds_toArray, List.set_cons_zero, List.set_cons_succ])
  refine wpAnyH_take (i := 9) (oi := ⟨some 16, _, _, _, _, _⟩) (v := .bool true) rfl (by kernel_rfl) (by kernel_rfl) (by kernel_rfl) (fun _ _ _ h => h) (Or.inl ⟨by rfl, by intro WW hSw; (try dsimp only at hSw); go_simp⟩) (by assumption) ?_
  (try simp only [Act.put, List.setIfInBounds_toArray, List.set_cons_zero, List.set_cons_succ])
  refine wpAnyH_take (i := 10) (oi := ⟨some 17, _, _, _, _, _⟩) (v := .agg n.cl.toArray) rfl (by kernel_rfl) (by kernel_rfl) (by kernel_rfl) (fun _ _ _ h => h) (yieldsIf_load_mid (by rfl) _ _ rfl w.heap.size 0 rfl n.cl _ (fun w' hw' => ndR (HRR.out _ hw')) Tryd.underlying27 rfl ndI) (by assumption) ?_
  (try simp only [Act.put, List.setIfInBounds_toArray, List.set_cons_zero, List.set_cons_succ])
  refine wpAnyH_take (i := 11) (oi := ⟨some 18, _, _, _, _, _⟩) (v := .int .u64 high) rfl (by kernel_rfl) (by kernel_rfl) (by kernel_rfl) (fun _ _ _ h => h) (Or.inl ⟨by rfl, by intro WW hSw; (try dsimp only at hSw); go_simp⟩) (by assumption) ?_
  (try simp only [Act.put, List.setIfInBounds_toArray, List.set_cons_zero, List.set_cons_succ])
  refine wpAnyH_take (i := 12) (oi := ⟨some 19, _, _, _, _, _⟩) (v := .bool has) rfl (by kernel_rfl) (by kernel_rfl) (by kernel_rfl) (fun _ _ _ h => h) (Or.inl ⟨by rfl, by intro WW hSw; (try dsimp only at hSw); go_simp⟩) (by assumption) ?_
  (try simp only [Act.put, List.setIfInBounds_toArray, List.set_cons_zero, List.set_cons_succ])
  refine wpAnyH_take (i := 14) (oi := ⟨some 21, _, _, _, _, _⟩) (v := .agg n.cl.toArray) rfl (by kernel_rfl) (by kernel_rfl) (by kernel_rfl) (fun _ _ _ h => h) (yieldsIf_load_mid (by rfl) _ _ rfl w.heap.size 0 rfl n.cl _ (fun w' hw' => ndR (HRR.out _ hw')) Tryd.underlying27 rfl ndI) (by assumption) ?_
  (try simp only [Act.put, List.setIfInBounds_toArray, List.set_cons_zero, List.set_cons_succ])
  refine wpAnyH_take (i := 15) (oi := ⟨some 22, _, _, _, _, _⟩) (v := .int .u64 high) rfl (by kernel_rfl) (by kernel_rfl) (by kernel_rfl) (fun _ _ _ h => h) (Or.inl ⟨by rfl, by intro WW hSw; (try dsimp only at hSw); go_simp⟩) (by assumption) ?_
  (try simp only [Act.put, List.setIfInBounds_toArray, List.set_cons_zero, List.set_cons_succ])
  refine wpAnyH_take (i := 16) (oi := ⟨some 23, _, _, _, _, _⟩) (v := .bool has) rfl (by kernel_rfl) (by kernel_rfl) (by kernel_rfl) (fun _ _ _ h => h) (Or.inl ⟨by rfl, by intro WW hSw; (try dsimp only at hSw); go_simp⟩) (by assumption) ?_
  (try simp only [Act.put, List.setIfInBounds_toArray, List.set_cons_zero, List.set_cons_succ])
  refine wpAnyH_one (i := 13) (oi := ⟨some 20, _, _, _, _, _⟩) rfl (by kernel_rfl) (fun K hK => ?_)
  refine step_calls (by rfl) 28 EGc.out [.tmp 17, .tmp 18, .tmp 19] _ rfl [n.V, .int .u64 high, .bool has] rfl (HA.out _) ?_
  rintro e w3 ⟨⟨v3, rfl, ho3⟩, h3⟩
  have g3 := low_and g2 h3
  have HE3 := Lib.hid (ent_own ho3)
  clear ho3
  refine ⟨_, rfl, hK _ _ (low_and g2 h3) (fun hSn => ?_)⟩
  clear hK K
  (try simp only [Act.put, List.setIfInBounds_toArray, List.set_cons_zero, List.set_cons_succ])
  refine wpAnyH_one (i := 17) (oi := ⟨some 24, _, _, _, _, _⟩) rfl (by kernel_rfl) (fun K hK => ?_)
  refine step_calls (by rfl) 29 EGd.out [.tmp 21, .tmp 22, .tmp 23] _ rfl [n.V, .int .u64 high, .bool has] rfl (HAr.out _) ?_
  rintro e w4 ⟨⟨v4, rfl, ho4⟩, h4⟩
  have g4 := low_and g3 h4
  have HE4 := Lib.hid (ent_own ho4)
  have HE34 := Lib.hid (HE3.out.low h4)
  clear ho4
  refine ⟨_, rfl, hK _ _ (low_and g3 h4) (fun hSn => ?_)⟩
  clear hK K
  (try simp only [Act.put, List.setIfInBounds_toArray, List.set_cons_zero, List.set_cons_succ])
  refine wpAnyH_one (i := 18) (oi := ⟨some 25, _, _, _, _, _⟩) rfl (by kernel_rfl) (fun K hK => ?_)
  refine step_calls (by rfl) 18 EGe.out [.tmp 20, .tmp 24] _ rfl [v3, v4] rfl (same_yes HE34.out HE4.out (by omega)) ?_
  rintro e w5 ⟨rfl, h5⟩
  have g5 := low_and g4 h5
  refine ⟨_, rfl, hK _ _ (low_and g4 h5) (fun hSn => ?_)⟩
  clear hK K
  (try simp only [Act.put, List.setIfInBounds_toArray, List.set_cons_zero, List.set_cons_succ])
  refine wpAnyH_take (i := 19) (oi := ⟨some 26, _, _, _, _, _⟩) (v := .bool true) rfl (by kernel_rfl) (by kernel_rfl) (by kernel_rfl) (fun _ _ _ h => h) (Or.inl ⟨by rfl, by intro WW hSw; (try dsimp only at hSw); go_simp⟩) (by assumption) ?_
  (try simp only [Act.put, List.setIfInBounds_toArray, List.set_cons_zero, List.set_cons_succ])
  refine wpAnyH_take (i := 20) (oi := ⟨some 27, _, _, _, _, _⟩) (v := .bool true) rfl (by kernel_rfl) (by kernel_rfl) (by kernel_rfl) (fun _ _ _ h => h) (Or.inl ⟨by rfl, by intro WW hSw; (try dsimp only at hSw); go_simp⟩) (by assumption) ?_
  (try simp only [Act.put, List.setIfInBounds_toArray, List.set_cons_zero, List.set_cons_succ])
  refine wpAnyH_one (i := 21) (oi := ⟨some 28, _, _, _, _, _⟩) rfl (by kernel_rfl) (fun K hK => ?_)
  refine step_calls (by rfl) 14 EGf.out [] _ rfl [] rfl (HK.out _ g5) ?_
  rintro e w6 ⟨rfl, h6⟩
  have g6 := low_and g5 h6
  refine ⟨_, rfl, hK _ _ (low_and g5 h6) (fun hSn => ?_)⟩
  clear hK K
  (try simp only [Act.put, List.setIfInBounds_toArray, List.set_cons_zero, List.set_cons_succ])
  refine wpAnyH_take (i := 22) (oi := ⟨some 29, _, _, _, _, _⟩) (v := .bool true) rfl (by kernel_rfl) (by kernel_rfl) (by kernel_rfl) (fun _ _ _ h => h) (Or.inl ⟨by rfl, by intro WW hSw; (try dsimp only at hSw); go_simp⟩) (by assumption) ?_
  (try simp only [Act.put, List.setIfInBounds_toArray, List.set_cons_zero, List.set_cons_succ])
  refine wpAnyH_take (i := 23) (oi := ⟨some 6, _, _, _, _, _⟩) (v := .bool true) rfl (by kernel_rfl) (by kernel_rfl) (by kernel_rfl) (fun _ _ _ h => h) (Or.inl ⟨by rfl, by intro WW hSw; (try dsimp only at hSw); go_simp⟩) (by assumption) ?_
  (try simp only [Act.put, List.setIfInBounds_toArray, List.set_cons_zero, List.set_cons_succ])
  refine wpAnyH_done (by kernel_rfl) ?_ _
  go_wp2
  go_ret
  exact ⟨rfl, low_and HB0.out g6⟩
set_option maxRecDepth 100000 in
set_option maxHeartbeats 8000000 in
theorem lawValid (n : Nd) (w : World) (T : Pow w) : Calls Tryd.prog 5 #[n.V] w fun e w' => e = .returned (.bool true) ∧ Below w.heap.size w w' := by
  have r0 := Row.new w 27 n.cl.toArray
  obtain ⟨Wa, hWa⟩ : ∃ Wa, Wa = w.alloc (.cells n.cl.toArray 27) := ⟨_, rfl⟩
  rw [← hWa] at r0
  have HB0 := Lib.hid (show Below w.heap.size w Wa by rw [hWa]; exact alloc_low _ _)
  have HRR := Lib.hid (fun W' (hb : Below Wa.heap.size Wa W') => (show NdAt W' w.heap.size n from r0.below hb r0.lt))
  have HWa := Lib.hid hWa
  have HK := Lib.hid (fun W' (hb : Below Wa.heap.size Wa W') => n8known_any W' (pow_low T (low_and HB0.out hb)))
  have hr0 := Below.refl Wa.heap.size Wa
  have HL := Lib.hid (fun W' => len_any n W')
  have HLr := Lib.hid (fun W' => r8Len_any n W')
  have HA := Lib.hid (fun W' => nValid_any n W')
  have HAr := Lib.hid (fun W' => r8Valid_any n W')
  have HP := Lib.hid (fun W' => nPlaces_any n W')
  have HPr := Lib.hid (fun W' => r8Places_any n W')
  have HI := Lib.hid (fun W' => nInv_any n W')
  have HIr := Lib.hid (fun W' => r8Inv_any n W')
  have hal := n.es_len
  have hvl := n.vp_length
  generalize n.len = q at HL HLr
  generalize n.es = L at HA HAr hal
  generalize n.vp = V at HP HPr hvl
  generalize n.inv = iv at HI HIr
  have hqq : ((q : Int) == (q : Int)) = true := by simp
  have hii : (iv == iv) = true := by simp
  have EGa := Lib.hid (enters_of Tryd.func16 (by kernel_rfl) rfl)
  have EGb := Lib.hid (enters_of Tryd.func17 (by kernel_rfl) rfl)
  have EGc := Lib.hid (enters_of Tryd.func19 (by kernel_rfl) rfl)
  have EGd := Lib.hid (enters_of Tryd.func20 (by kernel_rfl) rfl)
  have EGe := Lib.hid (enters_of Tryd.func18 (by kernel_rfl) rfl)
  have EGf := Lib.hid (enters_of Tryd.func14 (by kernel_rfl) rfl)
  have EGg := Lib.hid (enters_of Tryd.func22 (by kernel_rfl) rfl)
  have EGh := Lib.hid (enters_of Tryd.func23 (by kernel_rfl) rfl)
  have EGi := Lib.hid (enters_of Tryd.func21 (by kernel_rfl) rfl)
  have EGj := Lib.hid (enters_of Tryd.func24 (by kernel_rfl) rfl)
  have EGk := Lib.hid (enters_of Tryd.func25 (by kernel_rfl) rfl)
  clear r0 hWa
  go_enter Tryd.func5, Tryd.ntmps5
  go_wp2_with (rw [← HWa.out])
  refine wp_region_held_drew (S := fun W' => Below Wa.heap.size Wa W') (by kernel_rfl) (low_and hr0 (drew_low9 _)) (fun hHeld => ?_)
  refine wpAnyH_take (i := 0) (oi := ⟨some 3, _, _, _, _, _⟩) (v := .agg n.cl.toArray) rfl (by kernel_rfl) (by kernel_rfl) (by kernel_rfl) (fun _ _ _ h => h) (yieldsIf_load_mid (by rfl) _ _ rfl w.heap.size 0 rfl n.cl _ (fun w' hw' => ndR (HRR.out _ hw')) Tryd.underlying27 rfl ndI) (by assumption) ?_
  (try simp only [Act.put, List.setIfInBounds_toArray, List.set_cons_zero, List.set_cons_succ])
  refine wpAnyH_take (i := 2) (oi := ⟨some 5, _, _, _, _, _⟩) (v := .agg n.cl.toArray) rfl (by kernel_rfl) (by kernel_rfl) (by kernel_rfl) (fun _ _ _ h => h) (yieldsIf_load_mid (by rfl) _ _ rfl w.heap.size 0 rfl n.cl _ (fun w' hw' => ndR (HRR.out _ hw')) Tryd.underlying27 rfl ndI) (by assumption) ?_
  (try simp only [Act.put, List.setIfInBounds_toArray, List.set_cons_zero, List.set_cons_succ])
  refine wpAnyH_one (i := 1) (oi := ⟨some 4, _, _, _, _, _⟩) rfl (by kernel_rfl) (fun K hK => ?_)
  refine step_calls (by rfl) 16 EGa.out [.tmp 3] _ rfl [n.V] rfl (HL.out _) ?_
  rintro e w1 ⟨rfl, h1⟩
  have g1 := low_and hHeld h1
  refine ⟨_, rfl, hK _ _ (low_and hHeld h1) (fun hSn => ?_)⟩
  clear hK K
  (try simp only [Act.put, List.setIfInBounds_toArray, List.set_cons_zero, List.set_cons_succ])
  refine wpAnyH_one (i := 3) (oi := ⟨some 6, _, _, _, _, _⟩) rfl (by kernel_rfl) (fun K hK => ?_)
  refine step_calls (by rfl) 17 EGb.out [.tmp 5] _ rfl [n.V] rfl (HLr.out _) ?_
  rintro e w2 ⟨rfl, h2⟩
  have g2 := low_and g1 h2
  refine ⟨_, rfl, hK _ _ (low_and g1 h2) (fun hSn => ?_)⟩
  clear hK K
  (try simp only [Act.put, List.setIfInBounds_toArray, List.set_cons_zero, List.set_cons_succ])
  refine wpAnyH_take (i := 4) (oi := ⟨some 7, _, _, _, _, _⟩) (v := .bool true) rfl (by kernel_rfl) (by kernel_rfl) (by kernel_rfl) (fun _ _ _ h => h) (Or.inl ⟨by rfl, by intro WW hSw; (try dsimp only at hSw); go_simp⟩) (by assumption) ?_
  (try simp only [Act.put, List.setIfInBounds_toArray, List.set_cons_zero, List.set_cons_succ])
  refine wpAnyH_take (i := 5) (oi := ⟨some 8, _, _, _, _, _⟩) (v := .bool true) rfl (by kernel_rfl) (by kernel_rfl) (by kernel_rfl) (fun _ _ _ h => h) (Or.inl ⟨by rfl, by intro WW hSw; (try dsimp only at hSw); go_simp⟩) (by assumption) ?_
  (try simp only [Act.put, List.setIfInBounds_toArray, List.set_cons_zero, List.set_cons_succ])
  refine wpAnyH_take (i := 6) (oi := ⟨some 9, _, _, _, _, _⟩) (v := .agg n.cl.toArray) rfl (by kernel_rfl) (by kernel_rfl) (by kernel_rfl) (fun _ _ _ h => h) (yieldsIf_load_mid (by rfl) _ _ rfl w.heap.size 0 rfl n.cl _ (fun w' hw' => ndR (HRR.out _ hw')) Tryd.underlying27 rfl ndI) (by assumption) ?_
  (try simp only [Act.put, List.setIfInBounds_toArray, List.set_cons_zero, List.set_cons_succ])
  refine wpAnyH_take (i := 8) (oi := ⟨some 11, _, _, _, _, _⟩) (v := .agg n.cl.toArray) rfl (by kernel_rfl) (by kernel_rfl) (by kernel_rfl) (fun _ _ _ h => h) (yieldsIf_load_mid (by rfl) _ _ rfl w.heap.size 0 rfl n.cl _ (fun w' hw' => ndR (HRR.out _ hw')) Tryd.underlying27 rfl ndI) (by assumption) ?_
  (try simp only [Act.put, List.setIfInBounds_toArray, List.set_cons_zero, List.set_cons_succ])
  refine wpAnyH_one (i := 7) (oi := ⟨some 10, _, _, _, _, _⟩) rfl (by kernel_rfl) (fun K hK => ?_)
  refine step_calls (by rfl) 19 EGc.out [.tmp 9] _ rfl [n.V] rfl (HA.out _) ?_
  rintro e w3 ⟨⟨v3, rfl, ho3⟩, h3⟩
  have g3 := low_and g2 h3
  have HE3 := Lib.hid (ent_own ho3)
  clear ho3
  refine ⟨_, rfl, hK _ _ (low_and g2 h3) (fun hSn => ?_)⟩
  clear hK K
  (try simp only [Act.put, List.setIfInBounds_toArray, List.set_cons_zero, List.set_cons_succ])
  refine wpAnyH_one (i := 9) (oi := ⟨some 12, _, _, _, _, _⟩) rfl (by kernel_rfl) (fun K hK => ?_)
  refine step_calls (by rfl) 20 EGd.out [.tmp 11] _ rfl [n.V] rfl (HAr.out _) ?_
  rintro e w4 ⟨⟨v4, rfl, ho4⟩, h4⟩
  have g4 := low_and g3 h4
  have HE4 := Lib.hid (ent_own ho4)
  have HE34 := Lib.hid (HE3.out.low h4)
  clear ho4
  refine ⟨_, rfl, hK _ _ (low_and g3 h4) (fun hSn => ?_)⟩
  clear hK K
  (try simp only [Act.put, List.setIfInBounds_toArray, List.set_cons_zero, List.set_cons_succ])
  refine wpAnyH_one (i := 10) (oi := ⟨some 13, _, _, _, _, _⟩) rfl (by kernel_rfl) (fun K hK => ?_)
  refine step_calls (by rfl) 18 EGe.out [.tmp 10, .tmp 12] _ rfl [v3, v4] rfl (same_yes HE34.out HE4.out (by omega)) ?_
  rintro e w5 ⟨rfl, h5⟩
  have g5 := low_and g4 h5
  refine ⟨_, rfl, hK _ _ (low_and g4 h5) (fun hSn => ?_)⟩
  clear hK K
  (try simp only [Act.put, List.setIfInBounds_toArray, List.set_cons_zero, List.set_cons_succ])
  refine wpAnyH_take (i := 11) (oi := ⟨some 14, _, _, _, _, _⟩) (v := .bool true) rfl (by kernel_rfl) (by kernel_rfl) (by kernel_rfl) (fun _ _ _ h => h) (Or.inl ⟨by rfl, by intro WW hSw; (try dsimp only at hSw); go_simp⟩) (by assumption) ?_
  (try simp only [Act.put, List.setIfInBounds_toArray, List.set_cons_zero, List.set_cons_succ])
  refine wpAnyH_take (i := 12) (oi := ⟨some 15, _, _, _, _, _⟩) (v := .bool true) rfl (by kernel_rfl) (by kernel_rfl) (by kernel_rfl) (fun _ _ _ h => h) (Or.inl ⟨by rfl, by intro WW hSw; (try dsimp only at hSw); go_simp⟩) (by assumption) ?_
  (try simp only [Act.put, List.setIfInBounds_toArray, List.set_cons_zero, List.set_cons_succ])
  refine wpAnyH_take (i := 13) (oi := ⟨some 16, _, _, _, _, _⟩) (v := .agg n.cl.toArray) rfl (by kernel_rfl) (by kernel_rfl) (by kernel_rfl) (fun _ _ _ h => h) (yieldsIf_load_mid (by rfl) _ _ rfl w.heap.size 0 rfl n.cl _ (fun w' hw' => ndR (HRR.out _ hw')) Tryd.underlying27 rfl ndI) (by assumption) ?_
  (try simp only [Act.put, List.setIfInBounds_toArray, List.set_cons_zero, List.set_cons_succ])
  refine wpAnyH_take (i := 15) (oi := ⟨some 18, _, _, _, _, _⟩) (v := .agg n.cl.toArray) rfl (by kernel_rfl) (by kernel_rfl) (by kernel_rfl) (fun _ _ _ h => h) (yieldsIf_load_mid (by rfl) _ _ rfl w.heap.size 0 rfl n.cl _ (fun w' hw' => ndR (HRR.out _ hw')) Tryd.underlying27 rfl ndI) (by assumption) ?_
  (try simp only [Act.put, List.setIfInBounds_toArray, List.set_cons_zero, List.set_cons_succ])
  refine wpAnyH_one (i := 14) (oi := ⟨some 17, _, _, _, _, _⟩) rfl (by kernel_rfl) (fun K hK => ?_)
  refine step_calls (by rfl) 22 EGg.out [.tmp 16] _ rfl [n.V] rfl (HP.out _) ?_
  rintro e w6 ⟨⟨v6, rfl, ho6⟩, h6⟩
  have g6 := low_and g5 h6
  have HE6 := Lib.hid (int_own ho6)
  clear ho6
  refine ⟨_, rfl, hK _ _ (low_and g5 h6) (fun hSn => ?_)⟩
  clear hK K
  (try simp only [Act.put, List.setIfInBounds_toArray, List.set_cons_zero, List.set_cons_succ])
  refine wpAnyH_one (i := 16) (oi := ⟨some 19, _, _, _, _, _⟩) rfl (by kernel_rfl) (fun K hK => ?_)
  refine step_calls (by rfl) 23 EGh.out [.tmp 18] _ rfl [n.V] rfl (HPr.out _) ?_
  rintro e w7 ⟨⟨v7, rfl, ho7⟩, h7⟩
  have g7 := low_and g6 h7
  have HE7 := Lib.hid (int_own ho7)
  have HE67 := Lib.hid (HE6.out.low h7)
  clear ho7
  refine ⟨_, rfl, hK _ _ (low_and g6 h7) (fun hSn => ?_)⟩
  clear hK K
  (try simp only [Act.put, List.setIfInBounds_toArray, List.set_cons_zero, List.set_cons_succ])
  refine wpAnyH_one (i := 17) (oi := ⟨some 20, _, _, _, _, _⟩) rfl (by kernel_rfl) (fun K hK => ?_)
  refine step_calls (by rfl) 21 EGi.out [.tmp 17, .tmp 19] _ rfl [v6, v7] rfl (sameInts_yes HE67.out HE7.out (by omega)) ?_
  rintro e w8 ⟨rfl, h8⟩
  have g8 := low_and g7 h8
  refine ⟨_, rfl, hK _ _ (low_and g7 h8) (fun hSn => ?_)⟩
  clear hK K
  (try simp only [Act.put, List.setIfInBounds_toArray, List.set_cons_zero, List.set_cons_succ])
  refine wpAnyH_take (i := 18) (oi := ⟨some 21, _, _, _, _, _⟩) (v := .bool true) rfl (by kernel_rfl) (by kernel_rfl) (by kernel_rfl) (fun _ _ _ h => h) (Or.inl ⟨by rfl, by intro WW hSw; (try dsimp only at hSw); go_simp⟩) (by assumption) ?_
  (try simp only [Act.put, List.setIfInBounds_toArray, List.set_cons_zero, List.set_cons_succ])
  refine wpAnyH_take (i := 19) (oi := ⟨some 22, _, _, _, _, _⟩) (v := .bool true) rfl (by kernel_rfl) (by kernel_rfl) (by kernel_rfl) (fun _ _ _ h => h) (Or.inl ⟨by rfl, by intro WW hSw; (try dsimp only at hSw); go_simp⟩) (by assumption) ?_
  (try simp only [Act.put, List.setIfInBounds_toArray, List.set_cons_zero, List.set_cons_succ])
  refine wpAnyH_take (i := 20) (oi := ⟨some 23, _, _, _, _, _⟩) (v := .agg n.cl.toArray) rfl (by kernel_rfl) (by kernel_rfl) (by kernel_rfl) (fun _ _ _ h => h) (yieldsIf_load_mid (by rfl) _ _ rfl w.heap.size 0 rfl n.cl _ (fun w' hw' => ndR (HRR.out _ hw')) Tryd.underlying27 rfl ndI) (by assumption) ?_
  (try simp only [Act.put, List.setIfInBounds_toArray, List.set_cons_zero, List.set_cons_succ])
  refine wpAnyH_take (i := 22) (oi := ⟨some 25, _, _, _, _, _⟩) (v := .agg n.cl.toArray) rfl (by kernel_rfl) (by kernel_rfl) (by kernel_rfl) (fun _ _ _ h => h) (yieldsIf_load_mid (by rfl) _ _ rfl w.heap.size 0 rfl n.cl _ (fun w' hw' => ndR (HRR.out _ hw')) Tryd.underlying27 rfl ndI) (by assumption) ?_
  (try simp only [Act.put, List.setIfInBounds_toArray, List.set_cons_zero, List.set_cons_succ])
  refine wpAnyH_one (i := 21) (oi := ⟨some 24, _, _, _, _, _⟩) rfl (by kernel_rfl) (fun K hK => ?_)
  refine step_calls (by rfl) 24 EGj.out [.tmp 23] _ rfl [n.V] rfl (HI.out _) ?_
  rintro e w9 ⟨rfl, h9⟩
  have g9 := low_and g8 h9
  refine ⟨_, rfl, hK _ _ (low_and g8 h9) (fun hSn => ?_)⟩
  clear hK K
  (try simp only [Act.put, List.setIfInBounds_toArray, List.set_cons_zero, List.set_cons_succ])
  refine wpAnyH_one (i := 23) (oi := ⟨some 26, _, _, _, _, _⟩) rfl (by kernel_rfl) (fun K hK => ?_)
  refine step_calls (by rfl) 25 EGk.out [.tmp 25] _ rfl [n.V] rfl (HIr.out _) ?_
  rintro e wb ⟨rfl, hb⟩
  have gb := low_and g9 hb
  refine ⟨_, rfl, hK _ _ (low_and g9 hb) (fun hSn => ?_)⟩
  clear hK K
  (try simp only [Act.put, List.setIfInBounds_toArray, List.set_cons_zero, List.set_cons_succ])
  refine wpAnyH_take (i := 24) (oi := ⟨some 27, _, _, _, _, _⟩) (v := .bool true) rfl (by kernel_rfl) (by kernel_rfl) (by kernel_rfl) (fun _ _ _ h => h) (Or.inl ⟨by rfl, by intro WW hSw; (try dsimp only at hSw); go_simp⟩) (by assumption) ?_
  (try simp only [Act.put, List.setIfInBounds_toArray, List.set_cons_zero, List.set_cons_succ])
  refine wpAnyH_take (i := 25) (oi := ⟨some 28, _, _, _, _, _⟩) (v := .bool true) rfl (by kernel_rfl) (by kernel_rfl) (by kernel_rfl) (fun _ _ _ h => h) (Or.inl ⟨by rfl, by intro WW hSw; (try dsimp only at hSw); go_simp⟩) (by assumption) ?_
  (try simp only [Act.put, List.setIfInBounds_toArray, List.set_cons_zero, List.set_cons_succ])
  refine wpAnyH_take (i := 26) (oi := ⟨some 29, _, _, _, _, _⟩) (v := .bool true) rfl (by kernel_rfl) (by kernel_rfl) (by kernel_rfl) (fun _ _ _ h => h) (Or.inl ⟨by rfl, by intro WW hSw; (try dsimp only at hSw); go_simp⟩) (by assumption) ?_
  (try simp only [Act.put, List.setIfInBounds_toArray, List.set_cons_zero, List.set_cons_succ])
  refine wpAnyH_one (i := 27) (oi := ⟨some 30, _, _, _, _, _⟩) rfl (by kernel_rfl) (fun K hK => ?_)
  refine step_calls (by rfl) 14 EGf.out [] _ rfl [] rfl (HK.out _ gb) ?_
  rintro e wc ⟨rfl, hc⟩
  have gc := low_and gb hc
  refine ⟨_, rfl, hK _ _ (low_and gb hc) (fun hSn => ?_)⟩
  clear hK K
  (try simp only [Act.put, List.setIfInBounds_toArray, List.set_cons_zero, List.set_cons_succ])
  refine wpAnyH_take (i := 28) (oi := ⟨some 31, _, _, _, _, _⟩) (v := .bool true) rfl (by kernel_rfl) (by kernel_rfl) (by kernel_rfl) (fun _ _ _ h => h) (Or.inl ⟨by rfl, by intro WW hSw; (try dsimp only at hSw); go_simp⟩) (by assumption) ?_
  (try simp only [Act.put, List.setIfInBounds_toArray, List.set_cons_zero, List.set_cons_succ])
  refine wpAnyH_take (i := 29) (oi := ⟨some 2, _, _, _, _, _⟩) (v := .bool true) rfl (by kernel_rfl) (by kernel_rfl) (by kernel_rfl) (fun _ _ _ h => h) (Or.inl ⟨by rfl, by intro WW hSw; (try dsimp only at hSw); go_simp⟩) (by assumption) ?_
  (try simp only [Act.put, List.setIfInBounds_toArray, List.set_cons_zero, List.set_cons_succ])
  refine wpAnyH_done (by kernel_rfl) ?_ _
  go_wp2
  go_ret
  exact ⟨rfl, low_and HB0.out gc⟩
end Go.Proofs.YthifamaoffkedaaDoor
