/- The reference's Of: the node of words, or the error; of any words; without conditions. -/
import Derived.Test.YthifamaoffkedaaDoorN8Of
namespace Go.Proofs.YthifamaoffkedaaDoor
open Go.RowKit
set_option linter.unusedVariables false
set_option maxRecDepth 100000 in
set_option maxHeartbeats 4000000 in
theorem r8Of_any {x : List Int} (hl : x.length = 24) (h0 : 0 ≤ wAt x 0 ∧ wAt x 0 < 18446744073709551616) (w : World) : Calls Tryd.prog 15 #[.agg (x.map uw).toArray] w fun e w' => e = .returned (.tuple #[(ofR x).1.V, .int .i64 (ofR x).2]) ∧ Below w.heap.size w w' := by
  have rx := Row.new w 28 (x.map uw).toArray
  have rz := Row.new (w.alloc (.cells (x.map uw).toArray 28)) 27 zeroNd.cl.toArray
  rw [World.size_alloc] at rz
  obtain ⟨W1, hW1⟩ : ∃ W1, W1 = (w.alloc (.cells (x.map uw).toArray 28)).alloc (.cells #[.int .i64 0, .int .u64 0, .int .u64 0, .int .u64 0, .int .u64 0, .int .u64 0, .int .u64 0, .int .u64 0, .int .u64 0, .int .u64 0, .int .u64 0, .int .u64 0, .int .u64 0, .int .u64 0, .int .u64 0, .int .u64 0, .int .u64 0, .int .u64 0, .int .u64 0, .int .u64 0, .int .u64 0] 27) := ⟨_, rfl⟩
  have hb1 : Below w.heap.size w W1 := by rw [hW1]; exact low_and' (alloc_low' _ _) (alloc_low' _ _)
  have r0 : Row W1 w.heap.size 28 (x.map uw).toArray := by rw [hW1]; exact rx.alloc _
  have r1 : NdAt W1 (w.heap.size + 1) zeroNd := by rw [hW1]; exact rz
  have hs1 : W1.heap.size = w.heap.size + 2 := by rw [hW1]; simp
  have HW1 := Lib.hid hW1
  have HB1 := Lib.hid hb1
  have R0 := Lib.hid r0
  have R1 := Lib.hid r1
  have HOf := Lib.hid (show ofR x = if 5495893775785918464 ≤ wAt x 0 ∧ wAt x 0 ≤ 5495893775785918479 then (ofN (wAt x 0 - 5495893775785918464) x 8, 0) else (zeroNd, 11) from rfl)
  have HS1 := Lib.hid hs1
  clear hW1 hb1 r0 r1 rx rz hs1
  go_enter Tryd.func15, Tryd.ntmps15
  go_wp2_with (first
    | (rw [← HW1.out]))
  go_loopw [4] (fun i wr => wr = W1 ∧ ∃ k : Nat, k ≤ 16 ∧ i = .int .i64 (k : Int) ∧ ∀ j : Nat, j < k → wAt x 0 ≠ 5495893775785918464 + (j : Int)) (fun i _ => 16 - (intOf i).toNat)
  case atStart => exact ⟨rfl, 0, by omega, rfl, fun j hj => by omega⟩
  case round =>
    rename World => wr
    obtain ⟨rfl, k, hk, rfl, hall⟩ := hrel
    by_cases hlt : k < 16
    · have hk15 : (k : Int) ≤ 15 := by omega
      have hk64 : IntKind.u64.wrap (k : Int) = (k : Int) := by rw [IntKind.wrap_u64]; omega
      have hkm : IntKind.u64.wrap (5495893775785918464 + (k : Int)) = 5495893775785918464 + (k : Int) := by rw [IntKind.wrap_u64]; omega
      have hc : ∀ i, i < 24 → wr.cell? ⟨w.heap.size, i, none⟩ = some (.int .u64 (wAt x i)) := fun i hi => (R0.out.cell i).trans (by rw [List.getElem?_toArray]; exact wAt_get hl hi)
      have c0 := hc 0 (by omega)
      by_cases he : wAt x 0 = 5495893775785918464 + (k : Int)
      · have hneq : (wAt x 0 != 5495893775785918464 + (k : Int)) = false := by rw [he]; simp
        have HO0 := Lib.hid (show ofR x = (ofN (k : Int) x 8, 0) by rw [HOf.out, if_pos (by omega), he, show 5495893775785918464 + (k : Int) - 5495893775785918464 = (k : Int) by omega])
        have c1 := hc 1 (by omega)
        have c2 := hc 2 (by omega)
        have c3 := hc 3 (by omega)
        have c4 := hc 4 (by omega)
        obtain ⟨a, ha⟩ : ∃ a, a = wAt x 0 := ⟨_, rfl⟩
        rw [← ha] at c0 hneq
        obtain ⟨W2, hW2⟩ : ∃ W2, W2 = (wr.alloc (.cells #[.int .i64 0, .int .u64 0, .int .u64 0, .int .u64 0, .int .u64 0, .int .u64 0, .int .u64 0, .int .u64 0, .int .u64 0, .int .u64 0, .int .u64 0, .int .u64 0, .int .u64 0, .int .u64 0, .int .u64 0, .int .u64 0, .int .u64 0, .int .u64 0, .int .u64 0, .int .u64 0, .int .u64 0] 27)).setCells wr.heap.size 0 (ofN (k : Int) x 0).cl := ⟨_, rfl⟩
        have q2 : NdAt W2 wr.heap.size (ofN (k : Int) x 0) := by rw [hW2]; exact row_setCells (Row.new wr 27 zeroNd.cl.toArray) rfl
        have hb2 : Below wr.heap.size wr W2 := by rw [hW2]; exact setCells_low _ (Nat.le_refl _) (alloc_low' _ _)
        have HW2 := Lib.hid hW2
        have Q2 := Lib.hid q2
        have HB2 := Lib.hid hb2
        clear hW2 q2 hb2 ha he hall hc h0
        go_wp2_with (refine wpList_store_row rfl _ _ _ rfl wr.heap.size (ofN (k : Int) x 0).cl rfl rfl (Row.new wr 27 zeroNd.cl.toArray) rfl ndI (cl_one _) ?_; rw [← HW2.out])
        have R0' := Lib.hid (R0.out.below HB2.out R0.out.lt)
        have R1' := Lib.hid (Row.below R1.out HB2.out (Row.lt R1.out))
        have HBB := Lib.hid (low_and' HB1.out HB2.out)
        have hw1 : w.heap.size + 2 ≤ wr.heap.size := Nat.le_of_eq HS1.out.symm
        go_loopw [6] (fun i wq => ∃ m : Nat, m ≤ 8 ∧ i = .int .i64 (m : Int) ∧ NdAt wq wr.heap.size (ofN (k : Int) x m) ∧ Row wq w.heap.size 28 (x.map uw).toArray ∧ NdAt wq (w.heap.size + 1) zeroNd ∧ Below w.heap.size w wq) (fun i _ => 8 - (intOf i).toNat)
        case atStart => exact ⟨0, by omega, rfl, Q2.out, R0'.out, R1'.out, HBB.out⟩
        case round =>
          rename World => wq
          obtain ⟨m, hm, rfl, h0, h1, h2, hb⟩ := hrel
          have H0 := Lib.hid h0
          have H1 := Lib.hid h1
          have H2 := Lib.hid h2
          have HB := Lib.hid hb
          by_cases hlt : m < 8
          · have hk8 : (m : Int) < 8 := by omega
            have ck := ndAt_key h0 hlt
            have cp := ndAt_ptr h0 hlt
            have f1 := h0.free (5 + m)
            have f2 := h0.free (13 + m)
            have x1 : wq.cell? ⟨w.heap.size, 8 + 2 * m, none⟩ = some (.int .u64 (wAt x (8 + 2 * m))) := (h1.cell _).trans (by rw [List.getElem?_toArray]; exact wAt_get hl (by omega))
            have x2 : wq.cell? ⟨w.heap.size, 9 + 2 * m, none⟩ = some (.int .u64 (wAt x (8 + 2 * m + 1))) := (h1.cell _).trans (by rw [List.getElem?_toArray, show 9 + 2 * m = 8 + 2 * m + 1 by omega]; exact wAt_get hl (by omega))
            have hne : wr.heap.size ≠ w.heap.size := by omega
            have hne2 : w.heap.size ≠ wr.heap.size := by omega
            have x2' : ∀ u, (wq.setCell ⟨wr.heap.size, 5 + m, none⟩ u).cell? ⟨w.heap.size, 9 + 2 * m, none⟩ = some (.int .u64 (wAt x (8 + 2 * m + 1))) := fun u => by
              rw [World.cell?_setCell_other _ _ _ _ (by simp <;> omega)]
              exact x2
            have cp' : ∀ u, (wq.setCell ⟨wr.heap.size, 5 + m, none⟩ u).cell? ⟨wr.heap.size, 13 + m, none⟩ = some (.int .u64 ((ofN (k : Int) x m).ptr m)) := fun u => by
              rw [World.cell?_setCell_other _ _ _ _ (by simp)]
              exact cp
            have HST := Lib.hid (show ofN (k : Int) x (m + 1) = (ofN (k : Int) x m).put m (wAt x (8 + 2 * m), wAt x (8 + 2 * m + 1)) from rfl)
            clear h0 h1 h2 hb
            go_wp2
            refine ⟨⟨m + 1, by omega, by go_num, ?_, ?_, ?_, ?_⟩, by simp [intOf]; omega⟩
            · rw [HST.out]
              have := (Row.set H0.out (5 + m) (uw (wAt x (8 + 2 * m)))).set (13 + m) (uw (wAt x (8 + 2 * m + 1)))
              rw [put_cl _ hlt (wAt x (8 + 2 * m), wAt x (8 + 2 * m + 1))] at this
              exact this
            · exact (H1.out.other (p := ⟨wr.heap.size, 5 + m, none⟩) (by dsimp only; omega) _).other (p := ⟨wr.heap.size, 13 + m, none⟩) (by dsimp only; omega) _
            · exact (H2.out.other (p := ⟨wr.heap.size, 5 + m, none⟩) (by dsimp only; omega) _).other (p := ⟨wr.heap.size, 13 + m, none⟩) (by dsimp only; omega) _
            · exact (HB.out.setCell (p := ⟨wr.heap.size, 5 + m, none⟩) (by dsimp only; omega) _).setCell (p := ⟨wr.heap.size, 13 + m, none⟩) (by dsimp only; omega) _
          · obtain rfl : m = 8 := by omega
            clear h0 h1 h2 hb
            obtain ⟨M, hM⟩ : ∃ M, M = ofN (k : Int) x 8 := ⟨_, rfl⟩
            rw [← hM] at H0 HO0
            clear hM
            go_wp2_with (first
              | (refine wpList_load_mid rfl _ _ rfl wr.heap.size 0 rfl M.cl _ (ndR H0.out) Tryd.underlying27 rfl ndI ?_)
              | (refine wpList_store_row rfl _ _ _ rfl (w.heap.size + 1) M.cl rfl rfl H2.out rfl ndI (cl_one _) ?_))
            refine bodyPost_ret (results_node_tmp rfl _ _ (w.heap.size + 1) M rfl (row_setCells H2.out rfl)) rfl ⟨?_, setCells_low _ (Nat.le_succ _) HB.out⟩
            rw [HO0.out]
            rfl
      · have hneq : (wAt x 0 != 5495893775785918464 + (k : Int)) = true := by simpa using he
        go_wp2
        refine ⟨⟨trivial, k + 1, by omega, by go_num, fun j hj => ?_⟩, by simp [intOf]; omega⟩
        rcases Nat.lt_or_eq_of_le (Nat.le_of_lt_succ hj) with h | rfl
        · exact hall j h
        · exact he
    · obtain rfl : k = 16 := by omega
      have hno : ¬ (5495893775785918464 ≤ wAt x 0 ∧ wAt x 0 ≤ 5495893775785918479) := fun hh => hall (wAt x 0 - 5495893775785918464).toNat (by omega) (by omega)
      go_wp2_with (refine wpList_store_row rfl _ _ _ rfl (w.heap.size + 1) zeroNd.cl rfl rfl R1.out rfl ndI (cl_one zeroNd) ?_)
      refine bodyPost_ret (results_node_tmp rfl _ _ (w.heap.size + 1) zeroNd rfl (row_setCells R1.out rfl)) rfl ⟨?_, setCells_low _ (Nat.le_succ _) HB1.out⟩
      rw [HOf.out, if_neg hno]
      rfl
end Go.Proofs.YthifamaoffkedaaDoor
