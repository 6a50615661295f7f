/- Of: the node of words, or the error; of any words; without conditions. -/
import Derived.Test.YthifamaoffkedaaDoorN8Words
namespace Go.Proofs.YthifamaoffkedaaDoor
open Go.RowKit
set_option linter.unusedVariables false
/-- A word of a list. -/
def wAt (x : List Int) (i : Nat) : Int := x.getD i 0
/-- The node of words, at so many places. -/
def ofN (lvl : Int) (x : List Int) : Nat → Nd
  | 0 => ⟨lvl, wAt x 1, wAt x 2, wAt x 3, wAt x 4, 0, 0, 0, 0, 0, 0, 0, 0, 0, 0, 0, 0, 0, 0, 0, 0⟩
  | k + 1 => (ofN lvl x k).put k (wAt x (8 + 2 * k), wAt x (8 + 2 * k + 1))
/-- Of's answer: the node, the error. -/
def ofR (x : List Int) : Nd × Int := if 5495893775785918464 ≤ wAt x 0 ∧ wAt x 0 ≤ 5495893775785918479 then (ofN (wAt x 0 - 5495893775785918464) x 8, 0) else (zeroNd, 11)
theorem wAt_get {x : List Int} (hl : x.length = 24) {i : Nat} (hi : i < 24) : (x.map uw)[i]? = some (.int .u64 (wAt x i)) := by
  rw [List.getElem?_map, List.getElem?_eq_getElem (by omega)]
  unfold wAt
  rw [List.getD_eq_getElem?_getD, List.getElem?_eq_getElem (by omega)]
  rfl
set_option maxRecDepth 100000 in
set_option maxHeartbeats 4000000 in
theorem nOf_any {x : List Int} (hl : x.length = 24) (h0 : 0 ≤ wAt x 0 ∧ wAt x 0 < 18446744073709551616) (w : World) : Calls Tryd.prog 12 #[.agg (x.map uw).toArray] w fun e w' => e = .returned (.tuple #[(ofR x).1.V, .int .i64 (ofR x).2]) ∧ Below w.heap.size w w' := by
  have rx := Row.new w 28 (x.map uw).toArray
  have rz := Row.new (w.alloc (.cells (x.map uw).toArray 28)) 27 zeroNd.cl.toArray
  rw [World.size_alloc] at rz
  obtain ⟨W1, hW1⟩ : ∃ W1, W1 = (w.alloc (.cells (x.map uw).toArray 28)).alloc (.cells #[.int .i64 0, .int .u64 0, .int .u64 0, .int .u64 0, .int .u64 0, .int .u64 0, .int .u64 0, .int .u64 0, .int .u64 0, .int .u64 0, .int .u64 0, .int .u64 0, .int .u64 0, .int .u64 0, .int .u64 0, .int .u64 0, .int .u64 0, .int .u64 0, .int .u64 0, .int .u64 0, .int .u64 0] 27) := ⟨_, rfl⟩
  have hb1 : Below w.heap.size w W1 := by rw [hW1]; exact low_and' (alloc_low' _ _) (alloc_low' _ _)
  have r0 : Row W1 w.heap.size 28 (x.map uw).toArray := by rw [hW1]; exact rx.alloc _
  have r1 : NdAt W1 (w.heap.size + 1) zeroNd := by rw [hW1]; exact rz
  have hs1 : W1.heap.size = w.heap.size + 2 := by rw [hW1]; simp
  have hc : ∀ i, i < 24 → W1.cell? ⟨w.heap.size, i, none⟩ = some (.int .u64 (wAt x i)) := fun i hi => (r0.cell i).trans (by rw [List.getElem?_toArray]; exact wAt_get hl hi)
  have c0 := hc 0 (by omega)
  have HW1 := Lib.hid hW1
  have HB1 := Lib.hid hb1
  have R0 := Lib.hid r0
  have R1 := Lib.hid r1
  have HC := Lib.hid hc
  have HOf := Lib.hid (show ofR x = if 5495893775785918464 ≤ wAt x 0 ∧ wAt x 0 ≤ 5495893775785918479 then (ofN (wAt x 0 - 5495893775785918464) x 8, 0) else (zeroNd, 11) from rfl)
  obtain ⟨a, ha⟩ : ∃ a, a = wAt x 0 := ⟨_, rfl⟩
  rw [← ha] at c0 h0 HOf
  have HS1 := Lib.hid hs1
  clear hW1 hb1 r0 r1 hc rx rz ha hs1
  obtain hlv | hlv : (5495893775785918464 ≤ a ∧ a ≤ 5495893775785918479) ∨ ¬ (5495893775785918464 ≤ a ∧ a ≤ 5495893775785918479) := by omega
  · obtain ⟨hlo, hhi⟩ := hlv
    have hsub : IntKind.u64.wrap (a - 5495893775785918464) = a - 5495893775785918464 := by rw [IntKind.wrap_u64]; omega
    have hnt : ¬ 15 < a - 5495893775785918464 := by omega
    have c1 := HC.out 1 (by omega)
    have c2 := HC.out 2 (by omega)
    have c3 := HC.out 3 (by omega)
    have c4 := HC.out 4 (by omega)
    have hi64 : IntKind.i64.wrap (a - 5495893775785918464) = a - 5495893775785918464 := by rw [IntKind.wrap_i64]; omega
    have HO0 := Lib.hid (show ofR x = (ofN (a - 5495893775785918464) x 8, 0) by rw [HOf.out, if_pos ⟨hlo, hhi⟩])
    obtain ⟨lv, hlv⟩ : ∃ lv, lv = a - 5495893775785918464 := ⟨_, rfl⟩
    rw [← hlv] at HO0
    obtain ⟨W2, hW2⟩ : ∃ W2, W2 = (W1.alloc (.cells #[.int .i64 0, .int .u64 0, .int .u64 0, .int .u64 0, .int .u64 0, .int .u64 0, .int .u64 0, .int .u64 0, .int .u64 0, .int .u64 0, .int .u64 0, .int .u64 0, .int .u64 0, .int .u64 0, .int .u64 0, .int .u64 0, .int .u64 0, .int .u64 0, .int .u64 0, .int .u64 0, .int .u64 0] 27)).setCells W1.heap.size 0 (ofN lv x 0).cl := ⟨_, rfl⟩
    have q2 : NdAt W2 W1.heap.size (ofN lv x 0) := by rw [hW2]; exact row_setCells (Row.new W1 27 zeroNd.cl.toArray) rfl
    have hb2 : Below W1.heap.size W1 W2 := by rw [hW2]; exact setCells_low _ (Nat.le_refl _) (alloc_low' _ _)
    have hsz2 : W1.heap.size < W2.heap.size := q2.lt
    have HW2 := Lib.hid hW2
    have Q2 := Lib.hid q2
    have HB2 := Lib.hid hb2
    have hlve := hlv
    clear hW2 q2 hb2 hlv
    go_enter Tryd.func12, Tryd.ntmps12
    go_wp2_with (first
      | (rw [← HW1.out])
      | (refine wpList_store_row rfl _ _ _ rfl W1.heap.size (ofN lv x 0).cl rfl (by rw [hlve]; rfl) (Row.new W1 27 zeroNd.cl.toArray) rfl ndI (cl_one _) ?_; rw [← HW2.out]))
    have R0' := Lib.hid (R0.out.below HB2.out R0.out.lt)
    have R1' := Lib.hid (Row.below R1.out HB2.out (Row.lt R1.out))
    have HBB := Lib.hid (low_and' HB1.out HB2.out)
    have hw1 : w.heap.size + 2 ≤ W1.heap.size := Nat.le_of_eq HS1.out.symm
    go_loopw [24] (fun i wr => ∃ k : Nat, k ≤ 8 ∧ i = .int .i64 (k : Int) ∧ NdAt wr W1.heap.size (ofN lv x k) ∧ Row wr w.heap.size 28 (x.map uw).toArray ∧ NdAt wr (w.heap.size + 1) zeroNd ∧ Below w.heap.size w wr) (fun i _ => 8 - (intOf i).toNat)
    case atStart => exact ⟨0, by omega, rfl, Q2.out, R0'.out, R1'.out, HBB.out⟩
    case round =>
      rename World => wr
      obtain ⟨k, hk, rfl, h0, h1, h2, hb⟩ := hrel
      have H0 := Lib.hid h0
      have H1 := Lib.hid h1
      have H2 := Lib.hid h2
      have HB := Lib.hid hb
      by_cases hlt : k < 8
      · have hk8 : (k : Int) < 8 := by omega
        have ck := ndAt_key h0 hlt
        have cp := ndAt_ptr h0 hlt
        have f1 := h0.free (5 + k)
        have f2 := h0.free (13 + k)
        have x1 : wr.cell? ⟨w.heap.size, 8 + 2 * k, none⟩ = some (.int .u64 (wAt x (8 + 2 * k))) := (h1.cell _).trans (by rw [List.getElem?_toArray]; exact wAt_get hl (by omega))
        have x2 : wr.cell? ⟨w.heap.size, 8 + 2 * k + 1, none⟩ = some (.int .u64 (wAt x (8 + 2 * k + 1))) := (h1.cell _).trans (by rw [List.getElem?_toArray]; exact wAt_get hl (by omega))
        have hne : W1.heap.size ≠ w.heap.size := by omega
        have hne2 : w.heap.size ≠ W1.heap.size := by omega
        have x2' : ∀ u, (wr.setCell ⟨W1.heap.size, 5 + k, none⟩ u).cell? ⟨w.heap.size, 8 + 2 * k + 1, none⟩ = some (.int .u64 (wAt x (8 + 2 * k + 1))) := fun u => by
          rw [World.cell?_setCell_other _ _ _ _ (by simp <;> omega)]
          exact x2
        have cp' : ∀ u, (wr.setCell ⟨W1.heap.size, 5 + k, none⟩ u).cell? ⟨W1.heap.size, 13 + k, none⟩ = some (.int .u64 ((ofN lv x k).ptr k)) := fun u => by
          rw [World.cell?_setCell_other _ _ _ _ (by simp)]
          exact cp
        have HST := Lib.hid (show ofN lv x (k + 1) = (ofN lv x k).put k (wAt x (8 + 2 * k), wAt x (8 + 2 * k + 1)) from rfl)
        clear h0 h1 h2 hb
        go_wp2
        refine ⟨⟨k + 1, by omega, by go_num, ?_, ?_, ?_, ?_⟩, by simp [intOf]; omega⟩
        · rw [HST.out]
          have := (Row.set H0.out (5 + k) (uw (wAt x (8 + 2 * k)))).set (13 + k) (uw (wAt x (8 + 2 * k + 1)))
          rw [put_cl _ hlt (wAt x (8 + 2 * k), wAt x (8 + 2 * k + 1))] at this
          exact this
        · exact (H1.out.other (p := ⟨W1.heap.size, 5 + k, none⟩) (by dsimp only; omega) _).other (p := ⟨W1.heap.size, 13 + k, none⟩) (by dsimp only; omega) _
        · exact (H2.out.other (p := ⟨W1.heap.size, 5 + k, none⟩) (by dsimp only; omega) _).other (p := ⟨W1.heap.size, 13 + k, none⟩) (by dsimp only; omega) _
        · exact (HB.out.setCell (p := ⟨W1.heap.size, 5 + k, none⟩) (by dsimp only; omega) _).setCell (p := ⟨W1.heap.size, 13 + k, none⟩) (by dsimp only; omega) _
      · obtain rfl : k = 8 := by omega
        clear h0 h1 h2 hb
        obtain ⟨M, hM⟩ : ∃ M, M = ofN lv x 8 := ⟨_, rfl⟩
        rw [← hM] at H0 HO0
        clear hM
        go_wp2_with (first
          | (refine wpList_load_mid rfl _ _ rfl W1.heap.size 0 rfl M.cl _ (ndR H0.out) Tryd.underlying27 rfl ndI ?_)
          | (refine wpList_store_row rfl _ _ _ rfl (w.heap.size + 1) M.cl rfl rfl H2.out rfl ndI (cl_one _) ?_))
        refine bodyPost_ret (results_node_tmp rfl _ _ (w.heap.size + 1) M rfl (row_setCells H2.out rfl)) rfl ⟨?_, setCells_low _ (Nat.le_succ _) HB.out⟩
        rw [HO0.out]
        rfl
  · have hgt : 15 < IntKind.u64.wrap (a - 5495893775785918464) := by rw [IntKind.wrap_u64]; omega
    go_enter Tryd.func12, Tryd.ntmps12
    go_wp2_with (first
      | (rw [← HW1.out])
      | (refine wpList_store_row rfl _ _ _ rfl (w.heap.size + 1) zeroNd.cl rfl rfl R1.out rfl ndI (cl_one zeroNd) ?_))
    refine bodyPost_ret (results_node_tmp rfl _ _ (w.heap.size + 1) zeroNd rfl (row_setCells R1.out rfl)) rfl ⟨?_, setCells_low _ (Nat.le_succ _) HB1.out⟩
    rw [HOf.out, if_neg hlv]
    rfl
end Go.Proofs.YthifamaoffkedaaDoor
