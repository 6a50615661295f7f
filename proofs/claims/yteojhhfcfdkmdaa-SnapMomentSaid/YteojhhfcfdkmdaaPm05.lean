/- Texts of this claim, packed: N8Words, N8Of, N8WordR, PreW, N8OfR. -/
import Derived.Test.YteojhhfcfdkmdaaPm02
import Derived.Test.YteojhhfcfdkmdaaPm03
import Derived.Test.YteojhhfcfdkmdaaPm04
set_option linter.unusedSimpArgs false
set_option linter.unusedVariables false
/- Words: a node's twenty-four; of any node of words; without conditions. -/
namespace Go.Proofs.Yteojhhfcfdkmdaa
open Go.RowKit
set_option linter.unusedVariables false
theorem drew_low' (w : World) : Below w.heap.size w w.drew := ⟨rfl, rfl, rfl, Nat.le_refl _, fun _ _ => rfl⟩
theorem alloc_low' (w : World) (o : Obj) : Below w.heap.size w (w.alloc o) := (Below.refl _ w).alloc (Nat.le_refl _) o
theorem low_and' {w a b : World} (h : Below w.heap.size w a) (k : Below a.heap.size a b) : Below w.heap.size w b := h.trans (k.mono h.size)
/-- So many of the places' words. -/
def wpart (n : Nd) (k : Nat) : List Value := [uw (5495893775785918464 + n.l), uw n.lo, uw n.nx, uw n.ct, uw n.fi, uw 0, uw 0, uw 0,
  if 0 < k then uw n.k0 else uw 0, if 0 < k then uw n.p0 else uw 0, if 1 < k then uw n.k1 else uw 0, if 1 < k then uw n.p1 else uw 0, if 2 < k then uw n.k2 else uw 0, if 2 < k then uw n.p2 else uw 0, if 3 < k then uw n.k3 else uw 0, if 3 < k then uw n.p3 else uw 0,
  if 4 < k then uw n.k4 else uw 0, if 4 < k then uw n.p4 else uw 0, if 5 < k then uw n.k5 else uw 0, if 5 < k then uw n.p5 else uw 0, if 6 < k then uw n.k6 else uw 0, if 6 < k then uw n.p6 else uw 0, if 7 < k then uw n.k7 else uw 0, if 7 < k then uw n.p7 else uw 0]
def zeroW : List Value := [uw 0, uw 0, uw 0, uw 0, uw 0, uw 0, uw 0, uw 0, uw 0, uw 0, uw 0, uw 0, uw 0, uw 0, uw 0, uw 0, uw 0, uw 0, uw 0, uw 0, uw 0, uw 0, uw 0, uw 0]
def isLv (n : Nd) : Bool := decide (0 ≤ n.l) && decide (n.l ≤ 15)
/-- A node's words. -/
def wordsL (n : Nd) : List Value := if isLv n = true then wpart n 8 else zeroW
theorem w_put (n : Nd) {k : Nat} (hk : k < 8) : (((wpart n k).toArray.setIfInBounds (8 + 2 * k) (uw (n.key k))).setIfInBounds (8 + 2 * k + 1) (uw (n.ptr k))) = (wpart n (k + 1)).toArray := by
  rcases lt8 hk with rfl | rfl | rfl | rfl | rfl | rfl | rfl | rfl <;> rfl
theorem w_begin (n : Nd) : (((((zeroW.toArray.setIfInBounds 0 (uw (5495893775785918464 + n.l))).setIfInBounds 1 (uw n.lo)).setIfInBounds 2 (uw n.nx)).setIfInBounds 3 (uw n.ct)).setIfInBounds 4 (uw n.fi)) = (wpart n 0).toArray := rfl
theorem w24I : (Try.prog.info? 76).map (·.size) = some 24 := by kernel_rfl
theorem wordsL_len (n : Nd) : (wordsL n).length = 24 := by unfold wordsL; split <;> rfl
theorem zeroW_one : ∀ v ∈ zeroW, v.oneCell' = true := by
  intro v hv
  simp only [zeroW, List.mem_cons, List.not_mem_nil, or_false, _root_.or_self] at hv
  subst hv
  rfl
theorem wpart_one (n : Nd) (k : Nat) : ∀ v ∈ wpart n k, v.oneCell' = true := by
  intro v hv
  simp only [wpart, List.mem_cons, List.not_mem_nil, or_false] at hv
  rcases hv with rfl | rfl | rfl | rfl | rfl | rfl | rfl | rfl | rfl | rfl | rfl | rfl | rfl | rfl | rfl | rfl | rfl | rfl | rfl | rfl | rfl | rfl | rfl | rfl <;> (try split) <;> rfl
theorem rowR {w : World} {b : Nat} {t : TypeId} {vs : List Value} (h : Row w b t vs.toArray) : w.rangeAt b 0 vs := fun j v hv => by
  rw [Nat.zero_add, h.cell, List.getElem?_toArray]
  exact hv
theorem results_w24 {fn : Func} {p : Tmp} (h : fn.results = #[.cell p 76]) (tmps : Array Value) (w : World) (g : Nat) (vs : List Value) (hl : vs.length = 24)
    (hp : tmps.getD p undef = .pointer (some ⟨g, 0, none⟩)) (hg : Row w g 76 vs.toArray) : (results fn tmps).run Try.prog w = .ok (.agg vs.toArray) w :=
  results_cell_row h tmps w g 76 vs.toArray (0, 0) _ hp hg Try.underlying76 rfl (by rw [w24I]; simp [hl])
end Go.Proofs.Yteojhhfcfdkmdaa
/- Of: the node of words, or the error; of any words; without conditions. -/
namespace Go.Proofs.Yteojhhfcfdkmdaa
open Go.RowKit
set_option linter.unusedVariables false
/-- A word of a list. -/
def wAt (x : List Int) (i : Nat) : Int := x.getD i 0
/-- The node of words, at so many places. -/
def ofN (lvl : Int) (x : List Int) : Nat → Nd
  | 0 => ⟨lvl, wAt x 1, wAt x 2, wAt x 3, wAt x 4, 0, 0, 0, 0, 0, 0, 0, 0, 0, 0, 0, 0, 0, 0, 0, 0⟩
  | k + 1 => (ofN lvl x k).put k (wAt x (8 + 2 * k), wAt x (8 + 2 * k + 1))
/-- Of's answer: the node, the error. -/
def ofR (x : List Int) : Nd × Int := if 5495893775785918464 ≤ wAt x 0 ∧ wAt x 0 ≤ 5495893775785918479 then (ofN (wAt x 0 - 5495893775785918464) x 8, 0) else (zeroNd, 11)
theorem wAt_get {x : List Int} (hl : x.length = 24) {i : Nat} (hi : i < 24) : (x.map uw)[i]? = some (.int .u64 (wAt x i)) := by
  rw [List.getElem?_map, List.getElem?_eq_getElem (by omega)]
  unfold wAt
  rw [List.getD_eq_getElem?_getD, List.getElem?_eq_getElem (by omega)]
  rfl
set_option maxRecDepth 100000 in
set_option maxHeartbeats 4000000 in
theorem nOf_any {x : List Int} (hl : x.length = 24) (h0 : 0 ≤ wAt x 0 ∧ wAt x 0 < 18446744073709551616) (w : World) : Calls Try.prog 85 #[.agg (x.map uw).toArray] w fun e w' => e = .returned (.tuple #[(ofR x).1.V, .int .i64 (ofR x).2]) ∧ Below w.heap.size w w' := by
  have rx := Row.new w 76 (x.map uw).toArray
  have rz := Row.new (w.alloc (.cells (x.map uw).toArray 76)) 27 zeroNd.cl.toArray
  rw [World.size_alloc] at rz
  obtain ⟨W1, hW1⟩ : ∃ W1, W1 = (w.alloc (.cells (x.map uw).toArray 76)).alloc (.cells #[.int .i64 0, .int .u64 0, .int .u64 0, .int .u64 0, .int .u64 0, .int .u64 0, .int .u64 0, .int .u64 0, .int .u64 0, .int .u64 0, .int .u64 0, .int .u64 0, .int .u64 0, .int .u64 0, .int .u64 0, .int .u64 0, .int .u64 0, .int .u64 0, .int .u64 0, .int .u64 0, .int .u64 0] 27) := ⟨_, rfl⟩
  have hb1 : Below w.heap.size w W1 := by rw [hW1]; exact low_and' (alloc_low' _ _) (alloc_low' _ _)
  have r0 : Row W1 w.heap.size 76 (x.map uw).toArray := by rw [hW1]; exact rx.alloc _
  have r1 : NdAt W1 (w.heap.size + 1) zeroNd := by rw [hW1]; exact rz
  have hs1 : W1.heap.size = w.heap.size + 2 := by rw [hW1]; simp
  have hc : ∀ i, i < 24 → W1.cell? ⟨w.heap.size, i, none⟩ = some (.int .u64 (wAt x i)) := fun i hi => (r0.cell i).trans (by rw [List.getElem?_toArray]; exact wAt_get hl hi)
  have c0 := hc 0 (by omega)
  have HW1 := Lib.hid hW1
  have HB1 := Lib.hid hb1
  have R0 := Lib.hid r0
  have R1 := Lib.hid r1
  have HC := Lib.hid hc
  have HOf := Lib.hid (show ofR x = if 5495893775785918464 ≤ wAt x 0 ∧ wAt x 0 ≤ 5495893775785918479 then (ofN (wAt x 0 - 5495893775785918464) x 8, 0) else (zeroNd, 11) from rfl)
  obtain ⟨a, ha⟩ : ∃ a, a = wAt x 0 := ⟨_, rfl⟩
  rw [← ha] at c0 h0 HOf
  have HS1 := Lib.hid hs1
  clear hW1 hb1 r0 r1 hc rx rz ha hs1
  obtain hlv | hlv : (5495893775785918464 ≤ a ∧ a ≤ 5495893775785918479) ∨ ¬ (5495893775785918464 ≤ a ∧ a ≤ 5495893775785918479) := by omega
  · obtain ⟨hlo, hhi⟩ := hlv
    have hsub : IntKind.u64.wrap (a - 5495893775785918464) = a - 5495893775785918464 := by rw [IntKind.wrap_u64]; omega
    have hnt : ¬ 15 < a - 5495893775785918464 := by omega
    have c1 := HC.out 1 (by omega)
    have c2 := HC.out 2 (by omega)
    have c3 := HC.out 3 (by omega)
    have c4 := HC.out 4 (by omega)
    have hi64 : IntKind.i64.wrap (a - 5495893775785918464) = a - 5495893775785918464 := by rw [IntKind.wrap_i64]; omega
    have HO0 := Lib.hid (show ofR x = (ofN (a - 5495893775785918464) x 8, 0) by rw [HOf.out, if_pos ⟨hlo, hhi⟩])
    obtain ⟨lv, hlv⟩ : ∃ lv, lv = a - 5495893775785918464 := ⟨_, rfl⟩
    rw [← hlv] at HO0
    obtain ⟨W2, hW2⟩ : ∃ W2, W2 = (W1.alloc (.cells #[.int .i64 0, .int .u64 0, .int .u64 0, .int .u64 0, .int .u64 0, .int .u64 0, .int .u64 0, .int .u64 0, .int .u64 0, .int .u64 0, .int .u64 0, .int .u64 0, .int .u64 0, .int .u64 0, .int .u64 0, .int .u64 0, .int .u64 0, .int .u64 0, .int .u64 0, .int .u64 0, .int .u64 0] 27)).setCells W1.heap.size 0 (ofN lv x 0).cl := ⟨_, rfl⟩
    have q2 : NdAt W2 W1.heap.size (ofN lv x 0) := by rw [hW2]; exact row_setCells (Row.new W1 27 zeroNd.cl.toArray) rfl
    have hb2 : Below W1.heap.size W1 W2 := by rw [hW2]; exact setCells_low _ (Nat.le_refl _) (alloc_low' _ _)
    have hsz2 : W1.heap.size < W2.heap.size := q2.lt
    have HW2 := Lib.hid hW2
    have Q2 := Lib.hid q2
    have HB2 := Lib.hid hb2
    have hlve := hlv
    clear hW2 q2 hb2 hlv
    go_enter Try.func85, Try.ntmps85
    go_wp2_with (first
      | (rw [← HW1.out])
      | (refine wpList_store_row rfl _ _ _ rfl W1.heap.size (ofN lv x 0).cl rfl (by rw [hlve]; rfl) (Row.new W1 27 zeroNd.cl.toArray) rfl ndI (cl_one _) ?_; rw [← HW2.out]))
    have R0' := Lib.hid (R0.out.below HB2.out R0.out.lt)
    have R1' := Lib.hid (Row.below R1.out HB2.out (Row.lt R1.out))
    have HBB := Lib.hid (low_and' HB1.out HB2.out)
    have hw1 : w.heap.size + 2 ≤ W1.heap.size := Nat.le_of_eq HS1.out.symm
    go_loopw [24] (fun i wr => ∃ k : Nat, k ≤ 8 ∧ i = .int .i64 (k : Int) ∧ NdAt wr W1.heap.size (ofN lv x k) ∧ Row wr w.heap.size 76 (x.map uw).toArray ∧ NdAt wr (w.heap.size + 1) zeroNd ∧ Below w.heap.size w wr) (fun i _ => 8 - (intOf i).toNat)
    case atStart => exact ⟨0, by omega, rfl, Q2.out, R0'.out, R1'.out, HBB.out⟩
    case round =>
      rename World => wr
      obtain ⟨k, hk, rfl, h0, h1, h2, hb⟩ := hrel
      have H0 := Lib.hid h0
      have H1 := Lib.hid h1
      have H2 := Lib.hid h2
      have HB := Lib.hid hb
      by_cases hlt : k < 8
      · have hk8 : (k : Int) < 8 := by omega
        have ck := ndAt_key h0 hlt
        have cp := ndAt_ptr h0 hlt
        have f1 := h0.free (5 + k)
        have f2 := h0.free (13 + k)
        have x1 : wr.cell? ⟨w.heap.size, 8 + 2 * k, none⟩ = some (.int .u64 (wAt x (8 + 2 * k))) := (h1.cell _).trans (by rw [List.getElem?_toArray]; exact wAt_get hl (by omega))
        have x2 : wr.cell? ⟨w.heap.size, 8 + 2 * k + 1, none⟩ = some (.int .u64 (wAt x (8 + 2 * k + 1))) := (h1.cell _).trans (by rw [List.getElem?_toArray]; exact wAt_get hl (by omega))
        have hne : W1.heap.size ≠ w.heap.size := by omega
        have hne2 : w.heap.size ≠ W1.heap.size := by omega
        have x2' : ∀ u, (wr.setCell ⟨W1.heap.size, 5 + k, none⟩ u).cell? ⟨w.heap.size, 8 + 2 * k + 1, none⟩ = some (.int .u64 (wAt x (8 + 2 * k + 1))) := fun u => by
          rw [World.cell?_setCell_other _ _ _ _ (by simp <;> omega)]
          exact x2
        have cp' : ∀ u, (wr.setCell ⟨W1.heap.size, 5 + k, none⟩ u).cell? ⟨W1.heap.size, 13 + k, none⟩ = some (.int .u64 ((ofN lv x k).ptr k)) := fun u => by
          rw [World.cell?_setCell_other _ _ _ _ (by simp)]
          exact cp
        have HST := Lib.hid (show ofN lv x (k + 1) = (ofN lv x k).put k (wAt x (8 + 2 * k), wAt x (8 + 2 * k + 1)) from rfl)
        clear h0 h1 h2 hb
        go_wp2
        refine ⟨⟨k + 1, by omega, by go_num, ?_, ?_, ?_, ?_⟩, by simp [intOf]; omega⟩
        · rw [HST.out]
          have := (Row.set H0.out (5 + k) (uw (wAt x (8 + 2 * k)))).set (13 + k) (uw (wAt x (8 + 2 * k + 1)))
          rw [put_cl _ hlt (wAt x (8 + 2 * k), wAt x (8 + 2 * k + 1))] at this
          exact this
        · exact (H1.out.other (p := ⟨W1.heap.size, 5 + k, none⟩) (by dsimp only; omega) _).other (p := ⟨W1.heap.size, 13 + k, none⟩) (by dsimp only; omega) _
        · exact (H2.out.other (p := ⟨W1.heap.size, 5 + k, none⟩) (by dsimp only; omega) _).other (p := ⟨W1.heap.size, 13 + k, none⟩) (by dsimp only; omega) _
        · exact (HB.out.setCell (p := ⟨W1.heap.size, 5 + k, none⟩) (by dsimp only; omega) _).setCell (p := ⟨W1.heap.size, 13 + k, none⟩) (by dsimp only; omega) _
      · obtain rfl : k = 8 := by omega
        clear h0 h1 h2 hb
        obtain ⟨M, hM⟩ : ∃ M, M = ofN lv x 8 := ⟨_, rfl⟩
        rw [← hM] at H0 HO0
        clear hM
        go_wp2_with (first
          | (refine wpList_load_mid rfl _ _ rfl W1.heap.size 0 rfl M.cl _ (ndR H0.out) Try.underlying27 rfl ndI ?_)
          | (refine wpList_store_row rfl _ _ _ rfl (w.heap.size + 1) M.cl rfl rfl H2.out rfl ndI (cl_one _) ?_))
        refine bodyPost_ret (results_node_tmp rfl _ _ (w.heap.size + 1) M rfl (row_setCells H2.out rfl)) rfl ⟨?_, setCells_low _ (Nat.le_succ _) HB.out⟩
        rw [HO0.out]
        rfl
  · have hgt : 15 < IntKind.u64.wrap (a - 5495893775785918464) := by rw [IntKind.wrap_u64]; omega
    go_enter Try.func85, Try.ntmps85
    go_wp2_with (first
      | (rw [← HW1.out])
      | (refine wpList_store_row rfl _ _ _ rfl (w.heap.size + 1) zeroNd.cl rfl rfl R1.out rfl ndI (cl_one zeroNd) ?_))
    refine bodyPost_ret (results_node_tmp rfl _ _ (w.heap.size + 1) zeroNd rfl (row_setCells R1.out rfl)) rfl ⟨?_, setCells_low _ (Nat.le_succ _) HB1.out⟩
    rw [HOf.out, if_neg hlv]
    rfl
end Go.Proofs.Yteojhhfcfdkmdaa
/- The document's Words: of any node of words; without conditions. -/
namespace Go.Proofs.Yteojhhfcfdkmdaa
open Go.RowKit
set_option linter.unusedVariables false
theorem w_put9 (n : Nd) {k : Nat} (hk : k < 8) : (((wpart n k).toArray.setIfInBounds (8 + 2 * k) (uw (n.key k))).setIfInBounds (9 + 2 * k) (uw (n.ptr k))) = (wpart n (k + 1)).toArray := by
  rw [show 9 + 2 * k = 8 + 2 * k + 1 by omega]
  exact w_put n hk
set_option maxRecDepth 100000 in
set_option maxHeartbeats 4000000 in
theorem r8Words_any (n : Nd) (w : World) : Calls Try.prog 37 #[n.V] w fun e w' => e = .returned (.agg (wordsL n).toArray) ∧ Below w.heap.size w w' := by
  obtain ⟨W1, hW1⟩ : ∃ W1, W1 = ((w.alloc (.cells n.cl.toArray 27)).alloc (.cells #[.int .u64 0, .int .u64 0, .int .u64 0, .int .u64 0, .int .u64 0, .int .u64 0, .int .u64 0, .int .u64 0, .int .u64 0, .int .u64 0, .int .u64 0, .int .u64 0, .int .u64 0, .int .u64 0, .int .u64 0, .int .u64 0, .int .u64 0, .int .u64 0, .int .u64 0, .int .u64 0, .int .u64 0, .int .u64 0, .int .u64 0, .int .u64 0] 76)).alloc (.cells #[.int .u64 0, .int .u64 0, .int .u64 0, .int .u64 0, .int .u64 0, .int .u64 0, .int .u64 0, .int .u64 0, .int .u64 0, .int .u64 0, .int .u64 0, .int .u64 0, .int .u64 0, .int .u64 0, .int .u64 0, .int .u64 0, .int .u64 0, .int .u64 0, .int .u64 0, .int .u64 0, .int .u64 0, .int .u64 0, .int .u64 0, .int .u64 0] 76) := ⟨_, rfl⟩
  have hb1 : Below w.heap.size w W1 := by rw [hW1]; exact low_and' (low_and' (alloc_low' _ _) (alloc_low' _ _)) (alloc_low' _ _)
  have r0 : NdAt W1 w.heap.size n := by rw [hW1]; exact ((Row.new _ _ _).alloc _).alloc _
  have r1 : Row W1 (w.heap.size + 1) 76 zeroW.toArray := by
    rw [hW1]
    have := Row.new (w.alloc (.cells n.cl.toArray 27)) 76 zeroW.toArray
    rw [World.size_alloc] at this
    exact this.alloc _
  have r2 : Row W1 (w.heap.size + 1 + 1) 76 zeroW.toArray := by
    rw [hW1]
    have := Row.new ((w.alloc (.cells n.cl.toArray 27)).alloc (.cells zeroW.toArray 76)) 76 zeroW.toArray
    rw [World.size_alloc, World.size_alloc] at this
    exact this
  have c0 : W1.cell? ⟨w.heap.size, 0, none⟩ = some (.int .i64 n.l) := ndAt_at r0 0
  have c1 : W1.cell? ⟨w.heap.size, 1, none⟩ = some (.int .u64 n.lo) := ndAt_at r0 1
  have c2 : W1.cell? ⟨w.heap.size, 2, none⟩ = some (.int .u64 n.nx) := ndAt_at r0 2
  have c3 : W1.cell? ⟨w.heap.size, 3, none⟩ = some (.int .u64 n.ct) := ndAt_at r0 3
  have c4 : W1.cell? ⟨w.heap.size, 4, none⟩ = some (.int .u64 n.fi) := ndAt_at r0 4
  obtain ⟨lv, hlv⟩ : ∃ lv, lv = isLv n := ⟨_, rfl⟩
  have HWo := Lib.hid (show wordsL n = if lv = true then wpart n 8 else zeroW by rw [hlv]; rfl)
  have HW1 := Lib.hid hW1
  have HB1 := Lib.hid hb1
  have R0 := Lib.hid r0
  have R1 := Lib.hid r1
  have R2 := Lib.hid r2
  have hlv' : lv = true → 0 ≤ n.l ∧ n.l ≤ 15 := fun h => by
    rw [h] at hlv
    have := hlv.symm
    unfold isLv at this
    simpa using this
  have hlf : lv = false → n.l < 0 ∨ 15 < n.l := fun h => by
    rw [h] at hlv
    have := hlv.symm
    unfold isLv at this
    simp at this
    omega
  clear hW1 hlv hb1 r0 r1 r2
  cases lv with
  | false =>
    obtain hl | hl := hlf rfl
    · go_enter Try.func37, Try.ntmps37
      go_wp2_with (first
        | (rw [← HW1.out])
        | (refine wpList_load_mid rfl _ _ rfl (w.heap.size + 1 + 1) 0 rfl zeroW _ (rowR R2.out) Try.underlying76 rfl w24I ?_)
        | (refine wpList_store_row rfl _ _ _ rfl (w.heap.size + 1) zeroW rfl rfl R1.out rfl w24I zeroW_one ?_))
      refine bodyPost_ret (results_w24 rfl _ _ (w.heap.size + 1) zeroW rfl rfl (row_setCells R1.out rfl)) rfl ⟨?_, setCells_low _ (Nat.le_succ _) HB1.out⟩
      rw [HWo.out, if_neg (by simp)]
    · have hl0 : 0 ≤ n.l := by omega
      go_enter Try.func37, Try.ntmps37
      go_wp2_with (first
        | (rw [← HW1.out])
        | (refine wpList_load_mid rfl _ _ rfl (w.heap.size + 1 + 1) 0 rfl zeroW _ (rowR R2.out) Try.underlying76 rfl w24I ?_)
        | (refine wpList_store_row rfl _ _ _ rfl (w.heap.size + 1) zeroW rfl rfl R1.out rfl w24I zeroW_one ?_))
      refine bodyPost_ret (results_w24 rfl _ _ (w.heap.size + 1) zeroW rfl rfl (row_setCells R1.out rfl)) rfl ⟨?_, setCells_low _ (Nat.le_succ _) HB1.out⟩
      rw [HWo.out, if_neg (by simp)]
  | true =>
    obtain ⟨hl0, hl15⟩ := hlv' rfl
    go_enter Try.func37, Try.ntmps37
    have hcv : IntKind.u64.wrap n.l = n.l := by rw [IntKind.wrap_u64]; omega
    have hsm : IntKind.u64.wrap (5495893775785918464 + n.l) = 5495893775785918464 + n.l := by rw [IntKind.wrap_u64]; omega
    have z0 := R2.out.cell 0
    have z1 := R2.out.cell 1
    have z2 := R2.out.cell 2
    have z3 := R2.out.cell 3
    have z4 := R2.out.cell 4
    have f0 := R2.out.free 0
    have f1 := R2.out.free 1
    have f2 := R2.out.free 2
    have f3 := R2.out.free 3
    have f4 := R2.out.free 4
    rw [show zeroW.toArray[0]? = some (.int .u64 0) from rfl] at z0
    rw [show zeroW.toArray[1]? = some (.int .u64 0) from rfl] at z1
    rw [show zeroW.toArray[2]? = some (.int .u64 0) from rfl] at z2
    rw [show zeroW.toArray[3]? = some (.int .u64 0) from rfl] at z3
    rw [show zeroW.toArray[4]? = some (.int .u64 0) from rfl] at z4
    go_wp2_with (rw [← HW1.out])
    go_loopw [4] (fun i wr => ∃ k : Nat, k ≤ 8 ∧ i = .int .i64 (k : Int) ∧ NdAt wr w.heap.size n ∧ Row wr (w.heap.size + 1 + 1) 76 (wpart n k).toArray ∧ Row wr (w.heap.size + 1) 76 zeroW.toArray ∧ Below w.heap.size w wr) (fun i _ => 8 - (intOf i).toNat)
    case atStart =>
      refine ⟨0, by omega, rfl, ?_, ?_, ?_, ?_⟩
      · exact ((((R0.out.other (p := ⟨w.heap.size + 1 + 1, 0, none⟩) (by dsimp only; omega) _).other (p := ⟨w.heap.size + 1 + 1, 1, none⟩) (by dsimp only; omega) _).other (p := ⟨w.heap.size + 1 + 1, 2, none⟩) (by dsimp only; omega) _).other (p := ⟨w.heap.size + 1 + 1, 3, none⟩) (by dsimp only; omega) _).other (p := ⟨w.heap.size + 1 + 1, 4, none⟩) (by dsimp only; omega) _
      · rw [← w_begin]
        exact ((((R2.out.set 0 _).set 1 _).set 2 _).set 3 _).set 4 _
      · exact ((((R1.out.other (p := ⟨w.heap.size + 1 + 1, 0, none⟩) (by dsimp only; omega) _).other (p := ⟨w.heap.size + 1 + 1, 1, none⟩) (by dsimp only; omega) _).other (p := ⟨w.heap.size + 1 + 1, 2, none⟩) (by dsimp only; omega) _).other (p := ⟨w.heap.size + 1 + 1, 3, none⟩) (by dsimp only; omega) _).other (p := ⟨w.heap.size + 1 + 1, 4, none⟩) (by dsimp only; omega) _
      · exact ((((HB1.out.setCell (p := ⟨w.heap.size + 1 + 1, 0, none⟩) (by dsimp only; omega) _).setCell (p := ⟨w.heap.size + 1 + 1, 1, none⟩) (by dsimp only; omega) _).setCell (p := ⟨w.heap.size + 1 + 1, 2, none⟩) (by dsimp only; omega) _).setCell (p := ⟨w.heap.size + 1 + 1, 3, none⟩) (by dsimp only; omega) _).setCell (p := ⟨w.heap.size + 1 + 1, 4, none⟩) (by dsimp only; omega) _
    case round =>
      rename World => wr
      obtain ⟨k, hk, rfl, h0, h2, h1, hb⟩ := hrel
      have H0 := Lib.hid h0
      have H1 := Lib.hid h1
      have H2 := Lib.hid h2
      have HB := Lib.hid hb
      by_cases hlt : k < 8
      · have hk8 : (k : Int) < 8 := by omega
        have ck := ndAt_key h0 hlt
        have cp := ndAt_ptr h0 hlt
        have s1 : ∃ v, wr.cell? ⟨w.heap.size + 1 + 1, 8 + 2 * k, none⟩ = some v := by
          rw [h2.cell, List.getElem?_toArray]
          exact ⟨_, List.getElem?_eq_getElem (by show 8 + 2 * k < 24; omega)⟩
        have s2 : ∃ v, wr.cell? ⟨w.heap.size + 1 + 1, 9 + 2 * k, none⟩ = some v := by
          rw [h2.cell, List.getElem?_toArray]
          exact ⟨_, List.getElem?_eq_getElem (by show 9 + 2 * k < 24; omega)⟩
        obtain ⟨v1, s1⟩ := s1
        obtain ⟨v2, s2⟩ := s2
        have f1 := h2.free (8 + 2 * k)
        have f2 := h2.free (9 + 2 * k)
        have cp' : ∀ u, (wr.setCell ⟨w.heap.size + 1 + 1, 8 + 2 * k, none⟩ u).cell? ⟨w.heap.size, 13 + k, none⟩ = some (.int .u64 (n.ptr k)) := fun u => by
          rw [World.cell?_setCell_other _ _ _ _ (by simp)]
          exact cp
        clear h0 h2 h1 hb z0 z1 z2 z3 z4 f0 f3 f4
        go_wp2
        refine ⟨⟨k + 1, by omega, by go_num, ?_, ?_, ?_, ?_⟩, by simp [intOf]; omega⟩
        · exact (H0.out.other (p := ⟨w.heap.size + 1 + 1, 8 + 2 * k, none⟩) (by dsimp only; omega) _).other (p := ⟨w.heap.size + 1 + 1, 9 + 2 * k, none⟩) (by dsimp only; omega) _
        · rw [← w_put9 n hlt]
          exact (H2.out.set (8 + 2 * k) _).set (9 + 2 * k) _
        · exact (H1.out.other (p := ⟨w.heap.size + 1 + 1, 8 + 2 * k, none⟩) (by dsimp only; omega) _).other (p := ⟨w.heap.size + 1 + 1, 9 + 2 * k, none⟩) (by dsimp only; omega) _
        · exact (HB.out.setCell (p := ⟨w.heap.size + 1 + 1, 8 + 2 * k, none⟩) (by dsimp only; omega) _).setCell (p := ⟨w.heap.size + 1 + 1, 9 + 2 * k, none⟩) (by dsimp only; omega) _
      · obtain rfl : k = 8 := by omega
        clear h0 h2 h1 hb z0 z1 z2 z3 z4 f0 f1 f2 f3 f4
        go_wp2_with (first
          | (refine wpList_load_mid rfl _ _ rfl (w.heap.size + 1 + 1) 0 rfl (wpart n 8) _ (rowR H2.out) Try.underlying76 rfl w24I ?_)
          | (refine wpList_store_row rfl _ _ _ rfl (w.heap.size + 1) (wpart n 8) rfl rfl H1.out rfl w24I (wpart_one n 8) ?_))
        refine bodyPost_ret (results_w24 rfl _ _ (w.heap.size + 1) (wpart n 8) rfl rfl (row_setCells H1.out rfl)) rfl ⟨?_, setCells_low _ (Nat.le_succ _) HB.out⟩
        rw [HWo.out, if_pos trivial]
end Go.Proofs.Yteojhhfcfdkmdaa
/- The first so many of a node's words, as they lie; plain facts; no conditions. -/
namespace Go.Proofs.Yteojhhfcfdkmdaa
open Go.RowKit
set_option linter.unusedVariables false
/-- The first so many words of a node. -/
def preW (x : List Int) (k : Nat) : List Value := (List.range 24).map fun i => if i < k then .int .u64 (wAt x i) else .int .u64 0
theorem preW_len (x : List Int) (k : Nat) : (preW x k).length = 24 := by simp [preW]
theorem preW_get (x : List Int) (k : Nat) {i : Nat} (hi : i < 24) : (preW x k)[i]? = some (if i < k then .int .u64 (wAt x i) else .int .u64 0) := by
  unfold preW
  rw [List.getElem?_map, List.getElem?_range hi]
  rfl
theorem preW_set (x : List Int) {k : Nat} (hk : k < 24) : (preW x k).toArray.setIfInBounds k (.int .u64 (wAt x k)) = (preW x (k + 1)).toArray := by
  apply Array.ext_getElem?
  intro i
  rw [Array.getElem?_setIfInBounds, List.getElem?_toArray, List.getElem?_toArray]
  by_cases hi : i < 24
  · rw [preW_get x k hi, preW_get x (k + 1) hi]
    by_cases e : k = i
    · subst e
      rw [if_pos rfl, if_pos (by simp [preW_len]; exact hk), if_pos (by omega)]
    · rw [if_neg e]
      by_cases h : i < k
      · rw [if_pos h, if_pos (by omega)]
      · rw [if_neg h, if_neg (by omega)]
  · rw [if_neg (by omega), List.getElem?_eq_none (by rw [preW_len]; omega), List.getElem?_eq_none (by rw [preW_len]; omega)]
theorem preW_all (x : List Int) (hl : x.length = 24) : preW x 24 = x.map uw := by
  apply List.ext_getElem?
  intro i
  by_cases hi : i < 24
  · rw [preW_get x 24 hi, if_pos hi, wAt_get hl hi]
  · rw [List.getElem?_eq_none (by rw [preW_len]; omega), List.getElem?_eq_none (by rw [List.length_map, hl]; omega)]
theorem preW_zero (x : List Int) : preW x 0 = zeroW := by
  unfold preW zeroW
  rfl
end Go.Proofs.Yteojhhfcfdkmdaa
/- The reference's Of: the node of words, or the error; of any words; without conditions. -/
namespace Go.Proofs.Yteojhhfcfdkmdaa
open Go.RowKit
set_option linter.unusedVariables false
set_option maxRecDepth 100000 in
set_option maxHeartbeats 4000000 in
theorem r8Of_any {x : List Int} (hl : x.length = 24) (h0 : 0 ≤ wAt x 0 ∧ wAt x 0 < 18446744073709551616) (w : World) : Calls Try.prog 31 #[.agg (x.map uw).toArray] w fun e w' => e = .returned (.tuple #[(ofR x).1.V, .int .i64 (ofR x).2]) ∧ Below w.heap.size w w' := by
  have rx := Row.new w 76 (x.map uw).toArray
  have rz := Row.new (w.alloc (.cells (x.map uw).toArray 76)) 27 zeroNd.cl.toArray
  rw [World.size_alloc] at rz
  obtain ⟨W1, hW1⟩ : ∃ W1, W1 = (w.alloc (.cells (x.map uw).toArray 76)).alloc (.cells #[.int .i64 0, .int .u64 0, .int .u64 0, .int .u64 0, .int .u64 0, .int .u64 0, .int .u64 0, .int .u64 0, .int .u64 0, .int .u64 0, .int .u64 0, .int .u64 0, .int .u64 0, .int .u64 0, .int .u64 0, .int .u64 0, .int .u64 0, .int .u64 0, .int .u64 0, .int .u64 0, .int .u64 0] 27) := ⟨_, rfl⟩
  have hb1 : Below w.heap.size w W1 := by rw [hW1]; exact low_and' (alloc_low' _ _) (alloc_low' _ _)
  have r0 : Row W1 w.heap.size 76 (x.map uw).toArray := by rw [hW1]; exact rx.alloc _
  have r1 : NdAt W1 (w.heap.size + 1) zeroNd := by rw [hW1]; exact rz
  have hs1 : W1.heap.size = w.heap.size + 2 := by rw [hW1]; simp
  have HW1 := Lib.hid hW1
  have HB1 := Lib.hid hb1
  have R0 := Lib.hid r0
  have R1 := Lib.hid r1
  have HOf := Lib.hid (show ofR x = if 5495893775785918464 ≤ wAt x 0 ∧ wAt x 0 ≤ 5495893775785918479 then (ofN (wAt x 0 - 5495893775785918464) x 8, 0) else (zeroNd, 11) from rfl)
  have HS1 := Lib.hid hs1
  clear hW1 hb1 r0 r1 rx rz hs1
  go_enter Try.func31, Try.ntmps31
  go_wp2_with (first
    | (rw [← HW1.out]))
  go_loopw [4] (fun i wr => wr = W1 ∧ ∃ k : Nat, k ≤ 16 ∧ i = .int .i64 (k : Int) ∧ ∀ j : Nat, j < k → wAt x 0 ≠ 5495893775785918464 + (j : Int)) (fun i _ => 16 - (intOf i).toNat)
  case atStart => exact ⟨rfl, 0, by omega, rfl, fun j hj => by omega⟩
  case round =>
    rename World => wr
    obtain ⟨rfl, k, hk, rfl, hall⟩ := hrel
    by_cases hlt : k < 16
    · have hk15 : (k : Int) ≤ 15 := by omega
      have hk64 : IntKind.u64.wrap (k : Int) = (k : Int) := by rw [IntKind.wrap_u64]; omega
      have hkm : IntKind.u64.wrap (5495893775785918464 + (k : Int)) = 5495893775785918464 + (k : Int) := by rw [IntKind.wrap_u64]; omega
      have hc : ∀ i, i < 24 → wr.cell? ⟨w.heap.size, i, none⟩ = some (.int .u64 (wAt x i)) := fun i hi => (R0.out.cell i).trans (by rw [List.getElem?_toArray]; exact wAt_get hl hi)
      have c0 := hc 0 (by omega)
      by_cases he : wAt x 0 = 5495893775785918464 + (k : Int)
      · have hneq : (wAt x 0 != 5495893775785918464 + (k : Int)) = false := by rw [he]; simp
        have HO0 := Lib.hid (show ofR x = (ofN (k : Int) x 8, 0) by rw [HOf.out, if_pos (by omega), he, show 5495893775785918464 + (k : Int) - 5495893775785918464 = (k : Int) by omega])
        have c1 := hc 1 (by omega)
        have c2 := hc 2 (by omega)
        have c3 := hc 3 (by omega)
        have c4 := hc 4 (by omega)
        obtain ⟨a, ha⟩ : ∃ a, a = wAt x 0 := ⟨_, rfl⟩
        rw [← ha] at c0 hneq
        obtain ⟨W2, hW2⟩ : ∃ W2, W2 = (wr.alloc (.cells #[.int .i64 0, .int .u64 0, .int .u64 0, .int .u64 0, .int .u64 0, .int .u64 0, .int .u64 0, .int .u64 0, .int .u64 0, .int .u64 0, .int .u64 0, .int .u64 0, .int .u64 0, .int .u64 0, .int .u64 0, .int .u64 0, .int .u64 0, .int .u64 0, .int .u64 0, .int .u64 0, .int .u64 0] 27)).setCells wr.heap.size 0 (ofN (k : Int) x 0).cl := ⟨_, rfl⟩
        have q2 : NdAt W2 wr.heap.size (ofN (k : Int) x 0) := by rw [hW2]; exact row_setCells (Row.new wr 27 zeroNd.cl.toArray) rfl
        have hb2 : Below wr.heap.size wr W2 := by rw [hW2]; exact setCells_low _ (Nat.le_refl _) (alloc_low' _ _)
        have HW2 := Lib.hid hW2
        have Q2 := Lib.hid q2
        have HB2 := Lib.hid hb2
        clear hW2 q2 hb2 ha he hall hc h0
        go_wp2_with (refine wpList_store_row rfl _ _ _ rfl wr.heap.size (ofN (k : Int) x 0).cl rfl rfl (Row.new wr 27 zeroNd.cl.toArray) rfl ndI (cl_one _) ?_; rw [← HW2.out])
        have R0' := Lib.hid (R0.out.below HB2.out R0.out.lt)
        have R1' := Lib.hid (Row.below R1.out HB2.out (Row.lt R1.out))
        have HBB := Lib.hid (low_and' HB1.out HB2.out)
        have hw1 : w.heap.size + 2 ≤ wr.heap.size := Nat.le_of_eq HS1.out.symm
        go_loopw [6] (fun i wq => ∃ m : Nat, m ≤ 8 ∧ i = .int .i64 (m : Int) ∧ NdAt wq wr.heap.size (ofN (k : Int) x m) ∧ Row wq w.heap.size 76 (x.map uw).toArray ∧ NdAt wq (w.heap.size + 1) zeroNd ∧ Below w.heap.size w wq) (fun i _ => 8 - (intOf i).toNat)
        case atStart => exact ⟨0, by omega, rfl, Q2.out, R0'.out, R1'.out, HBB.out⟩
        case round =>
          rename World => wq
          obtain ⟨m, hm, rfl, h0, h1, h2, hb⟩ := hrel
          have H0 := Lib.hid h0
          have H1 := Lib.hid h1
          have H2 := Lib.hid h2
          have HB := Lib.hid hb
          by_cases hlt : m < 8
          · have hk8 : (m : Int) < 8 := by omega
            have ck := ndAt_key h0 hlt
            have cp := ndAt_ptr h0 hlt
            have f1 := h0.free (5 + m)
            have f2 := h0.free (13 + m)
            have x1 : wq.cell? ⟨w.heap.size, 8 + 2 * m, none⟩ = some (.int .u64 (wAt x (8 + 2 * m))) := (h1.cell _).trans (by rw [List.getElem?_toArray]; exact wAt_get hl (by omega))
            have x2 : wq.cell? ⟨w.heap.size, 9 + 2 * m, none⟩ = some (.int .u64 (wAt x (8 + 2 * m + 1))) := (h1.cell _).trans (by rw [List.getElem?_toArray, show 9 + 2 * m = 8 + 2 * m + 1 by omega]; exact wAt_get hl (by omega))
            have hne : wr.heap.size ≠ w.heap.size := by omega
            have hne2 : w.heap.size ≠ wr.heap.size := by omega
            have x2' : ∀ u, (wq.setCell ⟨wr.heap.size, 5 + m, none⟩ u).cell? ⟨w.heap.size, 9 + 2 * m, none⟩ = some (.int .u64 (wAt x (8 + 2 * m + 1))) := fun u => by
              rw [World.cell?_setCell_other _ _ _ _ (by simp <;> omega)]
              exact x2
            have cp' : ∀ u, (wq.setCell ⟨wr.heap.size, 5 + m, none⟩ u).cell? ⟨wr.heap.size, 13 + m, none⟩ = some (.int .u64 ((ofN (k : Int) x m).ptr m)) := fun u => by
              rw [World.cell?_setCell_other _ _ _ _ (by simp)]
              exact cp
            have HST := Lib.hid (show ofN (k : Int) x (m + 1) = (ofN (k : Int) x m).put m (wAt x (8 + 2 * m), wAt x (8 + 2 * m + 1)) from rfl)
            clear h0 h1 h2 hb
            go_wp2
            refine ⟨⟨m + 1, by omega, by go_num, ?_, ?_, ?_, ?_⟩, by simp [intOf]; omega⟩
            · rw [HST.out]
              have := (Row.set H0.out (5 + m) (uw (wAt x (8 + 2 * m)))).set (13 + m) (uw (wAt x (8 + 2 * m + 1)))
              rw [put_cl _ hlt (wAt x (8 + 2 * m), wAt x (8 + 2 * m + 1))] at this
              exact this
            · exact (H1.out.other (p := ⟨wr.heap.size, 5 + m, none⟩) (by dsimp only; omega) _).other (p := ⟨wr.heap.size, 13 + m, none⟩) (by dsimp only; omega) _
            · exact (H2.out.other (p := ⟨wr.heap.size, 5 + m, none⟩) (by dsimp only; omega) _).other (p := ⟨wr.heap.size, 13 + m, none⟩) (by dsimp only; omega) _
            · exact (HB.out.setCell (p := ⟨wr.heap.size, 5 + m, none⟩) (by dsimp only; omega) _).setCell (p := ⟨wr.heap.size, 13 + m, none⟩) (by dsimp only; omega) _
          · obtain rfl : m = 8 := by omega
            clear h0 h1 h2 hb
            obtain ⟨M, hM⟩ : ∃ M, M = ofN (k : Int) x 8 := ⟨_, rfl⟩
            rw [← hM] at H0 HO0
            clear hM
            go_wp2_with (first
              | (refine wpList_load_mid rfl _ _ rfl wr.heap.size 0 rfl M.cl _ (ndR H0.out) Try.underlying27 rfl ndI ?_)
              | (refine wpList_store_row rfl _ _ _ rfl (w.heap.size + 1) M.cl rfl rfl H2.out rfl ndI (cl_one _) ?_))
            refine bodyPost_ret (results_node_tmp rfl _ _ (w.heap.size + 1) M rfl (row_setCells H2.out rfl)) rfl ⟨?_, setCells_low _ (Nat.le_succ _) HB.out⟩
            rw [HO0.out]
            rfl
      · have hneq : (wAt x 0 != 5495893775785918464 + (k : Int)) = true := by simpa using he
        go_wp2
        refine ⟨⟨trivial, k + 1, by omega, by go_num, fun j hj => ?_⟩, by simp [intOf]; omega⟩
        rcases Nat.lt_or_eq_of_le (Nat.le_of_lt_succ hj) with h | rfl
        · exact hall j h
        · exact he
    · obtain rfl : k = 16 := by omega
      have hno : ¬ (5495893775785918464 ≤ wAt x 0 ∧ wAt x 0 ≤ 5495893775785918479) := fun hh => hall (wAt x 0 - 5495893775785918464).toNat (by omega) (by omega)
      go_wp2_with (refine wpList_store_row rfl _ _ _ rfl (w.heap.size + 1) zeroNd.cl rfl rfl R1.out rfl ndI (cl_one zeroNd) ?_)
      refine bodyPost_ret (results_node_tmp rfl _ _ (w.heap.size + 1) zeroNd rfl (row_setCells R1.out rfl)) rfl ⟨?_, setCells_low _ (Nat.le_succ _) HB1.out⟩
      rw [HOf.out, if_neg hno]
      rfl
end Go.Proofs.Yteojhhfcfdkmdaa
