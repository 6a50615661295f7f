/- NodeReads: the law is true of any words, any level; where the library's table of powers lies as it was laid. -/
import Derived.Test.YthifamaoffkedaaDoorN8LawW
import Derived.Test.YthifamaoffkedaaDoorN8OfR
namespace Go.Proofs.YthifamaoffkedaaDoor
open Go.RowKit
set_option linter.unusedVariables false
set_option linter.unusedSimpArgs false
set_option maxRecDepth 100000 in
theorem reads_of (a0 a1 a2 a3 a4 a5 a6 a7 a8 a9 a10 a11 a12 a13 a14 a15 a16 a17 a18 a19 a20 a21 a22 a23 lv : Int) (h : 0 ≤ lv ∧ lv ≤ 15) : ∃ N, ofR [5495893775785918464 + lv, a1, a2, a3, a4, a5, a6, a7, a8, a9, a10, a11, a12, a13, a14, a15, a16, a17, a18, a19, a20, a21, a22, a23] = (N, 0) ∧ wordsL N = [5495893775785918464 + lv, a1, a2, a3, a4, 0, 0, 0, a8, a9, a10, a11, a12, a13, a14, a15, a16, a17, a18, a19, a20, a21, a22, a23].map uw := by
  refine ⟨ofN lv [5495893775785918464 + lv, a1, a2, a3, a4, a5, a6, a7, a8, a9, a10, a11, a12, a13, a14, a15, a16, a17, a18, a19, a20, a21, a22, a23] 8, ?_, ?_⟩
  · unfold ofR
    rw [show wAt [5495893775785918464 + lv, a1, a2, a3, a4, a5, a6, a7, a8, a9, a10, a11, a12, a13, a14, a15, a16, a17, a18, a19, a20, a21, a22, a23] 0 = 5495893775785918464 + lv from rfl, if_pos (by omega), show 5495893775785918464 + lv - 5495893775785918464 = lv by omega]
  · have e : ofN lv [5495893775785918464 + lv, a1, a2, a3, a4, a5, a6, a7, a8, a9, a10, a11, a12, a13, a14, a15, a16, a17, a18, a19, a20, a21, a22, a23] 8 = ⟨lv, a1, a2, a3, a4, a8, a10, a12, a14, a16, a18, a20, a22, a9, a11, a13, a15, a17, a19, a21, a23⟩ := by simp [ofN, Nd.put, wAt]
    rw [e, wi_words]
    unfold wi
    rw [if_pos (by simp [isLv, h.1, h.2])]
theorem reads_ofL {x : List Int} (hl : x.length = 24) {lv : Int} (h : 0 ≤ lv ∧ lv ≤ 15) : ∃ N, ofR (x.set 0 (5495893775785918464 + lv)) = (N, 0) ∧ wordsL N = ((((x.set 0 (5495893775785918464 + lv)).set 5 0).set 6 0).set 7 0).map uw := by
  match x, hl with
  | [a0, a1, a2, a3, a4, a5, a6, a7, a8, a9, a10, a11, a12, a13, a14, a15, a16, a17, a18, a19, a20, a21, a22, a23], _ => exact reads_of a0 a1 a2 a3 a4 a5 a6 a7 a8 a9 a10 a11 a12 a13 a14 a15 a16 a17 a18 a19 a20 a21 a22 a23 lv h
/-- Words, as they lie. -/
def wsL (x : List Int) : List Value := x.map uw
theorem wsL_len (x : List Int) : (wsL x).length = x.length := by simp [wsL]
theorem of_err (x : List Int) : (ofR x).2 = 0 ∨ (ofR x).2 = 11 := by
  unfold ofR
  split
  · exact Or.inl rfl
  · exact Or.inr rfl
theorem wpList_neq_nd {ops : Array Oper} {rest : List Oper} {op : Oper} {a : Act} {w : World} {Q : Exit → Act → World → Prop} (hgd : op.guard = none) (x y : Operand) (ho : op.op = .binOp .neq 27 x y 27) (n : Nd) (hx : a.eval x = .agg n.cl.toArray) (hy : a.eval y = .agg n.cl.toArray)
    (h : wpList Tryd.prog ops Q rest (a.put op.dst (.bool false)) w) : wpList Tryd.prog ops Q (op :: rest) a w :=
  wpList_plain hgd fun _ hK => by
    have hq := neq_node n w
    unfold Nd.V at hq
    unfold Oper.wp execOp
    simp only [ho]
    simp only [hx, hy]
    have hg : (eqGuard BinOp.neq 27 x y (Value.agg n.cl.toArray) (Value.agg n.cl.toArray)).run Tryd.prog w = .ok () w := by kernel_rfl
    simp only [Sem.run_bind, Sem.run_pure, hg, hq, Result.andThen_ok]
    exact hK _ _ h
theorem and15 (level : Int) : ∃ lv : Int, (0 ≤ lv ∧ lv ≤ 15) ∧ ∀ W, (binOp .and 3 (.int .i64 level) (.int .i64 15)).run Tryd.prog W = .ok (.int .i64 lv) W := by
  refine ⟨((BitVec.ofInt 64 level &&& 15#64).toNat : Int), ?_, fun W => ?_⟩
  · have : (BitVec.ofInt 64 level &&& 15#64).toNat ≤ 15 := by
      rw [BitVec.toNat_and]
      exact Nat.and_le_right
    omega
  · unfold binOp Op.intBits
    simp
    rw [show IntKind.i64.bits = 64 from rfl, show (2 : Nat) ^ 64 = 18446744073709551616 from rfl, show (2 : Int) ^ 64 = 18446744073709551616 from rfl, show 15 % 18446744073709551616 = 15 from rfl]
    have h := Nat.and_le_right (n := (level % 18446744073709551616).toNat) (m := 15)
    rw [IntKind.wrap_i64]
    omega
theorem wpList_and15 {ops : Array Oper} {rest : List Oper} {op : Oper} {a : Act} {w : World} {Q : Exit → Act → World → Prop} (hgd : op.guard = none) (x : Operand) (ho : op.op = .binOp .and 3 x (.const (.int .i64 15)) 3) (level lv : Int) (hx : a.eval x = .int .i64 level) (hq : ∀ W, (binOp .and 3 (.int .i64 level) (.int .i64 15)).run Tryd.prog W = .ok (.int .i64 lv) W)
    (h : wpList Tryd.prog ops Q rest (a.put op.dst (.int .i64 lv)) w) : wpList Tryd.prog ops Q (op :: rest) a w :=
  wpList_plain hgd fun _ hK => by
    unfold Oper.wp execOp
    simp only [ho]
    have hy : a.eval (.const (.int .i64 15)) = .int .i64 15 := rfl
    simp only [hx, hy]
    have hg : (eqGuard BinOp.and 3 x (.const (.int .i64 15)) (.int .i64 level) (.int .i64 15)).run Tryd.prog w = .ok () w := by rfl
    simp only [Sem.run_bind, Sem.run_pure, hg, hq, Result.andThen_ok]
    exact hK _ _ h
theorem row_setCells_otherR {w : World} {g b : Nat} {t : TypeId} {cs : Array Value} (h : Row w g t cs) (hb : b ≠ g) (vs : List Value) : Row (w.setCells b 0 vs) g t cs :=
  (World.heap_setCells_other _ _ _ _ h.lt hb.symm).trans h
/-- Where the law stands: the two nodes, the words. -/
structure RD (w W : World) (a1 a2 : Nat) (A B : Nd) (xs : List Value) : Prop where
  nd1 : NdAt W a1 A
  nd2 : NdAt W a2 B
  row : Row W w.heap.size 28 xs.toArray
  low : Below w.heap.size w W
  lt1 : w.heap.size < a1
  lt2 : a1 < a2
theorem RD.below {w W W' : World} {a1 a2 : Nat} {A B : Nd} {xs : List Value} (h : RD w W a1 a2 A B xs) (hb : Below W.heap.size W W') : RD w W' a1 a2 A B xs :=
  ⟨h.nd1.below hb h.nd1.lt, h.nd2.below hb h.nd2.lt, h.row.below hb h.row.lt, h.low.trans (hb.mono h.low.size), h.lt1, h.lt2⟩
theorem RD.set1 {w W : World} {a1 a2 : Nat} {A B : Nd} {xs : List Value} (h : RD w W a1 a2 A B xs) (N : Nd) : RD w (W.setCells a1 0 N.cl) a1 a2 N B xs :=
  ⟨row_setCells h.nd1 rfl, row_setCells_otherR h.nd2 (by have := h.lt2; omega) _, row_setCells_otherR h.row (by have := h.lt1; omega) _, setCells_low _ (by have := h.lt1; omega) h.low, h.lt1, h.lt2⟩
theorem RD.set2 {w W : World} {a1 a2 : Nat} {A B : Nd} {xs : List Value} (h : RD w W a1 a2 A B xs) (N : Nd) : RD w (W.setCells a2 0 N.cl) a1 a2 A N xs :=
  ⟨row_setCells_otherR h.nd1 (by have := h.lt2; omega) _, row_setCells h.nd2 rfl, row_setCells_otherR h.row (by have := h.lt1; have := h.lt2; omega) _, setCells_low _ (by have := h.lt1; have := h.lt2; omega) h.low, h.lt1, h.lt2⟩
theorem RD.setw {w W : World} {a1 a2 : Nat} {A B : Nd} {x : List Int} (h : RD w W a1 a2 A B (wsL x)) (i : Nat) (y : Int) : RD w (W.setCell ⟨w.heap.size, i, none⟩ (.int .u64 y)) a1 a2 A B (wsL (x.set i y)) := by
  have h1 := h.lt1
  have h2 := h.lt2
  refine ⟨h.nd1.other (by dsimp only; omega) _, h.nd2.other (by dsimp only; omega) _, ?_, ?_, h.lt1, h.lt2⟩
  · have := h.row.set i (.int .u64 y)
    rw [List.setIfInBounds_toArray, show (wsL x).set i (.int .u64 y) = wsL (x.set i y) by unfold wsL; rw [List.map_set]] at this
    exact this
  · exact ⟨h.low.os, h.low.tape, h.low.output, by rw [size_set]; exact h.low.size, fun q hq => (heap_setCell_other W ⟨w.heap.size, i, none⟩ q _ (by dsimp only; omega)).trans (h.low.block q hq)⟩
theorem RD.cell {w W : World} {a1 a2 : Nat} {A B : Nd} {x : List Int} (h : RD w W a1 a2 A B (wsL x)) (hl : x.length = 24) {i : Nat} (hi : i < 24) : W.cell? ⟨w.heap.size, i, none⟩ = some (.int .u64 (wAt x i)) := by
  rw [h.row.cell, List.getElem?_toArray]
  exact wAt_get hl hi
theorem show_neqR {P : Program} {ops : Array Oper} {rest : List Oper} {Q : Exit → Act → World → Prop} {d : Option Nat} {t2 : TypeId} {x y : Operand} {ps : String} {af : Array Edge} {g : Option (Nat × Bool)} {a : Act} {w : World} (h : wpList P ops Q (⟨d, .binOp .neq 27 x y 27, t2, ps, af, g⟩ :: rest) a w) : wpList P ops Q (⟨d, .binOp .neq 27 x y 27, t2, ps, af, g⟩ :: rest) a w := h
theorem show_andR {P : Program} {ops : Array Oper} {rest : List Oper} {Q : Exit → Act → World → Prop} {d : Option Nat} {t2 : TypeId} {x y : Operand} {ps : String} {af : Array Edge} {g : Option (Nat × Bool)} {a : Act} {w : World} (h : wpList P ops Q (⟨d, .binOp .and 3 x y 3, t2, ps, af, g⟩ :: rest) a w) : wpList P ops Q (⟨d, .binOp .and 3 x y 3, t2, ps, af, g⟩ :: rest) a w := h
theorem show_loadR {P : Program} {ops : Array Oper} {rest : List Oper} {Q : Exit → Act → World → Prop} {d : Option Nat} {t2 : TypeId} {x : Operand} {ps : String} {af : Array Edge} {g : Option (Nat × Bool)} {a : Act} {w : World} (h : wpList P ops Q (⟨d, .load 27 x, t2, ps, af, g⟩ :: rest) a w) : wpList P ops Q (⟨d, .load 27 x, t2, ps, af, g⟩ :: rest) a w := h
theorem show_storeR {P : Program} {ops : Array Oper} {rest : List Oper} {Q : Exit → Act → World → Prop} {d : Option Nat} {t2 : TypeId} {x y : Operand} {ps : String} {af : Array Edge} {a : Act} {w : World} (h : wpList P ops Q (⟨d, .store 27 x y, t2, ps, af, none⟩ :: rest) a w) : wpList P ops Q (⟨d, .store 27 x y, t2, ps, af, none⟩ :: rest) a w := h
theorem show_loadX {P : Program} {ops : Array Oper} {rest : List Oper} {Q : Exit → Act → World → Prop} {d : Option Nat} {t2 : TypeId} {x : Operand} {ps : String} {af : Array Edge} {g : Option (Nat × Bool)} {a : Act} {w : World} (h : wpList P ops Q (⟨d, .load 28 x, t2, ps, af, g⟩ :: rest) a w) : wpList P ops Q (⟨d, .load 28 x, t2, ps, af, g⟩ :: rest) a w := h
set_option maxRecDepth 100000 in
set_option maxHeartbeats 4000000 in
theorem lawReads {x : List Int} (hl : x.length = 24) (h0 : 0 ≤ wAt x 0 ∧ wAt x 0 < 18446744073709551616) (level : Int) (w : World) (T : Pow w) : Calls Tryd.prog 4 #[.agg (wsL x).toArray, .int .i64 level] w fun e w' => e = .returned (.bool true) ∧ Below w.heap.size w w' := by
  have r0 := Row.new w 28 (wsL x).toArray
  obtain ⟨Wa, hWa⟩ : ∃ Wa, Wa = w.alloc (.cells (wsL x).toArray 28) := ⟨_, rfl⟩
  have hsa : Wa.heap.size = w.heap.size + 1 := by rw [hWa]; simp
  rw [← hWa] at r0
  have HB0 := Lib.hid (show Below w.heap.size w Wa by rw [hWa]; exact alloc_low _ _)
  have HRow := Lib.hid r0
  obtain ⟨lv, hlv, hand⟩ := and15 level
  obtain ⟨hlv0, hlv1⟩ := hlv
  obtain ⟨N, hN, hw0⟩ := reads_ofL hl ⟨hlv0, hlv1⟩
  have hw : wordsL N = wsL ((((x.set 0 (5495893775785918464 + lv)).set 5 0).set 6 0).set 7 0) := hw0
  clear hw0
  obtain ⟨x1, hx1⟩ : ∃ x1, x1 = x.set 0 (5495893775785918464 + lv) := ⟨_, rfl⟩
  obtain ⟨x2, hx2⟩ : ∃ x2, x2 = ((x1.set 5 0).set 6 0).set 7 0 := ⟨_, rfl⟩
  have hl1 : x1.length = 24 := by rw [hx1, List.length_set]; exact hl
  have hl2 : x2.length = 24 := by rw [hx2]; simpa using hl1
  have h01 : 0 ≤ wAt x1 0 ∧ wAt x1 0 < 18446744073709551616 := by
    have : wAt x1 0 = 5495893775785918464 + lv := by
      rw [hx1]; unfold wAt
      rw [List.getD_eq_getElem?_getD, List.getElem?_set_self (by omega)]; rfl
    omega
  rw [← hx1] at hN hw
  rw [← hx2] at hw
  have HO := Lib.hid (fun W' => (show Calls Tryd.prog 12 #[.agg (wsL x).toArray] W' (fun e w' => e = .returned (.tuple #[(ofR x).1.V, .int .i64 (ofR x).2]) ∧ Below W'.heap.size W' w') from nOf_any hl h0 W'))
  have HR := Lib.hid (fun W' => (show Calls Tryd.prog 15 #[.agg (wsL x).toArray] W' (fun e w' => e = .returned (.tuple #[(ofR x).1.V, .int .i64 (ofR x).2]) ∧ Below W'.heap.size W' w') from r8Of_any hl h0 W'))
  have HO1 := Lib.hid (fun W' => (show Calls Tryd.prog 12 #[.agg (wsL x1).toArray] W' (fun e w' => e = .returned (.tuple #[(ofR x1).1.V, .int .i64 (ofR x1).2]) ∧ Below W'.heap.size W' w') from nOf_any hl1 h01 W'))
  have HR1 := Lib.hid (fun W' => (show Calls Tryd.prog 15 #[.agg (wsL x1).toArray] W' (fun e w' => e = .returned (.tuple #[(ofR x1).1.V, .int .i64 (ofR x1).2]) ∧ Below W'.heap.size W' w') from r8Of_any hl1 h01 W'))
  rw [hN] at HO1 HR1
  have her := of_err x
  obtain ⟨⟨N0, er⟩, hE⟩ : ∃ E, E = ofR x := ⟨_, rfl⟩
  rw [← hE] at HO HR her
  dsimp only at HO HR her
  have hwr : IntKind.i64.wrap er = er := by rcases her with h | h <;> rw [h] <;> decide
  have hee : (er != er) = false := by simp
  have HWd := Lib.hid (fun W' => nWords_any N W')
  rw [hw] at HWd
  have hv0 : (wsL x).length = 24 := by rw [wsL_len, hl]
  have hv1 : (wsL x1).length = 24 := by rw [wsL_len, hl1]
  have hv2 : (wsL x2).length = 24 := by rw [wsL_len, hl2]
  have hqw : ∀ W', (Op.equalIn 10000 28 (.agg (wsL x2).toArray) (.agg (wsL x2).toArray)).run Tryd.prog W' = .ok true W' := fun W' => eqW x2 hl2 W'
  have hq1 := fun W' => eqNd N W'
  have hn1 := fun W' => eq_node N W'
  have hq2 : ∀ W', (binOp .eql 28 (.agg (wsL x2).toArray) (.agg (wsL x2).toArray)).run Tryd.prog W' = .ok (.bool true) W' := fun W' => eq_w24 x2 hl2 W'
  unfold Nd.V at HO HR HO1 HR1 HWd hq1 hn1
  have HWa := Lib.hid hWa
  have HX1 := Lib.hid hx1
  have HX2 := Lib.hid hx2
  have HSa := Lib.hid hsa
  have HLen := Lib.hid hl
  have HLen1 := Lib.hid hl1
  have HLen2 := Lib.hid hv2
  have HT := Lib.hid T
  clear hE r0 hWa hN hw her h0 h01 hx1 hx2 hsa hl hl1 hl2
  have HU0 := Lib.hid hv0
  have HU1 := Lib.hid hv1
  clear hv0 hv1 hv2
  go_enter Tryd.func4, Tryd.ntmps4
  go_wp2_with (first
    | (rw [← HWa.out]; go_simp)
    | ((with_reducible refine show_neqR ?_); refine wpList_neq_nd rfl _ _ rfl N0 rfl rfl ?_)
    | ((with_reducible refine show_andR ?_); refine wpList_and15 rfl _ rfl level lv rfl hand ?_)
    | ((with_reducible refine show_loadX ?_); refine wpList_load_mid rfl _ _ rfl w.heap.size 0 rfl (wsL x) _ (rowR HRow.out) Tryd.underlying28 rfl (by rw [HU0.out]; exact w24I) ?_)
    | ((with_reducible refine show_loadX ?_); refine wpList_load_mid rfl _ _ rfl w.heap.size 0 rfl (wsL x) _ (rowR HV2.out) Tryd.underlying28 rfl (by rw [HU0.out]; exact w24I) ?_)
    | ((with_reducible refine show_loadX ?_); obtain ⟨W5, hW5⟩ : ∃ W5, W5 = W4.setCell ⟨w.heap.size, 0, none⟩ (.int .u64 (5495893775785918464 + lv)) := ⟨_, rfl⟩; rw [← hW5]; have HD5 := Lib.hid (show RD w W5 w1.heap.size w3.heap.size N0 N0 (wsL x1) by rw [hW5, HX1.out]; exact HD4.out.setw 0 _); clear hW5; refine wpList_load_mid rfl _ _ rfl w.heap.size 0 rfl (wsL x1) _ (rowR HD5.out.row) Tryd.underlying28 rfl (by rw [HU1.out]; exact w24I) ?_)
    | ((with_reducible refine show_loadX ?_); refine wpList_load_mid rfl _ _ rfl w.heap.size 0 rfl (wsL x1) _ (rowR HD7.out.row) Tryd.underlying28 rfl (by rw [HU1.out]; exact w24I) ?_)
    | (go_at_call 12; have hd5 := HD5.out.lt1; refine (HO1.out _).mono ?_; clear hd5; rintro e w6 ⟨rfl, h6⟩; have HD6 := Lib.hid (HD5.out.below h6); clear h6)
    | (go_at_call 12; refine (HO.out _).mono ?_; rintro e w1 ⟨rfl, h1⟩; have HV1 := Lib.hid (HRow.out.below h1 HRow.out.lt); have HB1 := Lib.hid (low_and HB0.out h1); have hs1 : w.heap.size < w1.heap.size := (by have := h1.size; have := HSa.out; omega); clear h1)
    | (go_at_call 15; have hd7 := HD7.out.lt1; refine (HR1.out _).mono ?_; clear hd7; rintro e w8 ⟨rfl, h8⟩; have HD8 := Lib.hid (HD7.out.below h8); clear h8)
    | (go_at_call 15; refine (HR.out _).mono ?_; rintro e w3 ⟨rfl, h3⟩; have HV3 := Lib.hid (HV2.out.below h3 HV2.out.lt); have HB3 := Lib.hid (low_and HB2.out h3); have HN3 := Lib.hid (HN2.out.below h3 HN2.out.lt); clear h3)
    | ((with_reducible refine show_storeR ?_); refine wpList_store_row rfl _ _ _ rfl w3.heap.size N.cl rfl rfl HD8.out.nd2 rfl ndI (cl_one N) ?_; obtain ⟨W9, hW9⟩ : ∃ W9, W9 = w8.setCells w3.heap.size 0 N.cl := ⟨_, rfl⟩; rw [← hW9]; have HD9 := Lib.hid (show RD w W9 w1.heap.size w3.heap.size N N (wsL x1) by rw [hW9]; exact HD8.out.set2 N); have c5 := HD9.out.cell HLen1.out (show 5 < 24 by decide); have c6 := HD9.out.cell HLen1.out (show 6 < 24 by decide); have c7 := HD9.out.cell HLen1.out (show 7 < 24 by decide); have z5 := HD9.out.row.free 5; have z6 := HD9.out.row.free 6; have z7 := HD9.out.row.free 7; clear hW9)
    | ((with_reducible refine show_storeR ?_); refine wpList_store_row rfl _ _ _ rfl w1.heap.size N.cl rfl rfl HD6.out.nd1 rfl ndI (cl_one N) ?_; obtain ⟨W7, hW7⟩ : ∃ W7, W7 = w6.setCells w1.heap.size 0 N.cl := ⟨_, rfl⟩; rw [← hW7]; have HD7 := Lib.hid (show RD w W7 w1.heap.size w3.heap.size N N0 (wsL x1) by rw [hW7]; exact HD6.out.set1 N); clear hW7)
    | ((with_reducible refine show_storeR ?_); refine wpList_store_row rfl _ _ _ rfl w3.heap.size N0.cl rfl rfl (Row.new w3 27 zeroNd.cl.toArray) rfl ndI (cl_one N0) ?_; obtain ⟨W4, hW4, hn4, hb4⟩ := store_gen w3 N0; rw [← hW4]; have HD4 := Lib.hid (show RD w W4 w1.heap.size w3.heap.size N0 N0 (wsL x) from ⟨HN3.out.below hb4 HN3.out.lt, hn4, HV3.out.below hb4 HV3.out.lt, low_and HB3.out hb4, hs1, HN3.out.lt⟩); have c0 := HD4.out.cell HLen.out (show 0 < 24 by decide); have z0 := HD4.out.row.free 0; clear hW4 hn4 hb4)
    | ((with_reducible refine show_storeR ?_); refine wpList_store_row rfl _ _ _ rfl w1.heap.size N0.cl rfl rfl (Row.new w1 27 zeroNd.cl.toArray) rfl ndI (cl_one N0) ?_; obtain ⟨W2, hW2, hn2, hb2⟩ := store_gen w1 N0; rw [← hW2]; have HV2 := Lib.hid (HV1.out.below hb2 HV1.out.lt); have HB2 := Lib.hid (low_and HB1.out hb2); have HN2 := Lib.hid hn2; clear hW2 hn2 hb2)
    | ((with_reducible refine show_loadR ?_); refine wpList_load_mid rfl _ _ rfl w1.heap.size 0 rfl N0.cl _ (ndR HD4.out.nd1) Tryd.underlying27 rfl ndI ?_)
    | ((with_reducible refine show_loadR ?_); refine wpList_load_mid rfl _ _ rfl w3.heap.size 0 rfl N0.cl _ (ndR HD4.out.nd2) Tryd.underlying27 rfl ndI ?_))
  obtain ⟨WW, hWW⟩ : ∃ WW, WW = ((W9.setCell ⟨w.heap.size, 5, none⟩ (.int .u64 0)).setCell ⟨w.heap.size, 6, none⟩ (.int .u64 0)).setCell ⟨w.heap.size, 7, none⟩ (.int .u64 0) := ⟨_, rfl⟩
  rw [← hWW]
  have HDW := Lib.hid (show RD w WW w1.heap.size w3.heap.size N N (wsL x2) by rw [hWW, HX2.out]; exact ((HD9.out.setw 5 0).setw 6 0).setw 7 0)
  clear hWW c0 c5 c6 c7 z0 z5 z6 z7
  have hR1 := Lib.hid (fun (w' : World) (h : ∃ p : LowBy WW, w' = p.W) => (show w'.rangeAt w1.heap.size 0 N.cl by obtain ⟨p, rfl⟩ := h; exact ndR (HDW.out.below p.low).nd1))
  have hR2 := Lib.hid (fun (w' : World) (h : ∃ p : LowBy WW, w' = p.W) => (show w'.rangeAt w3.heap.size 0 N.cl by obtain ⟨p, rfl⟩ := h; exact ndR (HDW.out.below p.low).nd2))
  have hR3 := Lib.hid (fun (w' : World) (h : ∃ p : LowBy WW, w' = p.W) => (show w'.rangeAt w.heap.size 0 (wsL x2) by obtain ⟨p, rfl⟩ := h; exact rowR (HDW.out.below p.low).row))
  have hC1 := Lib.hid (fun (p : LowBy WW) => Calls.low_of (HWd.out p.W))
  have hC2 := Lib.hid (fun (p : LowBy WW) => Calls.low_of (n8known_any p.W (pow_low HT.out (HDW.out.below p.low).low)))
  refine wp_region_quiet_low (by kernel_rfl) (by kernel_rfl) ?_
  repeat (first | go_big_quiet_skip | (go_big_quiet_want; first | (refine quiet_load_mid 27 _ rfl w1.heap.size 0 rfl N.cl _ hR1.out Tryd.underlying27 rfl ndI ?_; simp only [Act.put, List.setIfInBounds_toArray, List.set_cons_succ, List.set_cons_zero]; go_big_quiet_on) | (refine quiet_load_mid 27 _ rfl w3.heap.size 0 rfl N.cl _ hR2.out Tryd.underlying27 rfl ndI ?_; simp only [Act.put, List.setIfInBounds_toArray, List.set_cons_succ, List.set_cons_zero]; go_big_quiet_on) | (refine quiet_load_mid 28 _ rfl w.heap.size 0 rfl (wsL x2) _ hR3.out Tryd.underlying28 rfl (by rw [HLen2.out]; exact w24I) ?_; simp only [Act.put, List.setIfInBounds_toArray, List.set_cons_succ, List.set_cons_zero]; go_big_quiet_on) | (go_big_quiet_op; first | go_big_quiet_on | go_big_quiet_call (first | (go_at_call 11; with_reducible exact hC1.out _) | (go_at_call 14; with_reducible exact hC2.out _)))))
  refine wpQuiet_nil ?_
  intro _ hw'
  obtain ⟨p, hw''⟩ := hw'
  subst hw''
  have HP := Lib.hid p.low
  generalize p.W = wz at *
  go_wp2
  go_ret
  exact ⟨rfl, low_and HDW.out.low HP.out⟩
end Go.Proofs.YthifamaoffkedaaDoor
