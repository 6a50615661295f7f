/- Texts of this claim, packed: N9Known, N9Ref1, N9Ref3, N9Ref4, N9Ref2, N9App, N9RApp. -/
import Derived.Test.YteojhhfcfdkmdaaPm36
import Derived.Test.YteojhhfcfdkmdaaPm37
import Derived.Test.YteojhhfcfdkmdaaPm10
import Derived.Test.YteojhhfcfdkmdaaPm11
set_option linter.unusedSimpArgs false
set_option linter.unusedVariables false
/- The chapter's rows: the program answers them as the document says; no conditions. -/
namespace Go.Proofs.Yteojhhfcfdkmdaa
open Go.RowKit
set_option linter.unusedVariables false
def k9Nd : Nd := ⟨0, 0, 0, 0, 1088, 5, 9, 0, 0, 0, 0, 0, 0, 2112, 2176, 0, 0, 0, 0, 0, 0⟩
def k9Nd4 : Nd := ⟨0, 0, 0, 4, 1088, 5, 9, 0, 0, 0, 0, 0, 0, 2112, 2176, 0, 0, 0, 0, 0, 0⟩
def k9I : List (Int × Int) := [(1112, 5), (1208, 0), (1192, 2176), (1184, 9), (1176, 2112), (1168, 7), (1176, 2240), (1112, 6)]
def k9D : List (Int × Int) := [(1112, 5), (1160, 1088), (1152, 9), (1160, 2176), (1176, 0), (1112, 6)]
theorem k9Make : makeR 1088 0 0 0 0 [(5, 2112), (9, 2176)] = (k9Nd, 0) := by kernel_rfl
theorem k9Ins : insP 1088 k9Nd4 7 2240 = (k9I, 0) := by kernel_rfl
theorem k9Del : delP 1088 k9Nd4 5 = (k9D, 0) := by kernel_rfl
theorem store_gen9 (w1 : World) (n : Nd) : ∃ W2, W2 = (w1.alloc (.cells #[.int .i64 0, .int .u64 0, .int .u64 0, .int .u64 0, .int .u64 0, .int .u64 0, .int .u64 0, .int .u64 0, .int .u64 0, .int .u64 0, .int .u64 0, .int .u64 0, .int .u64 0, .int .u64 0, .int .u64 0, .int .u64 0, .int .u64 0, .int .u64 0, .int .u64 0, .int .u64 0, .int .u64 0] 27)).setCells w1.heap.size 0 n.cl ∧ NdAt W2 w1.heap.size n ∧ Below w1.heap.size w1 W2 :=
  ⟨_, rfl, row_setCells (Row.new w1 27 zeroNd.cl.toArray) rfl, setCells_low _ (Nat.le_refl _) (alloc_low _ _)⟩
theorem ent_lit (w : World) (e : TypeId) (l : List (Int × Int)) (hl : l.length ≤ 1000) : EntAt (w.alloc (.cells (flatE l).toArray e)) (.slice (some ⟨w.heap.size, 0, none⟩) l.length l.length) l :=
  ent_ownG (own_made e (flatE l) (B := 0) (by rw [flatE_len]; omega) (Nat.zero_le _) (by unfold maxLen; omega))
end Go.Proofs.Yteojhhfcfdkmdaa
/- The document's Delete, Repair, Swap, Cut, Link: of any node; conditions: numbers of the width. -/
namespace Go.Proofs.Yteojhhfcfdkmdaa
open Go.RowKit
set_option linter.unusedVariables false
theorem refE_had (b : Int) (n : Nd) (p : Int) : refE b n [p] = if refE b n [] = 2 ∨ n.had p = true then 2 else refE b n [] := by
  rw [refE_cases, refE_cases]
  generalize (bOk b && n.may 0 false) = c
  by_cases hi : 0 ≤ n.inv <;> cases c <;> cases h : n.had p <;> simp [h, hi]
theorem refE_vals (b : Int) (n : Nd) : refE b n [] = 0 ∨ refE b n [] = 2 ∨ refE b n [] = 7 := by
  rw [refE_cases]
  generalize (bOk b && n.may 0 false) = c
  by_cases hi : 0 ≤ n.inv <;> cases c <;> simp [hi]
theorem own_slice {w : World} {B n s : Nat} {e : TypeId} {v : Value} {xs : List Value} (h : w.ownsRow B e s v n xs) (hn : 0 < n) : ∃ g cap, v = .slice (some ⟨g, 0, none⟩) n cap ∧ ∀ j u, xs[j]? = some u → w.cell? ((⟨g, 0, none⟩ : Addr).add j) = some u := by
  rcases h.2 with ⟨rfl, h0⟩ | ⟨g, cap, cur, rfl, _⟩
  · omega
  · exact ⟨g, cap, rfl, h.cells (g := g) rfl⟩
end Go.Proofs.Yteojhhfcfdkmdaa
/- The document's Cut: of any node; conditions: numbers of the width. -/
namespace Go.Proofs.Yteojhhfcfdkmdaa
open Go.RowKit
set_option linter.unusedVariables false
set_option linter.unusedSimpArgs false
theorem ok_vp (n : Nd) (h : n.inv = -1) : n.vp = List.range n.len := by
  unfold Nd.vp Nd.vpTo
  exact List.filter_eq_self.2 (fun i hi => n.inv_neg h i (List.mem_range.1 hi))
theorem keys_up9 {n : Nd} (h : n.may 0 false = true) : (n.vp.map n.key).Pairwise (· < ·) := by
  have := ((riseB_iff _ _ _).1 (may_fit h).1.rise).2
  unfold Nd.es at this
  rw [List.map_map] at this
  exact this
theorem cut_len {n : Nd} (hm : n.may 0 false = true) (hi : n.inv = -1) {high : Int} {k : Nat} (hk : k ≤ n.len) (h1 : ∀ i, i < k → n.key i < high) (h2 : k < n.len → high ≤ n.key k) : (n.act high true).length = k := by
  have hup := keys_up9 hm
  rw [ok_vp n hi] at hup
  unfold Nd.act actL
  rw [List.length_map, ok_vp n hi]
  have hlt : ∀ d, k + d < n.len → n.key k ≤ n.key (k + d) := fun d hd => by
    cases d with
    | zero => exact Int.le_refl _
    | succ d =>
      have := List.pairwise_iff_getElem.1 hup k (k + (d + 1)) (by simp; omega) (by simp; omega) (by omega)
      simp only [List.getElem_map, List.getElem_range] at this
      omega
  obtain ⟨c, hc⟩ : ∃ c, n.len = k + c := ⟨n.len - k, by omega⟩
  rw [hc] at hlt h2 ⊢
  rw [List.range_add, List.filter_append, List.length_append, List.filter_eq_self.2 (fun i hi => by simp [Nd.inB, h1 i (List.mem_range.1 hi)]), List.filter_eq_nil_iff.2 (fun j hj => by
    obtain ⟨d, hd, rfl⟩ := List.mem_map.1 hj
    have hd := List.mem_range.1 hd
    have := hlt d (by omega)
    have := h2 (by omega)
    simp [Nd.inB]
    omega)]
  simp
theorem refE_zero {b : Int} {n : Nd} (h : refE b n [] = 0) : n.may 0 false = true ∧ n.inv = -1 := by
  rw [refE_cases] at h
  have hneg : ¬ 0 ≤ n.inv → n.inv = -1 := fun hi => by
    unfold Nd.inv at hi ⊢
    split
    · rename_i j hj
      rw [hj] at hi
      simp at hi
    · rfl
  cases hb : bOk b <;> cases hm : n.may 0 false <;> simp [hb, hm] at h
  exact ⟨rfl, hneg (by omega)⟩
end Go.Proofs.Yteojhhfcfdkmdaa
/- The document's Insert: of any node; conditions: numbers of the width. -/
namespace Go.Proofs.Yteojhhfcfdkmdaa
open Go.RowKit
set_option linter.unusedVariables false
set_option linter.unusedSimpArgs false
theorem may_l {n : Nd} (h : n.may 0 false = true) : 0 ≤ n.l := by
  unfold Nd.may at h
  simp only [Bool.and_eq_true, decide_eq_true_eq] at h
  omega
theorem show_load {P : Program} {ops : Array Oper} {rest : List Oper} {Q : Exit → Act → World → Prop} {d : Option Nat} {ty t2 : TypeId} {x : Operand} {ps : String} {af : Array Edge} {a : Act} {w : World} (h : wpList P ops Q (⟨d, .load ty x, t2, ps, af, none⟩ :: rest) a w) : wpList P ops Q (⟨d, .load ty x, t2, ps, af, none⟩ :: rest) a w := h
theorem flatE_three (a b c : Int × Int) : flatE [a, b, c] = [uw a.1, uw a.2, uw b.1, uw b.2, uw c.1, uw c.2] := rfl
end Go.Proofs.Yteojhhfcfdkmdaa
/- The document's Delete and Cut: of any node; conditions: numbers of the width. -/
namespace Go.Proofs.Yteojhhfcfdkmdaa
open Go.RowKit
set_option linter.unusedVariables false
set_option linter.unusedSimpArgs false
end Go.Proofs.Yteojhhfcfdkmdaa
/- fast's Apply: of any node, any stores; conditions: numbers of the width. -/
namespace Go.Proofs.Yteojhhfcfdkmdaa
open Go.RowKit
set_option linter.unusedVariables false
/-- A node behind stores. -/
def apL (base : Int) : Nd → List (Int × Int) → Option Nd
  | n, [] => some n
  | n, s :: l => match ap base n s with | some m => apL base m l | none => none
def aftR : Option Nd → Nd × Int
  | some m => (m, 0)
  | none => (zeroNd, 2)
def applyR (base : Int) (n : Nd) (l : List (Int × Int)) : Nd × Int :=
  if bOk base = true then aftR (apL base n l) else (zeroNd, 2)
theorem ap_shift {base A : Int} (hb : 0 < base ∧ base ≤ 1099511627776) (hA : 0 ≤ A ∧ A < 18446744073709551616) (n : Nd) (x : Int) : ap 0 n (IntKind.u64.wrap (A - base), x) = ap base n (A, x) := by
  have hw : IntKind.u64.wrap (A - base) = (A - base) % 18446744073709551616 := by rw [IntKind.wrap_u64]
  by_cases h : base ≤ A
  · have hw2 : IntKind.u64.wrap (A - base) = A - base := by rw [hw]; omega
    rw [hw2]
    unfold ap
    dsimp only
    simp only [Int.zero_add, Int.sub_zero, show (A - base = 8) = (A = base + 8) from propext (by omega), show (A - base = 16) = (A = base + 16) from propext (by omega), show (A - base = 24) = (A = base + 24) from propext (by omega), show (A - base = 32) = (A = base + 32) from propext (by omega)]
  · have hw2 : IntKind.u64.wrap (A - base) = A - base + 18446744073709551616 := by rw [hw]; omega
    rw [hw2]
    unfold ap
    dsimp only
    rw [if_neg (by omega), if_neg (by omega), if_neg (by omega), if_neg (by omega), if_neg (by omega), if_neg (by omega), if_neg (by omega), if_neg (by omega), if_neg (by omega), if_neg (by omega)]
theorem apL_drop {base : Int} {n : Nd} {l : List (Int × Int)} {k : Nat} (hk : k < l.length) : apL base n (l.drop k) = match ap base n (l.getD k (0, 0)) with | some m => apL base m (l.drop (k + 1)) | none => none := by
  rw [List.drop_eq_getElem_cons hk, List.getD_eq_getElem?_getD, List.getElem?_eq_getElem hk]
  rfl
set_option maxRecDepth 100000 in
set_option maxHeartbeats 8000000 in
theorem apply_any {base : Int} (hb : 0 ≤ base) (n : Nd) {w : World} {v : Value} {l : List (Int × Int)} (h : EntAt w v l) (hl : l.length ≤ 1000) (hwf : ∀ e ∈ l, 0 ≤ e.1 ∧ e.1 < 18446744073709551616) :
    Calls Try.prog 25 #[.int .u64 base, n.V, v] w fun e w' => e = .returned (.tuple #[(applyR base n l).1.V, .int .i64 (applyR base n l).2]) ∧ Below w.heap.size w w' := by
  obtain ⟨A, cap, rfl, hA⟩ := h
  have rx := Row.new w 27 n.cl.toArray
  have rz := Row.new (w.alloc (.cells n.cl.toArray 27)) 27 zeroNd.cl.toArray
  rw [World.size_alloc] at rz
  obtain ⟨W1, hW1⟩ : ∃ W1, W1 = (w.alloc (.cells n.cl.toArray 27)).alloc (.cells #[.int .i64 0, .int .u64 0, .int .u64 0, .int .u64 0, .int .u64 0, .int .u64 0, .int .u64 0, .int .u64 0, .int .u64 0, .int .u64 0, .int .u64 0, .int .u64 0, .int .u64 0, .int .u64 0, .int .u64 0, .int .u64 0, .int .u64 0, .int .u64 0, .int .u64 0, .int .u64 0, .int .u64 0] 27) := ⟨_, rfl⟩
  have hb1 : Below w.heap.size w W1 := by rw [hW1]; exact low_and (alloc_low _ _) (alloc_low _ _)
  have r0 : NdAt W1 w.heap.size n := by rw [hW1]; exact rx.alloc _
  have r1 : NdAt W1 (w.heap.size + 1) zeroNd := by rw [hW1]; exact rz
  have hs1 : W1.heap.size = w.heap.size + 2 := by rw [hW1]; simp
  have HW1 := Lib.hid hW1
  have HB1 := Lib.hid hb1
  have R0 := Lib.hid r0
  have R1 := Lib.hid r1
  have HS1 := Lib.hid hs1
  have HBk := Lib.hid (fun W' => isBase_any hb W')
  obtain ⟨m, hm⟩ : ∃ m, m = l.length := ⟨_, rfl⟩
  rw [← hm] at hl ⊢
  have HC := Lib.hid (show ∀ k, k < m → ∃ g o, A = some ⟨g, o, none⟩ ∧ ∀ W', Below w.heap.size w W' → W'.cell? ⟨g, o + k * 2, none⟩ = some (.int .u64 (l.getD k (0, 0)).1) ∧ W'.cell? ⟨g, o + k * 2 + 1, none⟩ = some (.int .u64 (l.getD k (0, 0)).2) from fun k hk => by
    obtain ⟨g, o, rfl, hc⟩ := hA (by omega)
    refine ⟨g, o, rfl, fun W' hb => ?_⟩
    obtain ⟨c1, c2⟩ := hc k _ (getD_ent (by omega))
    exact ⟨(hb.cell (p := ⟨g, o + k * 2, none⟩) (w.block_lt_of_cell? _ c1)).trans c1, (hb.cell (p := ⟨g, o + k * 2 + 1, none⟩) (w.block_lt_of_cell? _ c2)).trans c2⟩)
  have HD := Lib.hid (fun k n (hk : k < m) => apL_drop (base := base) (n := n) (l := l) (k := k) (by omega))
  have HF := Lib.hid (show l.drop m = [] by rw [hm]; exact List.drop_length)
  have HWf := Lib.hid (show ∀ k, k < m → 0 ≤ (l.getD k (0, 0)).1 ∧ (l.getD k (0, 0)).1 < 18446744073709551616 from fun k hk => hwf _ (by rw [List.getD_eq_getElem?_getD, List.getElem?_eq_getElem (by omega)]; exact List.getElem_mem _))
  have hP : applyR base n l = if bOk base = true then aftR (apL base n (l.drop 0)) else (zeroNd, 2) := rfl
  have hbo := bOk_iff base
  generalize applyR base n l = R at hP ⊢
  obtain ⟨c, hc⟩ : ∃ c, c = bOk base := ⟨_, rfl⟩
  rw [← hc] at HBk hP hbo
  clear hW1 hb1 r0 r1 rx rz hs1 hA hm hc hwf
  cases c with
  | false =>
    have HR := Lib.hid (show R = (zeroNd, 2) by rw [hP]; rfl)
    clear hP hbo
    go_enter Try.func25, Try.ntmps25
    go_wp2_with (first
      | (rw [← HW1.out])
      | (go_at_call 47; refine (HBk.out _).mono ?_; rintro e w' ⟨rfl, rfl⟩)
      | (refine wpList_store_row rfl _ _ _ rfl (w.heap.size + 1) zeroNd.cl rfl rfl R1.out rfl ndI (cl_one zeroNd) ?_))
    refine bodyPost_ret (results_node_tmp rfl _ _ (w.heap.size + 1) zeroNd rfl (row_setCells R1.out rfl)) rfl ⟨?_, setCells_low _ (Nat.le_succ _) HB1.out⟩
    rw [HR.out]
    rfl
  | true =>
    have hbse := hbo.1 rfl
    have hb2 : 0 < base ∧ base ≤ 1099511627776 := ⟨hbse.2.1, hbse.2.2⟩
    rw [if_pos rfl] at hP
    have HPl := Lib.hid hP
    clear hP hbo hbse
    go_enter Try.func25, Try.ntmps25
    go_wp2_with (first
      | (rw [← HW1.out])
      | (go_at_call 47; refine (HBk.out _).mono ?_; rintro e w' ⟨rfl, rfl⟩))
    go_loopw [16] (fun i wr => ∃ k : Nat, k ≤ m ∧ i = .int .i64 (k : Int) ∧ ∃ n' : Nd, apL base n (l.drop 0) = apL base n' (l.drop k) ∧ NdAt wr w.heap.size n' ∧ NdAt wr (w.heap.size + 1) zeroNd ∧ Below w.heap.size w wr ∧ w.heap.size + 2 ≤ wr.heap.size) (fun i _ => m - (intOf i).toNat)
    case atStart => exact ⟨0, by omega, rfl, n, rfl, R0.out, R1.out, HB1.out, Nat.le_of_eq HS1.out.symm⟩
    case round =>
      rename World => wr
      obtain ⟨k, hk, rfl, n', hap, h0, h1, hbl, hws⟩ := hrel
      have HAp := Lib.hid hap
      have H0 := Lib.hid h0
      have H1 := Lib.hid h1
      have HBl := Lib.hid hbl
      have HWS := Lib.hid hws
      clear hap h0 h1 hbl
      by_cases hlt : k < m
      · obtain ⟨g, o, rfl, hcc⟩ := HC.out k hlt
        obtain ⟨c1, c2⟩ := hcc wr HBl.out
        have hki : (k : Int) < (m : Int) := by omega
        have hkb : k < 1000 := by omega
        have HDk := Lib.hid (HD.out k n' hlt)
        have hwk := HWf.out k hlt
        obtain ⟨⟨x, y⟩, hxy⟩ : ∃ e, e = l.getD k (0, 0) := ⟨_, rfl⟩
        rw [← hxy] at c1 c2 HDk hwk
        dsimp only at c1 c2 HDk hwk
        have hsz0 : w.heap.size ≠ wr.heap.size := by omega
        have hsz1 : w.heap.size + 1 ≠ wr.heap.size := by omega
        have r0' : NdAt (wr.alloc (.cells #[.int .u64 x, .int .u64 y] 64)) w.heap.size n' := H0.out.alloc _
        have HR1' := Lib.hid (show NdAt (wr.alloc (.cells #[.int .u64 x, .int .u64 y] 64)) (w.heap.size + 1) zeroNd from H1.out.alloc _)
        have hwu : 0 ≤ IntKind.u64.wrap (x - base) ∧ IntKind.u64.wrap (x - base) < 18446744073709551616 := by rw [IntKind.wrap_u64]; omega
        have HSet := Lib.hid (set_any r0' hwu y)
        rw [ap_shift hb2 hwk] at HSet
        have HBa := Lib.hid (low_and HBl.out (alloc_low wr (.cells #[.int .u64 x, .int .u64 y] 64)))
        obtain ⟨r, hr⟩ : ∃ r, r = ap base n' (x, y) := ⟨_, rfl⟩
        rw [← hr] at HSet HDk
        clear hxy hcc r0' hr hwu hwk hsz0 hsz1
        cases r with
        | none =>
          have HRz := Lib.hid (show R = (zeroNd, 2) by rw [HPl.out, HAp.out, HDk.out]; rfl)
          go_wp2_with (first
            | (go_at_call 48; refine HSet.out.mono ?_; rintro e w3 ⟨rfl, rfl⟩)
            | (refine wpList_store_row rfl _ _ _ rfl (w.heap.size + 1) zeroNd.cl rfl rfl HR1'.out rfl ndI (cl_one zeroNd) ?_))
          refine bodyPost_ret (results_node_tmp rfl _ _ (w.heap.size + 1) zeroNd rfl (row_setCells HR1'.out rfl)) rfl ⟨?_, setCells_low _ (Nat.le_succ _) HBa.out⟩
          rw [HRz.out]
          rfl
        | some n2 =>
          go_wp2_with (first
            | (go_at_call 48; refine HSet.out.mono ?_; rintro e w3 ⟨rfl, i3, u3, rfl, hn3⟩; have HN3 := Lib.hid hn3; clear hn3))
          refine ⟨⟨k + 1, by omega, by go_num, n2, by rw [HAp.out, HDk.out], HN3.out, ?_, ?_, ?_⟩, by simp [intOf]; omega⟩
          · exact Row.other HR1'.out (p := ⟨w.heap.size, i3, none⟩) (by simp) u3
          · exact HBa.out.setCell (p := ⟨w.heap.size, i3, none⟩) (Nat.le_refl _) u3
          · have := HWS.out; simp; omega
      · obtain rfl : k = m := by omega
        have HRz := Lib.hid (show R = (n', 0) by rw [HPl.out, HAp.out, HF.out]; rfl)
        go_wp2_with (first
          | (refine wpList_load_mid rfl _ _ rfl w.heap.size 0 rfl n'.cl _ (ndR H0.out) Try.underlying27 rfl ndI ?_)
          | (refine wpList_store_row rfl _ _ _ rfl (w.heap.size + 1) n'.cl rfl rfl H1.out rfl ndI (cl_one n') ?_))
        refine bodyPost_ret (results_node_tmp rfl _ _ (w.heap.size + 1) n' rfl (row_setCells H1.out rfl)) rfl ⟨?_, setCells_low _ (Nat.le_succ _) HBl.out⟩
        rw [HRz.out]
        rfl
end Go.Proofs.Yteojhhfcfdkmdaa
/- The document's Apply of one store: of any node; conditions: numbers of the width. -/
namespace Go.Proofs.Yteojhhfcfdkmdaa
open Go.RowKit
set_option linter.unusedVariables false
theorem ap_else {base x y : Int} {n : Nd} (h : ∀ i : Nat, i < 8 → x ≠ kA base i ∧ x ≠ pA base i) (h1 : x ≠ base + 8) (h2 : x ≠ base + 16) (h3 : x ≠ base + 24) (h4 : x ≠ base + 32) : ap base n (x, y) = none := by
  unfold ap
  dsimp only
  rw [if_neg h1, if_neg h2, if_neg h3, if_neg h4]
  refine if_neg ?_
  rintro ⟨g1, g2, g3⟩
  have := h ((x - base - 64) / 16).toNat (by omega)
  unfold kA pA at this
  omega
theorem results9 {fn : Func} {p u : Tmp} (h : fn.results = #[.cell p 27, .tmp u]) : True := trivial
end Go.Proofs.Yteojhhfcfdkmdaa
