/- BitsAll answers true, for every word and every number at which it is left; nothing that was there turns. -/
import Derived.Test.YtabmafndcoebpaaBLawN
import Derived.Test.YtabmafndcoebpaaLow
import Derived.BigQuiet
import Derived.Deep.QuietTactic
namespace Go.Proofs.Ytabmafndcoebpaa
open Go.RowKit Go.Shelf
set_option linter.unusedVariables false
attribute [local go_sem] Oper.semAt_some
theorem eqFn (w : World) (g : Nat) (lb : Array Value) : (binOp .eql 29 (.func (.func g) #[] lb) .nilFunc).run Try.prog w = .ok (.bool false) w := by kernel_rfl
theorem guardFn (w : World) (g : Nat) (lb : Array Value) (x : Operand) : (eqGuard .eql 29 x (.const .nilFunc) (.func (.func g) #[] lb) .nilFunc).run Try.prog w = .ok () w := by kernel_rfl
/-- What the law holds while it ranges: the number at which it is left, its result, the wanted places, the word. -/
structure Fr (w0 W : World) (few : Int) (b bw bx gq L : Nat) (V : Value) : Prop where
  few : W.cell? ⟨w0.heap.size, 0, none⟩ = some (.int .i64 few)
  res : W.cell? ⟨w0.heap.size + 1, 0, none⟩ = some (.bool false)
  free : W.frozen? ⟨w0.heap.size + 1, 0, none⟩ = false
  want : W.cell? ⟨bw, 0, none⟩ = some V
  row : ∀ i, i < L → W.cell? ⟨gq, i, none⟩ = some (iv (gd (upB b 64) i))
  word : W.cell? ⟨bx, 0, none⟩ = some (wv b)
theorem Fr.kept {w0 : World} {few : Int} {b bw bx gq L : Nat} {V : Value} {A B : World} {row : Option Nat} (h : Fr w0 A few b bw bx gq L V) (hg : A.grownBy B row) (hr : ∀ r, row = some r → ∃ o : Obj, A.heap[r]? = some o ∧ o.isCells = false) : Fr w0 B few b bw bx gq L V :=
  ⟨cell_kept h.few hg hr, cell_kept h.res hg hr, (frozen_kept h.res hg hr).trans h.free, cell_kept h.want hg hr, fun i hi => cell_kept (h.row i hi) hg hr, cell_kept h.word hg hr⟩
theorem Fr.below {w0 : World} {few : Int} {b bw bx gq L : Nat} {V : Value} {A B : World} (h : Fr w0 A few b bw bx gq L V) (hb : Below A.heap.size A B) (hn : w0.heap.size + 1 < A.heap.size) : Fr w0 B few b bw bx gq L V := by
  have k : ∀ {a : Addr} {v : Value}, A.cell? a = some v → B.cell? a = some v := fun {a v} hc => (hb.cell (A.block_lt_of_cell? _ hc)).trans hc
  exact ⟨k h.few, k h.res, (hb.frozen (p := ⟨w0.heap.size + 1, 0, none⟩) hn).trans h.free, k h.want, fun i hi => k (h.row i hi), k h.word⟩
/-- n's box is another one. -/
theorem Fr.set {w0 : World} {few : Int} {b bw bx gq L bn : Nat} {V : Value} {W : World} (h : Fr w0 W few b bw bx gq L V) (h0 : w0.heap.size + 1 < bn) (h1 : bw ≠ bn) (h2 : gq ≠ bn) (h3 : bx ≠ bn) (v : Value) : Fr w0 (W.setCell ⟨bn, 0, none⟩ v) few b bw bx gq L V := by
  have k : ∀ {g i : Nat} {u : Value}, g ≠ bn → W.cell? ⟨g, i, none⟩ = some u → (W.setCell ⟨bn, 0, none⟩ v).cell? ⟨g, i, none⟩ = some u := fun {g i u} hne hc => (World.cell?_of_block (a := ⟨g, i, none⟩) (heap_setCell_other _ _ _ _ hne)).trans hc
  exact ⟨k (by omega) h.few, k (by omega) h.res, by simpa using h.free, k h1 h.want, fun i hi => k h2 (h.row i hi), k h3 h.word⟩
theorem pre_step {l pre : List Nat} {x k : Nat} (hp : pre <+: l) (hk : k = pre.length) (hl : k < l.length) (hx : x = gd l k) : pre ++ [x] <+: l := by
  subst hk
  obtain ⟨r, rfl⟩ := hp
  cases r with
  | nil => simp at hl
  | cons y r =>
    have : gd (pre ++ y :: r) pre.length = y := by simp [gd, List.getD_eq_getElem?_getD]
    rw [this] at hx
    subst hx
    exact ⟨r, by simp⟩
theorem pre_not {l pre : List Nat} {x k : Nat} (hk : k = pre.length) (h : l.length ≤ k ∨ x ≠ gd l k) : ¬ pre ++ [x] <+: l := by
  rintro ⟨r, rfl⟩
  subst hk
  rcases h with h | h
  · simp at h
    omega
  · exact h (by simp [gd, List.getD_eq_getElem?_getD])
theorem pre_full {l pre : List Nat} (hp : pre <+: l) (hk : pre.length = l.length) : pre = l := hp.eq_of_length hk
set_option maxRecDepth 100000 in
set_option maxHeartbeats 4000000 in
theorem lawAll_any {b : Nat} (hb : b < 18446744073709551616) (few : Int) (w : World) :
    Calls Try.prog 4 #[wv b, .int .i64 few] w fun e w' => e = .returned (.bool true) ∧ Below w.heap.size w w' := by
  have HB := Lib.hid (rBits_any hb)
  have HA := Lib.hid (all_any b)
  have HC := Lib.hid (fun W => count_any hb W)
  have HK := Lib.hid known5_any
  unfold wv at HB HA HC ⊢
  refine (callsIn_wide (n := 6)).1 ?_
  refine callsIn_of_wp_marks Try.func4 rfl trivial ?_ rfl
  simp only [Try.ntmps4, List.size_toArray, List.length_cons, List.length_nil, Nat.reduceAdd, Nat.reduceSub, Array.replicate_succ, Array.replicate_zero, List.push_toArray, List.append_toArray, List.nil_append, List.cons_append]
  refine wpIn_wide.2 ?_
  go_wp2_with fail
  refine (HB.out _).mono ?_
  rintro e w1 ⟨v, rfl, ho, hb1⟩
  obtain ⟨L, hL⟩ : ∃ L, L = (upB b 64).length := ⟨_, rfl⟩
  rw [← hL] at ho
  obtain ⟨A, cap, hv, _⟩ := own_sl ho
  subst hv
  have HLL := Lib.hid hL
  have HO := Lib.hid ho
  have HB1 := Lib.hid hb1
  clear hL ho hb1
  go_wp2_with fail
  refine (HA.out _).mono ?_
  rintro e w2 ⟨rfl, rfl⟩
  have hb1 := HB1.out
  obtain ⟨W0, hW0⟩ : ∃ W0, W0 = (w1.alloc (.cells #[.slice A L cap] 26)).alloc (.cells #[.int .u64 (b : Int)] 22) := ⟨_, rfl⟩
  have hsz1 : w.heap.size + 1 < w1.heap.size := by have := hb1.size; simp at this; omega
  have hlow1 : Below w.heap.size w w1 := (((Below.refl _ w).alloc (Nat.le_refl _) _).alloc (by simp) _).trans (hb1.mono (by simp; omega))
  have hwant0 : (w1.alloc (.cells #[.slice A L cap] 26)).cell? ⟨w1.heap.size, 0, none⟩ = some (.slice A L cap) := (Row.new w1 26 #[.slice A L cap]).cell 0
  have hb01 : Below w1.heap.size w1 W0 := by rw [hW0]; exact Below.and (alloc_below _ _) (alloc_below _ _)
  have hL64 : L ≤ 64 := by rw [HLL.out]; exact upB_len b 64
  obtain ⟨gq, hgq, hA⟩ : ∃ gq, gq < w1.heap.size ∧ ((0 < L → A = some ⟨gq, 0, none⟩) ∧ ∀ i, i < L → w1.cell? ⟨gq, i, none⟩ = some (iv (gd (upB b 64) i))) := by
    rcases Nat.eq_zero_or_pos L with h0 | h0
    · exact ⟨0, by omega, fun h => by omega, fun i hi => by omega⟩
    · obtain ⟨g, c, hv, _⟩ := own_some HO.out h0
      cases hv
      have hr := HO.out
      refine ⟨g, (hr.lt g rfl).2, fun _ => rfl, fun i hi => ?_⟩
      exact own_cell hr (by rw [← HLL.out]; exact hi)
  have hFr : Fr w W0 few b w1.heap.size (w1.heap.size + 1) gq L (.slice A L cap) := by
    have k0 : ∀ {a : Addr} {v : Value}, w1.cell? a = some v → W0.cell? a = some v := fun {a v} hc => (hb01.cell (w1.block_lt_of_cell? _ hc)).trans hc
    have b0 := Row.new w 3 #[.int .i64 few]
    have b1 := Row.new (w.alloc (.cells #[.int .i64 few] 3)) 4 #[.bool false]
    simp only [World.size_alloc] at b1
    refine ⟨k0 ((hb1.cell (p := ⟨w.heap.size, 0, none⟩) (by simp; omega)).trans ((b0.alloc _).cell 0)), k0 ((hb1.cell (p := ⟨w.heap.size + 1, 0, none⟩) (by simp)).trans (b1.cell 0)),
      ((hb01.frozen (p := ⟨w.heap.size + 1, 0, none⟩) hsz1).trans (hb1.frozen (p := ⟨w.heap.size + 1, 0, none⟩) (by simp))).trans (b1.free 0), ?_, fun i hi => k0 (hA.2 i hi), ?_⟩
    · rw [hW0]
      exact ((alloc_below _ _).cell (p := ⟨w1.heap.size, 0, none⟩) (by simp)).trans hwant0
    · rw [hW0]
      have := Row.new (w1.alloc (.cells #[.slice A L cap] 26)) 22 #[.int .u64 (b : Int)]
      simp only [World.size_alloc] at this
      exact this.cell 0
  have hlow : Below w.heap.size w W0 := hlow1.trans (hb01.mono (by omega))
  have hszW : w1.heap.size + 1 < W0.heap.size := by rw [hW0]; simp
  have mixed : Try.prog.follows .mixedOrders = true := by kernel_rfl
  have cwant := hFr.want
  have cw := fun p : LowBy W0 => LowBy.cell cwant p
  have HCC := Lib.hid fun (p : LowBy W0) => Calls.low_of (HC.out p.W)
  rw [← HLL.out] at HCC
  have HFr := Lib.hid hFr
  have HLow := Lib.hid hlow
  have HAA := Lib.hid hA.1
  have HL64 := Lib.hid hL64
  have HS := Lib.hid (And.intro hsz1 (And.intro hgq hszW))
  go_wp2_with fail
  rw [← hW0]
  clear hW0 hb1 hFr hlow hA hL64 hsz1 hgq hszW hb01 hlow1 hwant0 cwant HB1 HO
  have q1 := fun w => eqFn w 38 #[.pointer (some ⟨w1.heap.size + 1, 0, none⟩)]
  have q2 := fun w => guardFn w 38 #[.pointer (some ⟨w1.heap.size + 1, 0, none⟩)] (.tmp 14)
  refine wp_region_quiet_low (by assumption) (by kernel_rfl) ?_
  repeat (go_big_quiet_step ((go_at_call 18; with_reducible exact HCC.out _)))
  refine wpQuiet_nil ?_
  intro _ hw'
  obtain ⟨p, hw''⟩ := hw'
  subst hw''
  go_wp2
  rename_i Kc hKc
  obtain ⟨bn, hbn⟩ : ∃ bn, bn = p.W.heap.size := ⟨_, rfl⟩
  rw [← hbn]
  obtain ⟨W2, hW2⟩ : ∃ W2, W2 = p.W.alloc (.cells #[.int .i64 0] 3) := ⟨_, rfl⟩
  rw [← hW2]
  obtain ⟨hs1, hs2, hs3⟩ := HS.out
  have hpl := p.low
  have hbnW : W0.heap.size ≤ bn := by rw [hbn]; exact hpl.size
  have hsW2 : W2.heap.size = bn + 1 := by rw [hW2, hbn]; simp
  have hF2 : Fr w W2 few b w1.heap.size (w1.heap.size + 1) gq L (.slice A L cap) := by
    rw [hW2]
    exact (HFr.out.below hpl (by omega)).below (alloc_below _ _) (by have := hpl.size; omega)
  have hn2 : W2.cell? ⟨bn, 0, none⟩ = some (.int .i64 0) := by rw [hW2, hbn]; exact (Row.new _ _ _).cell 0
  have hnf : W2.frozen? ⟨bn, 0, none⟩ = false := by rw [hW2, hbn]; exact (Row.new _ _ _).free 0
  have hl2 : Below w.heap.size w W2 := by
    rw [hW2]
    exact (HLow.out.trans (hpl.mono HLow.out.size)).trans ((alloc_below _ _).mono (Nat.le_trans HLow.out.size hpl.size))
  have HBN := Lib.hid (show w.heap.size + 1 < bn ∧ w1.heap.size ≠ bn ∧ gq ≠ bn ∧ w1.heap.size + 1 ≠ bn ∧ w.heap.size ≤ bn from ⟨by omega, by omega, by omega, by omega, by omega⟩)
  have hbxw : w1.heap.size + 1 < W2.heap.size := by omega
  have HBX := Lib.hid hbxw
  have HSW := Lib.hid hsW2
  have bodyF : ∀ (W : World) (pre : List Nat) (x : Nat), pre <+: upB b 64 → (Fr w W few b w1.heap.size (w1.heap.size + 1) gq L (.slice A L cap) ∧ W.cell? ⟨bn, 0, none⟩ = some (.int .i64 (pre.length : Int)) ∧ W.frozen? ⟨bn, 0, none⟩ = false ∧ Below w.heap.size w W) →
      (Fr w (W.setCell ⟨bn, 0, none⟩ (.int .i64 ((pre.length : Int) + 1))) few b w1.heap.size (w1.heap.size + 1) gq L (.slice A L cap) ∧ (W.setCell ⟨bn, 0, none⟩ (.int .i64 ((pre.length : Int) + 1))).cell? ⟨bn, 0, none⟩ = some (.int .i64 ((pre ++ [x]).length : Int)) ∧ (W.setCell ⟨bn, 0, none⟩ (.int .i64 ((pre.length : Int) + 1))).frozen? ⟨bn, 0, none⟩ = false ∧ Below w.heap.size w (W.setCell ⟨bn, 0, none⟩ (.int .i64 ((pre.length : Int) + 1)))) := by
    rintro W pre x hp ⟨hf, hc, hz, hl⟩
    obtain ⟨n1, n2, n3, n4, n5⟩ := HBN.out
    refine ⟨hf.set n1 n2 n3 n4 _, ?_, by simpa using hz, hl.setCell (p := ⟨bn, 0, none⟩) n5 _⟩
    rw [World.cell?_setCell_same' _ _ _ (by rw [hc]; rfl)]
    simp
  have HBF := Lib.hid bodyF
  have HL2 := Lib.hid hl2
  have HWL := Lib.hid (show w.heap.size ≤ W2.heap.size from hl2.size)
  have HWL2 := HWL
  have HBNW := Lib.hid (show bn < W2.heap.size by omega)
  have HNX := Lib.hid (HBN.out.2.2.2.1)
  clear bodyF hl2 hpl hbnW hbxw hs1 hs2 hs3 hbn hW2 cw HFr HLow HS hsW2 HCC HB HA
  have REST : ∀ (D : Nat) (W : World), W2.heap.size ≤ D → Fr w W few b w1.heap.size (w1.heap.size + 1) gq L (.slice A L cap) → (∃ k : Int, W.cell? ⟨bn, 0, none⟩ = some (.int .i64 k)) → W.frozen? ⟨bn, 0, none⟩ = false → Below w.heap.size w W → W.heap[D]? = some (.deferred (some [])) →
      Kc { tmps := #[.int .u64 (b : Int), .int .i64 few, undef, .pointer (some ⟨w.heap.size, 0, none⟩), .pointer (some ⟨w.heap.size + 1, 0, none⟩), .pointer (some ⟨w1.heap.size, 0, none⟩), .func (.func 38) #[] #[.pointer (some ⟨w1.heap.size + 1, 0, none⟩)], .pointer (some ⟨bn, 0, none⟩), undef, undef, .int .u64 (b : Int), .slice A L cap, .int .u64 (b : Int), .func (.func 38) #[] #[.pointer (some ⟨w1.heap.size + 1, 0, none⟩)], .func (.func 38) #[] #[.pointer (some ⟨w1.heap.size + 1, 0, none⟩)], .bool false, .bool false, .int .u64 (b : Int), .int .i64 (L : Int), .slice A L cap, .int .i64 (L : Int), .bool false, .bool false, .func (.func 38) #[] #[.pointer (some ⟨w1.heap.size + 1, 0, none⟩)], undef, undef, undef, undef, undef, undef, undef, undef, undef, undef, undef, undef, undef, undef, undef, undef, undef, undef, undef, undef, undef, undef, undef, undef, undef, undef, undef, undef, undef, undef, undef, undef, undef, undef, undef, undef, undef, undef, undef, undef, undef], defers := [{ target := .collected D, args := #[] }] } W := by
    intro D W hD hF hk hz hl hK
    obtain ⟨k, hk⟩ := hk
    refine hKc _ _ ?_
    obtain ⟨n1, n2, n3, n4, n5⟩ := HBN.out
    have hF3 := hF.set n1 n2 n3 n4 (.int .i64 0)
    have hn3 := World.cell?_setCell_same' W ⟨bn, 0, none⟩ (.int .i64 0) (by rw [hk]; rfl)
    have hz3 : (W.setCell ⟨bn, 0, none⟩ (.int .i64 0)).frozen? ⟨bn, 0, none⟩ = false := by simpa using hz
    have hl3 := hl.setCell (p := ⟨bn, 0, none⟩) n5 (.int .i64 0)
    have hK3 := (KeepsOthers.setCell W ⟨bn, 0, none⟩ (.int .i64 0)).same D _ hK rfl
    have hsz3 : W.heap.size ≤ (W.setCell ⟨bn, 0, none⟩ (.int .i64 0)).heap.size := by rw [size_set]; exact Nat.le_refl _
    have hDW : D < W.heap.size := (Array.getElem?_eq_some_iff.1 hK).1
    go_wp2
    obtain ⟨W3, hW3⟩ : ∃ W3, W3 = W.setCell ⟨bn, 0, none⟩ (.int .i64 0) := ⟨_, rfl⟩
    rw [← hW3] at hF3 hn3 hz3 hl3 hK3 hsz3 ⊢
    have HWL := Lib.hid (show w.heap.size ≤ W3.heap.size from hl3.size)
    have HNX := Lib.hid n4
    have HBX3 := Lib.hid (show w1.heap.size + 1 < W3.heap.size by have := HBX.out; omega)
    have HBNW := Lib.hid (show bn < W3.heap.size by have := HBNW.out; omega)
    have HD3 := Lib.hid (show D < W3.heap.size by omega)
    have HL3 := Lib.hid hl3
    have HK3 := Lib.hid hK3
    clear hW3 hF hk hz hl hK hl3 hsz3 hDW n1 n2 n3 n4 n5 hKc hK3
    refine wpIn_wide.1 (?_ : Code.wpIn Fence.wide 6 _ _ _ _ _)
    refine wpIn_rangeFunc_ownF rfl (by omega) (gf := 38) (lb := #[.pointer (some ⟨w1.heap.size + 1, 0, none⟩)]) rfl trivial (enters_of Try.func38 (by kernel_rfl) rfl)
      (all_stops hb hF3.word) Kb.t (Kb.b HBX3.out) (Below.refl _ _) (fun _ => rfl)
      (fun (pre : List Nat) W => pre <+: upB b 64 ∧ Fr w W few b w1.heap.size (w1.heap.size + 1) gq L (.slice A L cap) ∧ W.cell? ⟨bn, 0, none⟩ = some (.int .i64 (pre.length : Int)) ∧ W.frozen? ⟨bn, 0, none⟩ = false ∧ Below w.heap.size w W ∧ W.heap[D]? = some (.deferred (some [])))
      (fun c (pre : List Nat) W => c = .ret ∧ ¬ pre <+: upB b 64)
      (fun s A B row hs hg hr => ⟨hs.1, hs.2.1.kept hg (fun r e => (hr r e).2), cell_kept hs.2.2.1 hg (fun r e => (hr r e).2), (frozen_kept hs.2.2.1 hg (fun r e => (hr r e).2)).trans hs.2.2.2.1, hs.2.2.2.2.1.grown hg hs.2.2.2.2.1.size (fun k e => Nat.le_trans HWL.out (hr k e).1),
        (hg.block D (Array.getElem?_eq_some_iff.1 hs.2.2.2.2.2).1 (fun e => by have := (hr D e.symm).1; have := HD3.out; omega)).trans hs.2.2.2.2.2⟩)
      (fun c s A B row hs hg hr => hs)
      ⟨List.nil_prefix, hF3, hn3, hz3, HL3.out, HK3.out⟩
      (fun x => { tmps := #[.int .u64 (b : Int), .int .i64 few, undef, .pointer (some ⟨w.heap.size, 0, none⟩), .pointer (some ⟨w.heap.size + 1, 0, none⟩), .pointer (some ⟨w1.heap.size, 0, none⟩), .func (.func 38) #[] #[.pointer (some ⟨w1.heap.size + 1, 0, none⟩)], .pointer (some ⟨bn, 0, none⟩), undef, .int .i64 (x : Int), .int .u64 (b : Int), .slice A L cap, .int .u64 (b : Int), .func (.func 38) #[] #[.pointer (some ⟨w1.heap.size + 1, 0, none⟩)], .func (.func 38) #[] #[.pointer (some ⟨w1.heap.size + 1, 0, none⟩)], .bool false, .bool false, .int .u64 (b : Int), .int .i64 (L : Int), .slice A L cap, .int .i64 (L : Int), .bool false, .bool false, .func (.func 38) #[] #[.pointer (some ⟨w1.heap.size + 1, 0, none⟩)], undef, undef, undef, undef, undef, undef, undef, undef, undef, undef, undef, undef, undef, undef, undef, undef, undef, undef, .func (.func 38) #[] #[.pointer (some ⟨w1.heap.size + 1, 0, none⟩)], .int .i64 (x : Int), undef, undef, undef, undef, undef, undef, undef, undef, undef, undef, undef, undef, undef, undef, undef, undef, undef, undef, undef, undef, undef], defers := [] }) ?assign ?body ?done ?stop
    case assign =>
      intro l x W K hK
      gi_wp2
      exact hK
    case body =>
      rintro l pre x W ⟨hp, hfr, hcn, hcf, hB, hDD⟩ _
      have c2 := hfr.res
      have c3 := hfr.free
      have c4 := hfr.want
      have HST := Lib.hid (HBF.out W pre x hp ⟨hfr, hcn, hcf, hB⟩)
      have HDD := Lib.hid ((KeepsOthers.setCell W ⟨bn, 0, none⟩ (.int .i64 ((pre.length : Int) + 1))).same D _ hDD rfl)
      clear hDD
      by_cases hk : pre.length < L
      · have hAs := HAA.out (by omega)
        subst hAs
        have cx := hfr.row pre.length hk
        unfold iv at cx
        obtain ⟨y, hy⟩ : ∃ y, y = gd (upB b 64) pre.length := ⟨_, rfl⟩
        rw [← hy] at cx
        by_cases hxy : x = y
        · have hne : ((x : Int) != (y : Int)) = false := by simp [hxy]
          have HP := Lib.hid (pre_step hp rfl (by rw [← HLL.out]; exact hk) (hxy.trans hy))
          have hk64 : (pre.length : Int) + 1 ≤ 100 := by have := HL64.out; omega
          clear hp hfr hB hy hxy
          generalize hL' : pre.length = k at *
          gi_wp2
          exact ⟨KeepsOthers.setCell _ _ _, Kb.set (by simpa using HNX.out) _, HP.out, HST.out.1, HST.out.2.1, HST.out.2.2.1, HST.out.2.2.2, HDD.out⟩
        · have hne : ((x : Int) != (y : Int)) = true := by simp only [bne_iff_ne, ne_eq]; omega
          have HP := Lib.hid (pre_not (l := upB b 64) (pre := pre) (x := x) rfl (.inr (by rw [← hy]; exact hxy)))
          clear hp hfr hB hy hxy HST
          generalize hL' : pre.length = k at *
          gi_wp2
          exact ⟨KeepsOthers.setCell _ _ _, rfl, HP.out⟩
      · have hk' : L ≤ pre.length := by omega
        have HP := Lib.hid (pre_not (l := upB b 64) (pre := pre) (x := x) rfl (.inl (by rw [← HLL.out]; exact hk')))
        clear hp hfr hB HST
        generalize hL' : pre.length = k at *
        gi_wp2
        exact ⟨KeepsOthers.setCell _ _ _, rfl, HP.out⟩
    case done =>
      rintro D2 ys W hD2 rfl ⟨_, hfr, hcn, hcf, hB, hDD⟩ hK
      have c2 := hfr.res
      have c3 := hfr.free
      have c4 := hfr.want
      rw [← HLL.out] at hcn
      have HKK := Lib.hid hK
      have HDD := Lib.hid hDD
      have HF := Lib.hid hfr
      have HBB := Lib.hid hB
      have hD2W : D2 < W.heap.size := (Array.getElem?_eq_some_iff.1 hK).1
      have HD2 := Lib.hid (show D ≠ D2 ∧ D2 < W.heap.size ∧ w.heap.size ≤ D2 ∧ w.heap.size ≤ D from ⟨by have := HD3.out; omega, hD2W, by have := HWL.out; omega, by have := HWL2.out; omega⟩)
      clear hfr hB hDD hK hD2W hD2
      go_wp2_with fail
      refine (HK.out _).mono ?_
      rintro e W5 ⟨rfl, hb5⟩
      obtain ⟨d1, d2, d3, d4⟩ := HD2.out
      have hF5 := HF.out.below hb5 (Nat.lt_trans HBN.out.1 (W.block_lt_of_cell? _ hcn))
      have r5 := hF5.res
      have f5 := hF5.free
      have k5 : W5.heap[D]? = some (.deferred (some [])) := (hb5.block D (Array.getElem?_eq_some_iff.1 HDD.out).1).trans HDD.out
      have l5 : W5.heap[D2]? = some (.deferred (some [])) := (hb5.block D2 d2).trans HKK.out
      have b5 : Below w.heap.size w W5 := HBB.out.trans (hb5.mono HBB.out.size)
      have K5 := Lib.hid k5
      have L5 := Lib.hid l5
      have B5 := Lib.hid b5
      have DD := Lib.hid (And.intro d1 (And.intro d3 d4))
      clear hb5 hF5 k5 l5 b5 d1 d2 d3 d4
      have hres := World.cell?_setCell_same' W5 ⟨w.heap.size + 1, 0, none⟩ (.bool true) (by rw [r5]; rfl)
      have HRES := Lib.hid hres
      clear hres
      go_wp2
      have e1 := (KeepsOthers.setCell W5 ⟨w.heap.size + 1, 0, none⟩ (.bool true)).same D2 _ L5.out rfl
      have e2 := (KeepsOthers.setCell W5 ⟨w.heap.size + 1, 0, none⟩ (.bool true)).same D _ K5.out rfl
      obtain ⟨d1, d3, d4⟩ := DD.out
      have b6 := B5.out.setCell (p := ⟨w.heap.size + 1, 0, none⟩) (by simp) (.bool true)
      have h6 := HRES.out
      generalize W5.setCell ⟨w.heap.size + 1, 0, none⟩ (.bool true) = W6 at *
      have e3 : (W6.putObj D2 (.deferred none)).heap[D]? = some (.deferred (some [])) := by
        rw [← e2]
        exact (grownBy_putObj' W6 D2 (.deferred none)).block D (Array.getElem?_eq_some_iff.1 e2).1 (fun e => by cases e; exact d1 rfl)
      have h7 := cell_kept h6 (grownBy_putObj' W6 D2 (.deferred none)) (fun r e => by cases e; exact ⟨_, e1, rfl⟩)
      have h8 := cell_kept h7 (grownBy_putObj' _ D (.deferred none)) (fun r e => by cases e; exact ⟨_, e3, rfl⟩)
      refine ⟨by simp, .inl ⟨_, _, rfl, run_takeDeferred e1, ⟨by simp, .inl ⟨_, _, rfl, run_takeDeferred e3, ?_⟩⟩⟩⟩
      refine ⟨.bool true, ?_, rfl, (b6.trans (belowK_b (w := w) (Nat.le_refl _) W6 D2 _ _ d3 e1 rfl rfl)).trans (belowK_b (w := w) (Nat.le_refl _) _ D _ _ d4 e3 rfl rfl)⟩
      simp [results, Try.f4, go_sem, h8]
    case stop =>
      rintro D2 c pre W hD2 hpre ⟨_, hnp⟩ hK
      exact absurd hpre hnp
  have HREST := Lib.hid REST
  clear REST hKc
  refine wpIn_wide.1 (?_ : Code.wpIn Fence.wide 6 _ _ _ _ _)
  refine wpIn_rangeFunc_ownF rfl (by omega) (gf := 38) (lb := #[.pointer (some ⟨w1.heap.size + 1, 0, none⟩)]) rfl trivial (enters_of Try.func38 (by kernel_rfl) rfl)
    (all_stops hb hF2.word) Kb.t (Kb.b HBX.out) (Below.refl _ _) (fun _ => rfl)
    (fun (pre : List Nat) W => pre <+: upB b 64 ∧ Fr w W few b w1.heap.size (w1.heap.size + 1) gq L (.slice A L cap) ∧ W.cell? ⟨bn, 0, none⟩ = some (.int .i64 (pre.length : Int)) ∧ W.frozen? ⟨bn, 0, none⟩ = false ∧ Below w.heap.size w W)
    (fun c (pre : List Nat) W => (c = .exit 0 ∧ Fr w W few b w1.heap.size (w1.heap.size + 1) gq L (.slice A L cap) ∧ (∃ k : Int, W.cell? ⟨bn, 0, none⟩ = some (.int .i64 k)) ∧ W.frozen? ⟨bn, 0, none⟩ = false ∧ Below w.heap.size w W) ∨ (c = .ret ∧ ¬ pre <+: upB b 64))
    (fun s A B row hs hg hr => ⟨hs.1, hs.2.1.kept hg (fun r e => (hr r e).2), cell_kept hs.2.2.1 hg (fun r e => (hr r e).2), (frozen_kept hs.2.2.1 hg (fun r e => (hr r e).2)).trans hs.2.2.2.1, hs.2.2.2.2.grown hg hs.2.2.2.2.size (fun k e => Nat.le_trans HWL.out (hr k e).1)⟩)
    (fun c s A B row hs hg hr => by
      rcases hs with ⟨h0, h1, ⟨k, h2⟩, h3, h4⟩ | h
      · exact .inl ⟨h0, h1.kept hg (fun r e => (hr r e).2), ⟨k, cell_kept h2 hg (fun r e => (hr r e).2)⟩, (frozen_kept h2 hg (fun r e => (hr r e).2)).trans h3, h4.grown hg h4.size (fun k e => Nat.le_trans HWL.out (hr k e).1)⟩
      · exact .inr h)
    ⟨List.nil_prefix, hF2, hn2, hnf, HL2.out⟩
    (fun x => { tmps := #[.int .u64 (b : Int), .int .i64 few, undef, .pointer (some ⟨w.heap.size, 0, none⟩), .pointer (some ⟨w.heap.size + 1, 0, none⟩), .pointer (some ⟨w1.heap.size, 0, none⟩), .func (.func 38) #[] #[.pointer (some ⟨w1.heap.size + 1, 0, none⟩)], .pointer (some ⟨bn, 0, none⟩), .int .i64 (x : Int), undef, .int .u64 (b : Int), .slice A L cap, .int .u64 (b : Int), .func (.func 38) #[] #[.pointer (some ⟨w1.heap.size + 1, 0, none⟩)], .func (.func 38) #[] #[.pointer (some ⟨w1.heap.size + 1, 0, none⟩)], .bool false, .bool false, .int .u64 (b : Int), .int .i64 (L : Int), .slice A L cap, .int .i64 (L : Int), .bool false, .bool false, .func (.func 38) #[] #[.pointer (some ⟨w1.heap.size + 1, 0, none⟩)], .int .i64 (x : Int), undef, undef, undef, undef, undef, undef, undef, undef, undef, undef, undef, undef, undef, undef, undef, undef, undef, undef, undef, undef, undef, undef, undef, undef, undef, undef, undef, undef, undef, undef, undef, undef, undef, undef, undef, undef, undef, undef, undef, undef], defers := [] }) ?assign ?body ?done ?stop
  case assign =>
    intro l x W K hK
    gi_wp2
    exact hK
  case body =>
    rintro l pre x W ⟨hp, hfr, hcn, hcf, hB⟩ _
    have c1 := hfr.few
    have c2 := hfr.res
    have c3 := hfr.free
    have c4 := hfr.want
    obtain ⟨n1, n2, n3, n4, n5⟩ := HBN.out
    have HST := Lib.hid (HBF.out W pre x hp ⟨hfr, hcn, hcf, hB⟩)
    by_cases hfew : ((pre.length : Int) == few) = true
    · have HE := Lib.hid (show Fr w W few b w1.heap.size (w1.heap.size + 1) gq L (.slice A L cap) ∧ (∃ k : Int, W.cell? ⟨bn, 0, none⟩ = some (.int .i64 k)) ∧ W.frozen? ⟨bn, 0, none⟩ = false ∧ Below w.heap.size w W from ⟨hfr, ⟨_, hcn⟩, hcf, hB⟩)
      clear hp hfr hB HST n1 n2 n3 n4 n5
      generalize pre.length = k at *
      gi_wp2
      exact ⟨KeepsOthers.refl _, .inl ⟨rfl, HE.out⟩⟩
    · have hfew' : ((pre.length : Int) == few) = false := by simpa using hfew
      clear hfew
      by_cases hk : pre.length < L
      · have hAs := HAA.out (by omega)
        subst hAs
        have cx := hfr.row pre.length hk
        unfold iv at cx
        obtain ⟨y, hy⟩ : ∃ y, y = gd (upB b 64) pre.length := ⟨_, rfl⟩
        rw [← hy] at cx
        by_cases hxy : x = y
        · have hne : ((x : Int) != (y : Int)) = false := by simp [hxy]
          have HP := Lib.hid (pre_step hp rfl (by rw [← HLL.out]; exact hk) (hxy.trans hy))
          have hk64 : (pre.length : Int) + 1 ≤ 100 := by have := HL64.out; omega
          clear hp hfr hB hy hxy n1 n2 n3 n4 n5
          generalize hL' : pre.length = k at *
          gi_wp2
          exact ⟨KeepsOthers.setCell _ _ _, Kb.set (by simpa using HNX.out) _, HP.out, HST.out⟩
        · have hne : ((x : Int) != (y : Int)) = true := by simp only [bne_iff_ne, ne_eq]; omega
          have HP := Lib.hid (pre_not (l := upB b 64) (pre := pre) (x := x) rfl (.inr (by rw [← hy]; exact hxy)))
          clear hp hfr hB hy hxy n1 n2 n3 n4 n5 HST
          generalize hL' : pre.length = k at *
          gi_wp2
          exact ⟨KeepsOthers.setCell _ _ _, .inr ⟨rfl, HP.out⟩⟩
      · have hk' : L ≤ pre.length := by omega
        have HP := Lib.hid (pre_not (l := upB b 64) (pre := pre) (x := x) rfl (.inl (by rw [← HLL.out]; exact hk')))
        clear hp hfr hB n1 n2 n3 n4 n5 HST
        generalize hL' : pre.length = k at *
        gi_wp2
        exact ⟨KeepsOthers.setCell _ _ _, .inr ⟨rfl, HP.out⟩⟩
  case done =>
    rintro D ys W hD rfl ⟨_, hfr, hcn, hcf, hB⟩ hK
    have H := Lib.hid (HREST.out D W hD hfr ⟨_, hcn⟩ hcf hB hK)
    clear hfr hcn hcf hB hK
    exact H.out
  case stop =>
    rintro D c pre W hD hpre hx hK
    rcases hx with ⟨rfl, hfr, hk, hcf, hB⟩ | ⟨_, hnp⟩
    · have H := Lib.hid (HREST.out D W hD hfr hk hcf hB hK)
      clear hfr hk hcf hB hK
      gi_wp2
      exact H.out
    · exact absurd hpre hnp
end Go.Proofs.Ytabmafndcoebpaa
