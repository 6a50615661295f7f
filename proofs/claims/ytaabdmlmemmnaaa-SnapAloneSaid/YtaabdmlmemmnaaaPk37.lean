/- Texts of this claim, packed: SnTr. -/
import Derived.Test.YtaabdmlmemmnaaaPk21
import Derived.Test.YtaabdmlmemmnaaaPk27
import Derived.Test.YtaabdmlmemmnaaaPk32
import Derived.Test.YtaabdmlmemmnaaaPk30
import Derived.Laws.Rows
/- A node without what stands behind its entries: Trim of the document, and of the law; no conditions. -/
namespace Go.Proofs.Ytaabdmlmemmnaaa
open Go.RowKit
set_option linter.unusedVariables false
attribute [local go_sem] Oper.semAt_some
/-- A node that has the first a keys and the first b pointers, noughts behind. -/
def Nd.tr (n : Nd) (a b : Nat) : Nd := ⟨n.l, n.lo, n.nx, n.ct, n.fi, if 0 < a then n.k0 else 0, if 1 < a then n.k1 else 0, if 2 < a then n.k2 else 0, if 3 < a then n.k3 else 0, if 4 < a then n.k4 else 0, if 5 < a then n.k5 else 0, if 6 < a then n.k6 else 0, if 7 < a then n.k7 else 0, if 0 < b then n.p0 else 0, if 1 < b then n.p1 else 0, if 2 < b then n.p2 else 0, if 3 < b then n.p3 else 0, if 4 < b then n.p4 else 0, if 5 < b then n.p5 else 0, if 6 < b then n.p6 else 0, if 7 < b then n.p7 else 0⟩
theorem Nd.tr_key (n : Nd) (a b : Nat) {i : Nat} (hi : i < 8) : (n.tr a b).key i = if i < a then n.key i else 0 := by
  rcases lt8 hi with rfl | rfl | rfl | rfl | rfl | rfl | rfl | rfl <;> rfl
theorem Nd.tr_ptr (n : Nd) (a b : Nat) {i : Nat} (hi : i < 8) : (n.tr a b).ptr i = if i < b then n.ptr i else 0 := by
  rcases lt8 hi with rfl | rfl | rfl | rfl | rfl | rfl | rfl | rfl <;> rfl
/-- The words ahead of the entries. -/
def Nd.hd (n : Nd) : Int × Int × Int × Int × Int := (n.l, n.lo, n.nx, n.ct, n.fi)
theorem Nd.ext_of {n m : Nd} (h : n.hd = m.hd) (hk : ∀ i, i < 8 → n.key i = m.key i) (hp : ∀ i, i < 8 → n.ptr i = m.ptr i) : n = m := by
  obtain ⟨l, lo, nx, ct, fi, k0, k1, k2, k3, k4, k5, k6, k7, p0, p1, p2, p3, p4, p5, p6, p7⟩ := n
  obtain ⟨l', lo', nx', ct', fi', k0', k1', k2', k3', k4', k5', k6', k7', p0', p1', p2', p3', p4', p5', p6', p7'⟩ := m
  simp only [Nd.hd, Prod.mk.injEq] at h
  obtain ⟨rfl, rfl, rfl, rfl, rfl⟩ := h
  have a0 : k0 = k0' := hk 0 (by omega)
  have a1 : k1 = k1' := hk 1 (by omega)
  have a2 : k2 = k2' := hk 2 (by omega)
  have a3 : k3 = k3' := hk 3 (by omega)
  have a4 : k4 = k4' := hk 4 (by omega)
  have a5 : k5 = k5' := hk 5 (by omega)
  have a6 : k6 = k6' := hk 6 (by omega)
  have a7 : k7 = k7' := hk 7 (by omega)
  have b0 : p0 = p0' := hp 0 (by omega)
  have b1 : p1 = p1' := hp 1 (by omega)
  have b2 : p2 = p2' := hp 2 (by omega)
  have b3 : p3 = p3' := hp 3 (by omega)
  have b4 : p4 = p4' := hp 4 (by omega)
  have b5 : p5 = p5' := hp 5 (by omega)
  have b6 : p6 = p6' := hp 6 (by omega)
  have b7 : p7 = p7' := hp 7 (by omega)
  subst a0 a1 a2 a3 a4 a5 a6 a7 b0 b1 b2 b3 b4 b5 b6 b7
  rfl
/-- A key put. -/
def Nd.sk (n : Nd) (k : Nat) (v : Int) : Nd := match k with
  | 0 => { n with k0 := v } | 1 => { n with k1 := v } | 2 => { n with k2 := v } | 3 => { n with k3 := v } | 4 => { n with k4 := v } | 5 => { n with k5 := v } | 6 => { n with k6 := v } | _ => { n with k7 := v }
/-- A pointer put. -/
def Nd.sp (n : Nd) (k : Nat) (v : Int) : Nd := match k with
  | 0 => { n with p0 := v } | 1 => { n with p1 := v } | 2 => { n with p2 := v } | 3 => { n with p3 := v } | 4 => { n with p4 := v } | 5 => { n with p5 := v } | 6 => { n with p6 := v } | _ => { n with p7 := v }
theorem Nd.sk_cl (n : Nd) {k : Nat} (hk : k < 8) (v : Int) : n.cl.toArray.setIfInBounds (5 + k) (uw v) = (n.sk k v).cl.toArray := by
  rcases lt8 hk with rfl | rfl | rfl | rfl | rfl | rfl | rfl | rfl <;> rfl
theorem Nd.sp_cl (n : Nd) {k : Nat} (hk : k < 8) (v : Int) : n.cl.toArray.setIfInBounds (13 + k) (uw v) = (n.sp k v).cl.toArray := by
  rcases lt8 hk with rfl | rfl | rfl | rfl | rfl | rfl | rfl | rfl <;> rfl
theorem Nd.sk_hd (n : Nd) {k : Nat} (hk : k < 8) (v : Int) : (n.sk k v).hd = n.hd := by
  rcases lt8 hk with rfl | rfl | rfl | rfl | rfl | rfl | rfl | rfl <;> rfl
theorem Nd.sp_hd (n : Nd) {k : Nat} (hk : k < 8) (v : Int) : (n.sp k v).hd = n.hd := by
  rcases lt8 hk with rfl | rfl | rfl | rfl | rfl | rfl | rfl | rfl <;> rfl
theorem Nd.sk_key (n : Nd) {k i : Nat} (hk : k < 8) (hi : i < 8) (v : Int) : (n.sk k v).key i = if i = k then v else n.key i := by
  rcases lt8 hk with rfl | rfl | rfl | rfl | rfl | rfl | rfl | rfl <;> rcases lt8 hi with rfl | rfl | rfl | rfl | rfl | rfl | rfl | rfl <;> rfl
theorem Nd.sk_ptr (n : Nd) {k i : Nat} (hk : k < 8) (v : Int) : (n.sk k v).ptr i = n.ptr i := by
  rcases lt8 hk with rfl | rfl | rfl | rfl | rfl | rfl | rfl | rfl <;> rfl
theorem Nd.sp_ptr (n : Nd) {k i : Nat} (hk : k < 8) (hi : i < 8) (v : Int) : (n.sp k v).ptr i = if i = k then v else n.ptr i := by
  rcases lt8 hk with rfl | rfl | rfl | rfl | rfl | rfl | rfl | rfl <;> rcases lt8 hi with rfl | rfl | rfl | rfl | rfl | rfl | rfl | rfl <;> rfl
theorem Nd.sp_key (n : Nd) {k i : Nat} (hk : k < 8) (v : Int) : (n.sp k v).key i = n.key i := by
  rcases lt8 hk with rfl | rfl | rfl | rfl | rfl | rfl | rfl | rfl <;> rfl
theorem results_node1 {fn : Func} {p : Tmp} (h : fn.results = #[.cell p 27]) (tmps : Array Value) (w : World) (g : Nat) (n : Nd)
    (hp : tmps.getD p undef = .pointer (some ⟨g, 0, none⟩)) (hg : NdAt w g n) :
    (results fn tmps).run Try.prog w = .ok n.V w :=
  results_cell_row h tmps w g 27 n.cl.toArray _ _ hp hg Try.underlying27 rfl ndI
/-- What a trim's loop has done: of the keys from a place on, and of the pointers. -/
def TrK (n m : Nd) (i : Nat) : Prop := m.hd = n.hd ∧ (∀ j, j < 8 → m.ptr j = n.ptr j) ∧ ∀ j, j < 8 → m.key j = if n.len ≤ j ∧ j < i then 0 else n.key j
def TrP (n m : Nd) (i : Nat) : Prop := m.hd = n.hd ∧ (∀ j, j < 8 → m.key j = n.key j) ∧ ∀ j, j < 8 → m.ptr j = if n.len ≤ j ∧ j < i then 0 else n.ptr j
def TrB (n m : Nd) (i : Nat) : Prop := m.hd = n.hd ∧ (∀ j, j < 8 → m.key j = if n.len < j ∧ j < i then 0 else n.key j) ∧ ∀ j, j < 8 → m.ptr j = if n.len ≤ j then 0 else n.ptr j
theorem TrK.step {n m : Nd} {i : Nat} (h : TrK n m i) (hi : i < 8) (hl : n.len ≤ i) : TrK n (m.sk i 0) (i + 1) := by
  refine ⟨(m.sk_hd hi 0).trans h.1, fun j hj => (m.sk_ptr hi 0).trans (h.2.1 j hj), fun j hj => ?_⟩
  rw [m.sk_key hi hj, h.2.2 j hj]
  by_cases e : j = i
  · subst e; rw [if_pos rfl, if_pos ⟨hl, by omega⟩]
  · rw [if_neg e]
    by_cases h1 : n.len ≤ j ∧ j < i
    · rw [if_pos h1, if_pos ⟨h1.1, by omega⟩]
    · rw [if_neg h1, if_neg (by omega)]
theorem TrP.step {n m : Nd} {i : Nat} (h : TrP n m i) (hi : i < 8) (hl : n.len ≤ i) : TrP n (m.sp i 0) (i + 1) := by
  refine ⟨(m.sp_hd hi 0).trans h.1, fun j hj => (m.sp_key hi 0).trans (h.2.1 j hj), fun j hj => ?_⟩
  rw [m.sp_ptr hi hj, h.2.2 j hj]
  by_cases e : j = i
  · subst e; rw [if_pos rfl, if_pos ⟨hl, by omega⟩]
  · rw [if_neg e]
    by_cases h1 : n.len ≤ j ∧ j < i
    · rw [if_pos h1, if_pos ⟨h1.1, by omega⟩]
    · rw [if_neg h1, if_neg (by omega)]
theorem TrB.step {n m : Nd} {i : Nat} (h : TrB n m i) (hi : i < 8) (hl : n.len ≤ i) : TrB n (if n.len < i then (m.sp i 0).sk i 0 else m.sp i 0) (i + 1) := by
  have hp : ∀ j, j < 8 → (m.sp i 0).ptr j = if n.len ≤ j then 0 else n.ptr j := fun j hj => by
    rw [m.sp_ptr hi hj, h.2.2 j hj]
    by_cases e : j = i
    · subst e; rw [if_pos rfl, if_pos hl]
    · rw [if_neg e]
  by_cases hlt : n.len < i
  · rw [if_pos hlt]
    refine ⟨((m.sp i 0).sk_hd hi 0).trans ((m.sp_hd hi 0).trans h.1), fun j hj => ?_, fun j hj => ((m.sp i 0).sk_ptr hi 0).trans (hp j hj)⟩
    rw [(m.sp i 0).sk_key hi hj, m.sp_key hi, h.2.1 j hj]
    by_cases e : j = i
    · subst e; rw [if_pos rfl, if_pos ⟨hlt, by omega⟩]
    · rw [if_neg e]
      by_cases h1 : n.len < j ∧ j < i
      · rw [if_pos h1, if_pos ⟨h1.1, by omega⟩]
      · rw [if_neg h1, if_neg (by omega)]
  · rw [if_neg hlt]
    refine ⟨(m.sp_hd hi 0).trans h.1, fun j hj => ?_, hp⟩
    rw [m.sp_key hi, h.2.1 j hj]
    by_cases h1 : n.len < j ∧ j < i
    · omega
    · rw [if_neg h1, if_neg (by omega)]
/-- Behind the stores the node has as many entries as it had. -/
theorem len_same {n m : Nd} (h : ∀ j, j < 8 → m.ptr j = if n.len ≤ j then 0 else n.ptr j) : m.len = n.len := by
  refine m.len_eq n.len_le (fun i hi => ?_) (fun h8 => ?_)
  · have := n.len_le
    rw [h i (by omega), if_neg (by omega)]
    exact n.len_before hi
  · rw [h _ h8, if_pos (Nat.le_refl _)]
theorem TrP.len {n m : Nd} {i : Nat} (h : TrP n m i) : m.len = n.len := by
  refine m.len_eq n.len_le (fun j hj => ?_) (fun h8 => ?_)
  · have := n.len_le
    rw [h.2.2 j (by omega), if_neg (by omega)]
    exact n.len_before hj
  · rw [h.2.2 _ h8]
    split
    · rfl
    · exact n.len_at h8
theorem TrP.zero {n m : Nd} {i : Nat} (h : TrP n m i) (hi : i < 8) (hl : n.len < i) : m.ptr (i - 1) = 0 := by rw [h.2.2 _ (by omega), if_pos (by omega)]
set_option maxRecDepth 100000 in
set_option maxHeartbeats 3200000 in
theorem r11Trim_any (n : Nd) (w : World) : Calls Try.prog 39 #[n.V] w fun e w' => e = .returned (n.tr (n.len + 1) n.len).V ∧ Below w.heap.size w w' := by
  have hlen8 := n.len_le
  have rx := Row.new w 27 n.cl.toArray
  have ry := Row.new (w.alloc (.cells n.cl.toArray 27)) 27 zeroNd.cl.toArray
  simp only [World.size_alloc] at ry
  obtain ⟨W1, hW1⟩ : ∃ W1, W1 = (w.alloc (.cells n.cl.toArray 27)).alloc (.cells #[.int .i64 0, .int .u64 0, .int .u64 0, .int .u64 0, .int .u64 0, .int .u64 0, .int .u64 0, .int .u64 0, .int .u64 0, .int .u64 0, .int .u64 0, .int .u64 0, .int .u64 0, .int .u64 0, .int .u64 0, .int .u64 0, .int .u64 0, .int .u64 0, .int .u64 0, .int .u64 0, .int .u64 0] 27) := ⟨_, rfl⟩
  have HB1 := Lib.hid (show Below w.heap.size w W1 by rw [hW1]; exact low_and (alloc_low _ _) (alloc_low _ _))
  have R0 := Lib.hid (show NdAt W1 w.heap.size n by rw [hW1]; exact rx.alloc _)
  have R1 := Lib.hid (show NdAt W1 (w.heap.size + 1) zeroNd by rw [hW1]; exact ry)
  have HS1 := Lib.hid (show w.heap.size + 2 ≤ W1.heap.size by rw [hW1]; simp)
  have HW1 := Lib.hid hW1
  have HL1 := Lib.hid (r8Len_any n W1)
  obtain ⟨k0, hk0⟩ : ∃ k0, k0 = n.len := ⟨_, rfl⟩
  rw [← hk0] at hlen8 HL1 ⊢
  have HK0 := Lib.hid hk0
  clear hW1 rx ry hk0
  go_enter Try.func39, Try.ntmps39
  go_wp2_with (first
    | (rw [← HW1.out]; refine wpList_load_mid rfl _ _ rfl w.heap.size 0 rfl n.cl _ (ndR R0.out) Try.underlying27 rfl ndI ?_)
    | (refine HL1.out.mono ?_; rintro e w2 ⟨rfl, hb2⟩; have HB2 := Lib.hid hb2; clear hb2))
  have hsz2 := HB2.out.size
  have hsz1 := HS1.out
  go_loopw [3] (fun i wr => ∃ (k : Nat) (m : Nd), k0 ≤ k ∧ k ≤ 8 ∧ i = .int .i64 (k : Int) ∧ NdAt wr w.heap.size m ∧ NdAt wr (w.heap.size + 1) zeroNd ∧ TrP n m k ∧ Below w.heap.size w wr ∧ w.heap.size + 2 ≤ wr.heap.size) (fun i _ => 8 - (intOf i).toNat)
  case atStart => exact ⟨k0, n, Nat.le_refl _, hlen8, rfl, R0.out.below HB2.out R0.out.lt, R1.out.below HB2.out R1.out.lt, ⟨rfl, fun _ _ => rfl, fun j _ => by rw [if_neg (by have := HK0.out; omega)]⟩, low_and HB1.out HB2.out, by omega⟩
  case round =>
    rename World => wr
    obtain ⟨k, m, hk0, hk8, rfl, h0, h1, ht, hb, hsz⟩ := hrel
    by_cases hlt : k < 8
    · have c13 := ndAt_ptr h0 hlt
      have f13 := h0.free (13 + k)
      have HST := Lib.hid (ht.step hlt (by rw [← HK0.out]; exact hk0))
      have H0 := Lib.hid h0
      have H1 := Lib.hid h1
      have HB := Lib.hid hb
      have HT := Lib.hid ht
      by_cases he : k = k0
      · have HL := Lib.hid (r8Len_any m wr)
        rw [ht.len, ← HK0.out] at HL
        have hkk : ((k : Int) == (k0 : Int)) = true := by rw [beq_iff_eq]; omega
        by_cases hz : 0 < k
        · have hpm : m.ptr (k - 1) ≠ 0 := by
            rw [ht.2.2 _ (by omega), if_neg (by have := HK0.out; omega)]
            exact n.len_before (by have := HK0.out; omega)
          have c12 := ndAt_ptr h0 (i := k - 1) (by omega)
          have hx0 : (m.ptr (k - 1) == 0) = false := by simpa using hpm
          obtain ⟨x, hx⟩ : ∃ x, x = m.ptr (k - 1) := ⟨_, rfl⟩
          rw [← hx] at c12 hx0
          have hd0 : decide (0 < (k : Int)) = true := by rw [decide_eq_true_eq]; omega
          have HB3 := Lib.hid (show ∀ W, Below wr.heap.size wr W → NdAt W w.heap.size m ∧ NdAt W (w.heap.size + 1) zeroNd ∧ Below w.heap.size w W ∧ w.heap.size + 2 ≤ W.heap.size from fun W hW => ⟨H0.out.below hW H0.out.lt, H1.out.below hW H1.out.lt, low_and HB.out hW, by have := hW.size; omega⟩)
          clear hx hpm ht h0 h1 hb f13 c13 he
          go_wp2_with (first
            | (refine wpList_load_midg (by rfl) _ _ rfl w.heap.size 0 rfl m.cl _ (ndR H0.out) Try.underlying27 rfl ndI ?_)
            | (refine HL.out.mono ?_; rintro e w3 ⟨rfl, hb3⟩; obtain ⟨g0, g1, gb, gs⟩ := HB3.out _ hb3; have f13 := g0.free (13 + k); have c13 := ndAt_ptr g0 hlt; have G0 := Lib.hid g0; have G1 := Lib.hid g1; have GB := Lib.hid gb; have GS := Lib.hid gs; clear hb3 g0 g1 gb gs))
          refine ⟨⟨k + 1, m.sp k 0, by omega, by omega, by go_num, ?_, G1.out.other (p := ⟨w.heap.size, 13 + k, none⟩) (by dsimp only; omega) _, HST.out, ?_, by simpa using GS.out⟩, by simp [intOf]; omega⟩
          · have := G0.out.set (13 + k) (uw 0)
            rw [m.sp_cl hlt] at this
            exact this
          · have := GB.out.setCell (p := ⟨w.heap.size, 13 + k, none⟩) (Nat.le_refl _) (.int .u64 0)
            exact ⟨this.os, this.tape, this.output, this.size, this.block⟩
        · have hd0 : decide (0 < (k : Int)) = false := by rw [decide_eq_false_iff_not]; omega
          have hd1 : decide (0 < k) = false := by rw [decide_eq_false_iff_not]; omega
          have HB3 := Lib.hid (show ∀ W, Below wr.heap.size wr W → NdAt W w.heap.size m ∧ NdAt W (w.heap.size + 1) zeroNd ∧ Below w.heap.size w W ∧ w.heap.size + 2 ≤ W.heap.size from fun W hW => ⟨H0.out.below hW H0.out.lt, H1.out.below hW H1.out.lt, low_and HB.out hW, by have := hW.size; omega⟩)
          clear ht h0 h1 hb f13 c13 he
          go_wp2_with (first
            | (refine wpList_load_midg (by rfl) _ _ rfl w.heap.size 0 rfl m.cl _ (ndR H0.out) Try.underlying27 rfl ndI ?_)
            | (refine HL.out.mono ?_; rintro e w3 ⟨rfl, hb3⟩; obtain ⟨g0, g1, gb, gs⟩ := HB3.out _ hb3; have f13 := g0.free (13 + k); have c13 := ndAt_ptr g0 hlt; have G0 := Lib.hid g0; have G1 := Lib.hid g1; have GB := Lib.hid gb; have GS := Lib.hid gs; clear hb3 g0 g1 gb gs))
          refine ⟨⟨k + 1, m.sp k 0, by omega, by omega, by go_num, ?_, G1.out.other (p := ⟨w.heap.size, 13 + k, none⟩) (by dsimp only; omega) _, HST.out, ?_, by simpa using GS.out⟩, by simp [intOf]; omega⟩
          · have := G0.out.set (13 + k) (uw 0)
            rw [m.sp_cl hlt] at this
            exact this
          · have := GB.out.setCell (p := ⟨w.heap.size, 13 + k, none⟩) (Nat.le_refl _) (.int .u64 0)
            exact ⟨this.os, this.tape, this.output, this.size, this.block⟩
      · have hpz := ht.zero hlt (by have := HK0.out; omega)
        have c12 := ndAt_ptr h0 (i := k - 1) (by omega)
        rw [hpz] at c12
        have hd0 : decide (0 < (k : Int)) = true := by rw [decide_eq_true_eq]; omega
        have hz : 0 < k := by omega
        clear hpz ht h0 h1 hb he
        go_wp2
        refine ⟨⟨k + 1, m.sp k 0, by omega, by omega, by go_num, ?_, H1.out.other (p := ⟨w.heap.size, 13 + k, none⟩) (by dsimp only; omega) _, HST.out, ?_, by simpa using hsz⟩, by simp [intOf]; omega⟩
        · have := H0.out.set (13 + k) (uw 0)
          rw [m.sp_cl hlt] at this
          exact this
        · have := HB.out.setCell (p := ⟨w.heap.size, 13 + k, none⟩) (Nat.le_refl _) (.int .u64 0)
          exact ⟨this.os, this.tape, this.output, this.size, this.block⟩
    · obtain rfl : k = 8 := by omega
      have HT := Lib.hid ht
      have H0 := Lib.hid h0
      have H1 := Lib.hid h1
      have HB := Lib.hid hb
      have HL := Lib.hid (r8Len_any m wr)
      rw [ht.len, ← HK0.out] at HL
      clear ht h0 h1 hb hlt
      go_wp2_with (first
        | (refine wpList_load_mid rfl _ _ rfl w.heap.size 0 rfl m.cl _ (ndR H0.out) Try.underlying27 rfl ndI ?_)
        | (refine HL.out.mono ?_; rintro e w3 ⟨rfl, hb3⟩; have HB3 := Lib.hid hb3; clear hb3))
      have hsz3 := HB3.out.size
      have HK00 := Lib.hid hk0
      clear hk0 hk8 hlen8
      have hlen8 := HK0.out ▸ n.len_le
      go_loopw [5] (fun i wq => ∃ (k : Nat) (m : Nd), k0 ≤ k ∧ k ≤ 8 ∧ i = .int .i64 (k : Int) ∧ NdAt wq w.heap.size m ∧ NdAt wq (w.heap.size + 1) zeroNd ∧ TrB n m k ∧ Below w.heap.size w wq ∧ w.heap.size + 2 ≤ wq.heap.size) (fun i _ => 8 - (intOf i).toNat)
      case atStart => exact ⟨k0, m, Nat.le_refl _, hlen8, rfl, H0.out.below HB3.out H0.out.lt, H1.out.below HB3.out H1.out.lt, ⟨HT.out.1, fun j hj => by rw [HT.out.2.1 j hj, if_neg (by have := HK0.out; omega)], fun j hj => by rw [HT.out.2.2 j hj]; simp only [hj, and_true]⟩, low_and HB.out HB3.out, by omega⟩
      case round =>
        rename World => wq
        obtain ⟨k, m2, hk0, hk8, rfl, h0, h1, ht, hb, hsz⟩ := hrel
        have H0 := Lib.hid h0
        have H1 := Lib.hid h1
        have HB := Lib.hid hb
        have HT := Lib.hid ht
        by_cases hlt : k < 8
        · have c13 := ndAt_ptr h0 hlt
          have f13 := h0.free (13 + k)
          have c5 : ∀ u, (wq.setCell ⟨w.heap.size, 13 + k, none⟩ u).cell? ⟨w.heap.size, 5 + k, none⟩ = some (.int .u64 (m2.key k)) := fun u => by
            rw [World.cell?_setCell_other _ _ _ _ (by simp)]
            exact ndAt_key h0 hlt
          have f5 := h0.free (5 + k)
          have HST := Lib.hid (ht.step hlt (by rw [← HK0.out]; exact hk0))
          rw [← HK0.out] at HST
          have hsp := H0.out.set (13 + k) (uw 0)
          rw [m2.sp_cl hlt] at hsp
          have HSP := Lib.hid hsp
          have HB2 := Lib.hid (hb.setCell (p := ⟨w.heap.size, 13 + k, none⟩) (Nat.le_refl _) (.int .u64 0))
          have H12 := Lib.hid (h1.other (p := ⟨w.heap.size, 13 + k, none⟩) (by dsimp only; omega) (.int .u64 0))
          clear h0 h1 ht hb hsp
          by_cases hg : k0 < k
          · have hd0 : decide ((k0 : Int) < (k : Int)) = true := by rw [decide_eq_true_eq]; omega
            have hd1 : decide (k0 < k) = true := by rw [decide_eq_true_eq]; omega
            rw [if_pos hg] at HST
            go_wp2
            refine ⟨⟨k + 1, (m2.sp k 0).sk k 0, by omega, by omega, by go_num, ?_, H12.out.other (p := ⟨w.heap.size, 5 + k, none⟩) (by dsimp only; omega) _, HST.out, ?_, by simpa using hsz⟩, by simp [intOf]; omega⟩
            · have := HSP.out.set (5 + k) (uw 0)
              rw [(m2.sp k 0).sk_cl hlt] at this
              exact this
            · have := HB2.out.setCell (p := ⟨w.heap.size, 5 + k, none⟩) (Nat.le_refl _) (.int .u64 0)
              exact ⟨this.os, this.tape, this.output, this.size, this.block⟩
          · have hd0 : decide ((k0 : Int) < (k : Int)) = false := by rw [decide_eq_false_iff_not]; omega
            have hd1 : decide (k0 < k) = false := by rw [decide_eq_false_iff_not]; omega
            rw [if_neg hg] at HST
            go_wp2
            refine ⟨⟨k + 1, m2.sp k 0, by omega, by omega, by go_num, HSP.out, H12.out, HST.out, ?_, by simpa using hsz⟩, by simp [intOf]; omega⟩
            have := HB2.out
            exact ⟨this.os, this.tape, this.output, this.size, this.block⟩
        · obtain rfl : k = 8 := by omega
          clear h0 h1 ht hb hlt
          go_wp2_with (first
            | (refine wpList_load_mid rfl _ _ rfl w.heap.size 0 rfl m2.cl _ (ndR H0.out) Try.underlying27 rfl ndI ?_)
            | (refine wpList_store_row rfl _ _ _ rfl (w.heap.size + 1) m2.cl rfl rfl H1.out rfl ndI (cl_one _) ?_))
          refine bodyPost_ret (results_node1 rfl _ _ (w.heap.size + 1) m2 rfl (row_setCells H1.out rfl)) rfl ⟨?_, setCells_low _ (by omega) HB.out⟩
          have : m2 = n.tr (k0 + 1) k0 := Nd.ext_of HT.out.1 (fun i hi => by
            rw [HT.out.2.1 i hi, n.tr_key _ _ hi]
            have := HK0.out
            by_cases h : i < k0 + 1
            · rw [if_pos h, if_neg (by omega)]
            · rw [if_neg h, if_pos (by omega)]) (fun i hi => by
            rw [HT.out.2.2 i hi, n.tr_ptr _ _ hi]
            have := HK0.out
            by_cases h : i < k0
            · rw [if_pos h, if_neg (by omega)]
            · rw [if_neg h, if_pos (by omega)])
          rw [this]
end Go.Proofs.Ytaabdmlmemmnaaa
