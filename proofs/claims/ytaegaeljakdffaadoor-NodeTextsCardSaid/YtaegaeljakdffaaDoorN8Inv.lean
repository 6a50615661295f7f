/- Invalid: the first place of an entry that is not valid; of any node; without conditions. -/
import Derived.Test.YtaegaeljakdffaaDoorN8It
import Derived.Test.YtaegaeljakdffaaDoorQLoad
namespace Go.Proofs.YtaegaeljakdffaaDoor
open Go.RowKit Go.Shelf
set_option linter.unusedVariables false
attribute [local go_sem] Oper.semAt_some

/-- The first place of an entry that is not valid. -/
def Nd.inv (n : Nd) : Int := match (List.range n.len).find? (fun i => !n.ok i) with | some i => (i : Int) | none => -1
theorem Nd.inv_at (n : Nd) {m : Nat} (hm : m < n.len) (hno : n.ok m = false) (hall : ∀ i, i < m → n.ok i = true) : n.inv = (m : Int) := by
  have : (List.range n.len).find? (fun i => !n.ok i) = some m := by
    rw [List.find?_range_eq_some]
    exact ⟨by simp [hno], by simpa using hm, fun j hj => by simp [hall j hj]⟩
  unfold Nd.inv
  rw [this]
theorem Nd.inv_none (n : Nd) (hall : ∀ i, i < n.len → n.ok i = true) : n.inv = -1 := by
  have : (List.range n.len).find? (fun i => !n.ok i) = none := by
    rw [List.find?_range_eq_none]
    exact fun j hj => by simp [hall j hj]
  unfold Nd.inv
  rw [this]
theorem Nd.vp_sorted (n : Nd) : n.vp.Pairwise (· < ·) := List.pairwise_lt_range.filter _
theorem Nd.mem_vp (n : Nd) {p : Nat} : p ∈ n.vp ↔ p < n.len ∧ n.ok p = true := by simp [Nd.vp, Nd.vpTo]
theorem inv_stop {n : Nd} {m p : Nat} (h : List.range m ++ [p] <+: n.vp) (hp : p ≠ m) : n.inv = (m : Int) := by
  obtain ⟨r, hr⟩ := h
  have hs := n.vp_sorted
  rw [← hr, List.append_assoc, List.pairwise_append] at hs
  obtain ⟨_, hs2, hs3⟩ := hs
  have hpv := (n.mem_vp (p := p)).1 (by rw [← hr]; simp)
  have hall : ∀ i, i < m → n.ok i = true := fun i hi => ((n.mem_vp (p := i)).1 (by rw [← hr]; simp [hi])).2
  have hpm : m < p := by
    by_cases e : p < m
    · exact absurd (hs3 p (by simpa using e) p (by simp)) (by omega)
    · omega
  refine n.inv_at (by omega) ?_ hall
  by_cases e : n.ok m = true
  · have hm : m ∈ n.vp := n.mem_vp.2 ⟨by omega, e⟩
    rw [← hr, List.append_assoc, List.mem_append] at hm
    rcases hm with hm | hm
    · simp at hm
    · rcases List.mem_cons.1 hm with hm | hm
      · omega
      · have := (List.pairwise_cons.1 hs2).1 m hm
        omega
  · simpa using e
theorem inv_done {n : Nd} {m : Nat} (h : n.vp = List.range m) : (m < n.len → n.inv = (m : Int)) ∧ (n.len ≤ m → n.inv = -1) := by
  have hm : ∀ i, i < m ↔ (i < n.len ∧ n.ok i = true) := fun i => by rw [← n.mem_vp, h]; simp
  constructor
  · intro hl
    refine n.inv_at hl ?_ fun i hi => ((hm i).1 hi).2
    by_cases e : n.ok m = true
    · exact absurd ((hm m).2 ⟨hl, e⟩) (by omega)
    · simpa using e
  · intro hl
    exact n.inv_none fun i hi => ((hm i).1 (by omega)).2
set_option maxRecDepth 100000 in
set_option maxHeartbeats 4000000 in
theorem nInv_any (n : Nd) (w : World) : Calls Tryd.prog 20 #[n.V] w fun e W' => e = .returned (.int .i64 n.inv) ∧ Below w.heap.size w W' := by
  obtain ⟨Wx, hWx⟩ : ∃ Wx, Wx = ((w.alloc (.cells n.cl.toArray 27)).alloc (.cells #[.int .i64 0] 3)).alloc (.cells #[.int .i64 0] 3) := ⟨_, rfl⟩
  have hsx : Wx.heap.size = w.heap.size + 3 := by rw [hWx]; simp
  have hbx : Below w.heap.size w Wx := by rw [hWx]; exact low_and (low_and (alloc_low _ _) (alloc_low _ _)) (alloc_low _ _)
  have r0 : NdAt Wx w.heap.size n := by rw [hWx]; exact ((Row.new _ _ _).alloc _).alloc _
  have r1 : Row Wx (w.heap.size + 1) 3 #[.int .i64 0] := by
    rw [hWx]
    have := Row.new (w.alloc (.cells n.cl.toArray 27)) 3 #[.int .i64 0]
    simp only [World.size_alloc] at this
    exact this.alloc _
  have r2 : Row Wx (w.heap.size + 1 + 1) 3 #[.int .i64 0] := by
    rw [hWx]
    have := Row.new ((w.alloc (.cells n.cl.toArray 27)).alloc (.cells #[.int .i64 0] 3)) 3 #[.int .i64 0]
    simpa only [World.size_alloc] using this
  have HWx := Lib.hid hWx
  have HR0 := Lib.hid r0
  clear hWx
  refine (callsIn_wide (n := 6)).1 ?_
  refine callsIn_of_wp_marks Tryd.func20 rfl trivial ?_ rfl
  simp only [Tryd.ntmps20, List.size_toArray, List.length_cons, List.length_nil, Nat.reduceAdd, Nat.reduceSub, Array.replicate_succ, Array.replicate_zero, List.push_toArray, List.append_toArray, List.nil_append, List.cons_append]
  gi_wp2_with (first | (rw [← HWx.out]; refine wpListIn_load_mid (fun _ => trivial) rfl _ _ rfl w.heap.size 0 rfl n.cl _ (ndR HR0.out) Tryd.underlying27 rfl ndI ?_) | (refine ⟨trivial, ?_⟩; gi_at_call 10; refine (callsIn_wide.2 (valid_any n _)).mono ?_; rintro e w' ⟨rfl, rfl⟩))
  obtain ⟨W0, hW0⟩ : ∃ W0, W0 = Wx.alloc (.cells n.cl.toArray 27) := ⟨_, rfl⟩
  have h4 : NdAt W0 (w.heap.size + 3) n := by
    rw [hW0]
    have := Row.new Wx 27 n.cl.toArray
    rwa [hsx] at this
  have hb0 : Below Wx.heap.size Wx W0 := by rw [hW0]; exact alloc_low _ _
  have hs0 : W0.heap.size = w.heap.size + 4 := by rw [hW0]; simp [hsx]
  have f0 := Row.below r0 hb0 r0.lt
  have f1 := Row.below r1 hb0 r1.lt
  have f2 := Row.below r2 hb0 r2.lt
  have hbW : Below w.heap.size w W0 := low_and hbx hb0
  rw [← hW0]
  have FB := Lib.hid hbW
  clear hW0 r1 r2 hb0 hbx HWx HR0 hbW hsx r0
  refine range_Q rfl (by omega) (gf := 23) (lb := #[.pointer (some ⟨w.heap.size + 3, 0, none⟩)]) rfl trivial (enters_of Tryd.func23 (by kernel_rfl) rfl) (bx := w.heap.size + 3) (by omega) (valid1_seq h4) (fun _ => rfl)
    (fun q pre W => w.heap.size + 4 ≤ q ∧ w.heap.size + 4 ≤ W.heap.size ∧ NdAt W w.heap.size n ∧ Row W (w.heap.size + 1) 3 #[.int .i64 0] ∧ Row W (w.heap.size + 1 + 1) 3 #[.int .i64 (pre.length : Int)] ∧ pre = List.range pre.length ∧ Below w.heap.size w W)
    (fun pre W => ∃ (m p : Nat), pre = List.range m ++ [p] ∧ p ≠ m ∧ W.cell? ⟨w.heap.size + 1, 0, none⟩ = some (.int .i64 (m : Int)) ∧ Below w.heap.size w W)
    (fun q s A B row hs hg hr => ⟨hs.1, Nat.le_trans hs.2.1 hg.size, hs.2.2.1.grown hg (fun e => by have := (hr _ e.symm).1; omega), hs.2.2.2.1.grown hg (fun e => by have := (hr _ e.symm).1; omega), hs.2.2.2.2.1.grown hg (fun e => by have := (hr _ e.symm).1; omega), hs.2.2.2.2.2.1, hs.2.2.2.2.2.2.grown hg hs.2.2.2.2.2.2.size (fun k e => by have := (hr k e).1; omega)⟩)
    (fun s A B row hs hg hr => by
      obtain ⟨m, p, a1, a2, a3, a4⟩ := hs
      exact ⟨m, p, a1, a2, cell_kept a3 hg (fun r e => (hr r e).2), a4.grown hg a4.size (fun k e => by have := (hr k e).1; omega)⟩)
    ⟨by omega, by omega, f0, f1, f2, rfl, FB.out⟩
    (fun x V => { tmps := #[n.V, .pointer (some ⟨w.heap.size, 0, none⟩), .pointer (some ⟨w.heap.size + 1, 0, none⟩), .pointer (some ⟨w.heap.size + 1 + 1, 0, none⟩), .int .i64 (x : Int), .agg n.cl.toArray, .func (.func 23) #[] #[.pointer (some ⟨w.heap.size + 3, 0, none⟩)], .int .i64 (x : Int), .agg #[.int .u64 (n.key x), .int .u64 (n.ptr x)], undef, undef, undef, undef, undef, undef, undef, undef, undef, undef, undef], defers := [] })
    (fun x V => V) (fun x V => Below.refl _ _) ?assign ?body ?done ?stop
  case assign =>
    intro l x W K hK
    dsimp only [enc8N]
    gi_wp2
    exact hK
  case body =>
    rintro l q r pre x V W hx8 ⟨hq4, hWs, g0, g1, g2, hpre, hB⟩ hqr hrV hsz hcells hlen
    obtain ⟨m, hm⟩ : ∃ m, m = pre.length := ⟨_, rfl⟩
    rw [← hm] at g2 hpre hlen
    have c1 := g1.cell 0
    have c2 := g2.cell 0
    have z1 := g1.free 0
    have z2 := g2.free 0
    simp only [List.getElem?_toArray, List.getElem?_cons_zero] at c1 c2
    have G0 := Lib.hid g0
    have G1 := Lib.hid g1
    have G2 := Lib.hid g2
    have HB := Lib.hid hB
    have HP := Lib.hid hpre
    have HM := Lib.hid hm
    clear g0 g1 g2 hB hpre hm hcells h4 f0 f1 f2
    obtain rfl | hne : x = m ∨ x ≠ m := by omega
    · gi_wp2
      refine ⟨KeepsOthers.setCell _ _ _, heap_setCell_other _ _ _ _ (by dsimp only; omega), fun o _ ho => (heap_setCell_other _ _ _ _ (by dsimp only; omega)).trans ho, W.heap.size, by simp, by omega, by simpa using hWs, G0.out.other (by dsimp only; omega) _, G1.out.other (by dsimp only; omega) _, ?_, ?_, HB.out.setCell (p := ⟨w.heap.size + 1 + 1, 0, none⟩) (by simp; omega) _⟩
      · have := G2.out.set 0 (.int .i64 ((x : Int) + 1))
        rw [List.length_append, List.length_singleton, ← HM.out]
        simpa using this
      · rw [List.length_append, List.length_singleton, ← HM.out, List.range_succ, ← HP.out]
    · have hne' : ((x : Int) != (m : Int)) = true := by simp; omega
      gi_wp2
      refine ⟨KeepsOthers.setCell _ _ _, m, x, by rw [HP.out], hne, ?_, HB.out.setCell (p := ⟨w.heap.size + 1, 0, none⟩) (by simp) _⟩
      exact (G1.out.set 0 (.int .i64 (m : Int))).cell 0
  case done =>
    rintro D q xs W hD hxs ⟨hq4, hWs, g0, g1, g2, hpre, hB⟩ hK
    obtain ⟨m, hm⟩ : ∃ m, m = xs.length := ⟨_, rfl⟩
    rw [← hm] at g2 hpre
    have HI := Lib.hid (inv_done (n := n) (m := m) (by rw [← hxs]; exact hpre))
    have HLn := Lib.hid (nlen_any n W)
    have c1 := g1.cell 0
    have c2 := g2.cell 0
    have z1 := g1.free 0
    have z2 := g2.free 0
    simp only [List.getElem?_toArray, List.getElem?_cons_zero] at c1 c2
    have G0 := Lib.hid g0
    have G1 := Lib.hid g1
    have HB := Lib.hid hB
    have hm8 : m ≤ 8 := by have := n.vp_length; rw [hm, hxs]; exact this
    have hl8 := n.len_le
    have z2' : ∀ p : LowBy W, p.W.cell? ⟨w.heap.size + 1 + 1, 0, none⟩ = some (.int .i64 (m : Int)) := fun p => p.cell c2
    have hR := Lib.hid (fun (w' : World) (h : ∃ p : LowBy W, w' = p.W) => (show w'.rangeAt w.heap.size 0 n.cl by obtain ⟨p, rfl⟩ := h; exact ndR (G0.out.below p.low G0.out.lt)))
    have hC := Lib.hid (fun (p : LowBy W) => Calls.low_of (nlen_any n p.W))
    clear g0 g1 g2 hB hpre hm hxs h4 f0 f1 f2
    gi_wp2
    refine wpIn_wide.2 ?_
    refine wp_region_quiet_low (by kernel_rfl) (by kernel_rfl) ?_
    repeat (first | go_big_quiet_skip | (go_big_quiet_want; first | (refine quiet_load_mid 27 _ rfl w.heap.size 0 rfl n.cl _ hR.out Tryd.underlying27 rfl ndI ?_; simp only [Act.put, List.setIfInBounds_toArray, List.set_cons_succ, List.set_cons_zero]; go_big_quiet_on) | (go_big_quiet_op; first | go_big_quiet_on | go_big_quiet_call ((go_at_call 16; with_reducible exact hC.out _)))))
    refine wpQuiet_nil ?_
    intro _ hw'
    obtain ⟨p, hw''⟩ := hw'
    subst hw''
    have r1 := G1.out.below p.low G1.out.lt
    have c2 := p.cell c2
    have c1 := r1.cell 0
    have z1 := r1.free 0
    have hKp : p.W.heap[D]? = some (.deferred (some [])) := (p.low.block _ (Array.getElem?_eq_some_iff.1 hK).1).trans hK
    have HBp := Lib.hid (HB.out.trans (p.low.mono (show w.heap.size ≤ W.heap.size by omega)))
    have R1 := Lib.hid r1
    simp only [List.getElem?_toArray, List.getElem?_cons_zero] at c1
    clear r1 hK z2' hR hC HLn z2
    generalize p.W = Wp at *
    obtain hlt | hge : (m : Int) < (n.len : Int) ∨ ¬ (m : Int) < (n.len : Int) := by omega
    · have HE := Lib.hid (HI.out.1 (by omega))
      gi_wp2
      have hK' := (KeepsOthers.setCell Wp ⟨w.heap.size + 1, 0, none⟩ (.int .i64 (m : Int))).same D _ hKp rfl
      refine ⟨by simp, .inl ⟨_, _, rfl, run_takeDeferred hK', ?_⟩⟩
      have h0 := cell_kept ((R1.out.set 0 (.int .i64 (m : Int))).cell 0) (grownBy_putObj' _ D (.deferred none)) (fun r e => by cases e; exact ⟨_, hK', rfl⟩)
      refine ⟨.int .i64 (m : Int), ?_, by rw [HE.out], (HBp.out.setCell (p := ⟨w.heap.size + 1, 0, none⟩) (by dsimp only; omega) _).trans (belowK_b (w := w) (Nat.le_refl _) _ D _ _ (by omega) hK' rfl rfl)⟩
      simp [results, Tryd.f20, go_sem, h0]
    · have HE := Lib.hid (HI.out.2 (by omega))
      gi_wp2
      have hK' := (KeepsOthers.setCell Wp ⟨w.heap.size + 1, 0, none⟩ (.int .i64 (-1))).same D _ hKp rfl
      refine ⟨by simp, .inl ⟨_, _, rfl, run_takeDeferred hK', ?_⟩⟩
      have h0 := cell_kept ((R1.out.set 0 (.int .i64 (-1))).cell 0) (grownBy_putObj' _ D (.deferred none)) (fun r e => by cases e; exact ⟨_, hK', rfl⟩)
      refine ⟨.int .i64 (-1), ?_, by rw [HE.out], (HBp.out.setCell (p := ⟨w.heap.size + 1, 0, none⟩) (by dsimp only; omega) _).trans (belowK_b (w := w) (Nat.le_refl _) _ D _ _ (by omega) hK' rfl rfl)⟩
      simp [results, Tryd.f20, go_sem, h0]
  case stop =>
    rintro D pre W hD hpre ⟨m, p, rfl, hne, hc, hB⟩ hK
    have HE := Lib.hid (inv_stop hpre hne)
    clear h4 f0 f1 f2
    gi_wp2
    refine ⟨by simp, .inl ⟨_, _, rfl, run_takeDeferred hK, ?_⟩⟩
    have hk0 := cell_kept hc (grownBy_putObj' _ D (.deferred none)) (fun r e => by cases e; exact ⟨_, hK, rfl⟩)
    refine ⟨.int .i64 (m : Int), ?_, by rw [HE.out], hB.trans (belowK_b (w := w) (Nat.le_refl _) W D _ _ (by omega) hK rfl rfl)⟩
    simp [results, Tryd.f20, go_sem, hk0]
end Go.Proofs.YtaegaeljakdffaaDoor
