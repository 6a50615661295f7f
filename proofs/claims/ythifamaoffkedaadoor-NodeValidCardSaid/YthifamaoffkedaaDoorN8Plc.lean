/- Places: a node's valid entries' places, in new memory; of any node; without conditions. -/
import Derived.Test.YthifamaoffkedaaDoorN8RefP
namespace Go.Proofs.YthifamaoffkedaaDoor
open Go.RowKit Go.Shelf
set_option linter.unusedVariables false
attribute [local go_sem] Oper.semAt_some

def PlcI (w : World) (n : Nd) (q : Nat) (pre : List Nat) (W : World) : Prop :=
  w.heap.size + 3 ≤ q ∧ w.heap.size + 3 ≤ W.heap.size ∧ Below w.heap.size w W ∧
  ∃ v, Row W (w.heap.size + 1) 43 #[v] ∧ W.ownsRow (w.heap.size + 3) 3 1 v pre.length (pre.map iv8) ∧ ∀ g, v.ownBlock = some g → g < q
set_option maxRecDepth 100000 in
set_option maxHeartbeats 4000000 in
theorem nPlaces_any (n : Nd) (w : World) : Calls Tryd.prog 22 #[n.V] w fun e W' =>
    (∃ v, e = .returned v ∧ W'.ownsRow w.heap.size 3 1 v n.vp.length (n.vp.map iv8)) ∧ Below w.heap.size w W' := by
  obtain ⟨i0, hi, hz0, hz1, hz2⟩ := info_parts info8I
  obtain ⟨Wx, hWx⟩ : ∃ Wx, Wx = (w.alloc (.cells n.cl.toArray 27)).alloc (.cells #[.slice none 0 0] 43) := ⟨_, rfl⟩
  have hsx : Wx.heap.size = w.heap.size + 2 := by rw [hWx]; simp
  have hbx : Below w.heap.size w Wx := by rw [hWx]; exact low_and (alloc_low _ _) (alloc_low _ _)
  have r0 : NdAt Wx w.heap.size n := by rw [hWx]; exact (Row.new _ _ _).alloc _
  have r3 : Row Wx (w.heap.size + 1) 43 #[.slice none 0 0] := by
    rw [hWx]
    have := Row.new (w.alloc (.cells n.cl.toArray 27)) 43 #[.slice none 0 0]
    simpa only [World.size_alloc] using this
  have HWx := Lib.hid hWx
  have HR0 := Lib.hid r0
  clear hWx r0
  refine (callsIn_wide (n := 6)).1 ?_
  refine callsIn_of_wp_marks Tryd.func22 rfl trivial ?_ rfl
  simp only [Tryd.ntmps22, List.size_toArray, List.length_cons, List.length_nil, Nat.reduceAdd, Nat.reduceSub, Array.replicate_succ, Array.replicate_zero, List.push_toArray, List.append_toArray, List.nil_append, List.cons_append]
  gi_wp2_with (first | (rw [← HWx.out]; refine wpListIn_load_mid (fun _ => trivial) rfl _ _ rfl w.heap.size 0 rfl n.cl _ (ndR HR0.out) Tryd.underlying27 rfl ndI ?_) | (refine ⟨trivial, ?_⟩; gi_at_call 40; refine (callsIn_wide.2 (valid_any n _)).mono ?_; rintro e w' ⟨rfl, rfl⟩))
  obtain ⟨W0, hW0⟩ : ∃ W0, W0 = Wx.alloc (.cells n.cl.toArray 27) := ⟨_, rfl⟩
  have h4 : NdAt W0 (w.heap.size + 2) n := by
    rw [hW0]
    have := Row.new Wx 27 n.cl.toArray
    rwa [hsx] at this
  have hb0 : Below Wx.heap.size Wx W0 := by rw [hW0]; exact alloc_low _ _
  have hs0 : W0.heap.size = w.heap.size + 3 := by rw [hW0]; simp [hsx]
  have f3 := Row.below r3 hb0 r3.lt
  have hbW : Below w.heap.size w W0 := low_and hbx hb0
  rw [← hW0]
  have hI0 : PlcI w n W0.heap.size [] W0 := ⟨by omega, by omega, hbW, _, f3, World.ownsRow_nil _ _ _ _, fun g hg => by cases hg⟩
  clear hW0 r3 hb0 hbx HWx HR0 hbW hsx f3
  refine range_Q rfl (by omega) (gf := 54) (lb := #[.pointer (some ⟨w.heap.size + 2, 0, none⟩)]) rfl trivial (enters_of Tryd.func54 (by kernel_rfl) rfl) (bx := w.heap.size + 2) (by omega) (valid1_seq h4) (fun _ => rfl)
    (PlcI w n) (fun pre W => False)
    (fun q s A B row hs hg hr => by
      obtain ⟨h1, h2, h5, v, h6, h7, h8⟩ := hs
      exact ⟨h1, Nat.le_trans h2 hg.size, h5.grown hg h5.size (fun k e => by have := (hr k e).1; omega), v, h6.grown hg (fun e => by have := (hr _ e.symm).1; omega), ownS_grown h7 hg (fun k e => (hr k e).2), h8⟩)
    (fun s A B row hs hg hr => hs)
    hI0
    (fun x V => { tmps := #[n.V, .pointer (some ⟨w.heap.size, 0, none⟩), .slice none 0 0, .pointer (some ⟨w.heap.size + 1, 0, none⟩), .int .i64 (x : Int), .agg n.cl.toArray, .func (.func 54) #[] #[.pointer (some ⟨w.heap.size + 2, 0, none⟩)], .int .i64 (x : Int), .agg #[.int .u64 (n.key x), .int .u64 (n.ptr x)], undef, undef, undef, undef, undef], defers := [] })
    (fun x V => V) (fun x V => Below.refl _ _) ?assign ?body ?done ?stop
  case assign =>
    intro l x W K hK
    dsimp only [encN]
    gi_wp2
    exact hK
  case body =>
    rintro l q r pre x V W hx8 ⟨hq4, hWs, hB, v, g3, hown, hob⟩ hqr hrV hsz hcells hlen
    have c3 := g3.cell 0
    simp only [List.getElem?_toArray, List.getElem?_cons_zero] at c3
    obtain ⟨m, hm⟩ : ∃ m, m = pre.length := ⟨_, rfl⟩
    rw [← hm] at hown hlen
    have HMd := Lib.hid hm
    have G3 := Lib.hid g3
    have HB := Lib.hid hB
    have HOWN := Lib.hid hown
    have HOB := Lib.hid hob
    have a1 : m + 1 ≤ maxLen := by unfold maxLen; omega
    have a2 : (m + 1) * 8 ≤ 140737488355328 := by omega
    have HOBN := Lib.hid (fun g hg => (own_from hown g hg : w.heap.size + 3 ≤ g))
    have HSZ := Lib.hid hsz
    clear hcells hB h4 hI0 hm g3 hown hob hsz hrV
    gi_wp2_with (gi_at_builtin; refine wpListIn_append_own _ rfl _ _ 43 rfl (w.heap.size + 3) 3 i0 (.int .i64 0) 1 8 Tryd.underlying43 hi hz0 hz1 hz2 rfl (by decide) _ m _ rfl (HOWN.out.alloc _) ⟨W.heap.size, 0, none⟩ 1 1 [iv8 x] rfl rfl ?q1 ?q2 ?q3 ?q4 ?q5 ?_)
    case q1 => intro j u hj; cases j with
      | zero => rw [add_zero']; simp at hj; subst hj; simp [iv8]
      | succ j => simp at hj
    case q2 => intro u hu; simp at hu; subst hu; rfl
    case q3 => exact a1
    case q4 => exact a2
    case q5 => simp; omega
    intro v' w1 hown' hgrow _
    obtain ⟨g', cap', rfl⟩ := ownsRow_succ hown'
    have r3 := (G3.out.alloc (.cells #[iv8 x] 3)).grown hgrow (fun e => by have := HOBN.out _ e.symm; omega)
    have cc := r3.cell 0
    have zz := r3.free 0
    have R3 := Lib.hid r3
    simp only [List.getElem?_toArray, List.getElem?_cons_zero] at cc
    clear r3
    gi_wp2
    have hsz1 := hgrow.size
    have hg' := own_from hown' g' rfl
    have hgl := (hown'.lt g' rfl).2
    have hne : ∀ b, b < w.heap.size + 3 → some b ≠ v.ownBlock := fun b hb e => by have := HOBN.out _ e.symm; omega
    have hkeep : ∀ b, b < W.heap.size → some b ≠ v.ownBlock → b ≠ w.heap.size + 1 → (w1.setCell ⟨w.heap.size + 1, 0, none⟩ (.slice (some ⟨g', 0, none⟩) (m + 1) cap')).heap[b]? = W.heap[b]? := fun b hb hn hn' => by
      rw [heap_setCell_other _ _ _ _ hn', hgrow.block b (by simp; omega) hn]
      exact Below.heap_alloc W _ b hb
    simp only [World.size_alloc] at hsz1
    refine ⟨⟨by simp; omega, fun b o hb ho => ?_⟩, hkeep _ (by omega) (hne _ (by omega)) (by omega), fun o _ ho => ?_, w1.heap.size, by simp, by omega, by simp; omega, ?_, _, R3.out.set 0 _, ?_, fun g hg => ?_⟩
    · have hbl := (Array.getElem?_eq_some_iff.1 hb).1
      refine (hkeep b hbl (fun e => ?_) (fun e => ?_)).trans hb
      · obtain ⟨cs, t, h5⟩ := ownS_cells HOWN.out e.symm
        rw [h5] at hb
        cases hb
        cases ho
      · subst e
        rw [show W.heap[w.heap.size + 1]? = _ from G3.out] at hb
        cases hb
        cases ho
    · have hrl := (Array.getElem?_eq_some_iff.1 ho).1
      exact (hkeep r hrl (fun e => by have := HOB.out r e.symm; omega) (by omega)).trans ho
    · exact ((HB.out.alloc (by omega) _).grown hgrow (by simp; omega) (fun b hb => by have := HOBN.out b hb; omega)).setCell (p := ⟨w.heap.size + 1, 0, none⟩) (by dsimp only; omega) _
    · rw [List.length_append, List.map_append, ← HMd.out]
      exact own_set hown' (p := ⟨w.heap.size + 1, 0, none⟩) (fun e => by have h : w.heap.size + 1 = g' := Option.some.inj e; omega) _
    · cases hg
      exact hgl
  case done =>
    rintro D q xs W hD rfl ⟨hq4, hWs, hB, v, g3, hown, hob⟩ hK
    have c3 := g3.cell 0
    simp only [List.getElem?_toArray, List.getElem?_cons_zero] at c3
    have HOWN := Lib.hid (show W.ownsRow (w.heap.size + 3) 3 1 v n.vp.length (n.vp.map iv8) from hown)
    have HB := Lib.hid hB
    clear hown g3 hob h4 hI0 hB
    gi_wp2
    refine ⟨by simp, .inl ⟨_, _, rfl, run_takeDeferred hK, ?_⟩⟩
    exact ⟨_, results_tmp rfl _ _ _, ⟨v, rfl, own_mono (ownS_grown HOWN.out (grownBy_putObj' W D (.deferred none)) (fun q e => by cases e; exact ⟨_, hK, rfl⟩)) (by omega)⟩, HB.out.trans (belowK_b (w := w) (Nat.le_refl _) W D _ _ (by omega) hK rfl rfl)⟩
  case stop => exact fun _ _ _ _ _ h => h.elim
end Go.Proofs.YthifamaoffkedaaDoor
