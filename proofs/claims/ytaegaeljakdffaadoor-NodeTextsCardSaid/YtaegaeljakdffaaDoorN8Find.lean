/- Find and At: where a key is, and where it goes; of any node, any key; without conditions. -/
import Derived.Test.YtaegaeljakdffaaDoorN8It
namespace Go.Proofs.YtaegaeljakdffaaDoor
open Go.RowKit Go.Shelf
set_option linter.unusedVariables false
attribute [local go_sem] Oper.semAt_some

theorem find1_any (k p key : Int) (bk : Nat) (w : World) (hk : w.cell? ⟨bk, 0, none⟩ = some (.int .u64 key)) :
    Calls Tryd.prog 28 #[.agg #[.int .u64 k, .int .u64 p], .pointer (some ⟨bk, 0, none⟩)] w fun e w' => e = .returned (.bool (k == key)) ∧ Below w.heap.size w w' := by
  have hk2 : ∀ o, (w.alloc o).cell? ⟨bk, 0, none⟩ = some (.int .u64 key) := fun o => ((alloc_low w o).cell (p := ⟨bk, 0, none⟩) (w.block_lt_of_cell? _ hk)).trans hk
  go_enter Tryd.func28, Tryd.ntmps28
  go_wp2
  go_ret
  exact ⟨rfl, alloc_low _ _⟩
theorem at1_any (k p key : Int) (bk : Nat) (w : World) (hk : w.cell? ⟨bk, 0, none⟩ = some (.int .u64 key)) :
    Calls Tryd.prog 30 #[.agg #[.int .u64 k, .int .u64 p], .pointer (some ⟨bk, 0, none⟩)] w fun e w' => e = .returned (.bool (decide (k ≤ key))) ∧ Below w.heap.size w w' := by
  have hk2 : ∀ o, (w.alloc o).cell? ⟨bk, 0, none⟩ = some (.int .u64 key) := fun o => ((alloc_low w o).cell (p := ⟨bk, 0, none⟩) (w.block_lt_of_cell? _ hk)).trans hk
  go_enter Tryd.func30, Tryd.ntmps30
  go_wp2
  go_ret
  exact ⟨rfl, alloc_low _ _⟩
/-- The first valid place with a key. -/
def Nd.find (n : Nd) (key : Int) : Option Nat := n.vp.find? (fun p => n.key p == key)
def optI (r : Option Nat) : Int := match r with | some x => (x : Int) | none => 0
theorem find_some {n : Nd} {key : Int} {q : List Nat} {x : Nat} (hp : q ++ [x] <+: n.vp) (hx : n.key x = key) (hq : ∀ y ∈ q, n.key y ≠ key) : n.find key = some x := by
  obtain ⟨r, hr⟩ := hp
  unfold Nd.find
  rw [← hr, List.find?_append, List.find?_append, List.find?_eq_none.2 (fun y hy => by simpa using hq y hy)]
  simp [hx]
theorem nfind_none {n : Nd} {key : Int} (hq : ∀ y ∈ n.vp, n.key y ≠ key) : n.find key = none :=
  List.find?_eq_none.2 (fun y hy => by simpa using hq y hy)
set_option maxRecDepth 100000 in
set_option maxHeartbeats 4000000 in
theorem findF_any (n : Nd) (key : Int) (bk : Nat) (w : World) (hk : w.cell? ⟨bk, 0, none⟩ = some (.int .u64 key)) :
    Calls Tryd.prog 27 #[n.V, .func (.func 28) #[] #[.pointer (some ⟨bk, 0, none⟩)]] w fun e W' => e = .returned (.tuple #[.int .i64 (optI (n.find key)), .bool (n.find key).isSome]) ∧ Below w.heap.size w W' := by
  obtain ⟨Wx, hWx⟩ : ∃ Wx, Wx = (((w.alloc (.cells n.cl.toArray 27)).alloc (.cells #[.func (.func 28) #[] #[.pointer (some ⟨bk, 0, none⟩)]] 59)).alloc (.cells #[.int .i64 0] 3)).alloc (.cells #[.bool false] 4) := ⟨_, rfl⟩
  have hsx : Wx.heap.size = w.heap.size + 4 := by rw [hWx]; simp
  have hbx : Below w.heap.size w Wx := by rw [hWx]; exact low_and (low_and (low_and (alloc_low _ _) (alloc_low _ _)) (alloc_low _ _)) (alloc_low _ _)
  have r0 : NdAt Wx w.heap.size n := by rw [hWx]; exact (((Row.new _ _ _).alloc _).alloc _).alloc _
  have r1 : Row Wx (w.heap.size + 1) 59 #[.func (.func 28) #[] #[.pointer (some ⟨bk, 0, none⟩)]] := by
    rw [hWx]
    have := Row.new (w.alloc (.cells n.cl.toArray 27)) 59 #[.func (.func 28) #[] #[.pointer (some ⟨bk, 0, none⟩)]]
    simp only [World.size_alloc] at this
    exact (this.alloc _).alloc _
  have r2 : Row Wx (w.heap.size + 1 + 1) 3 #[.int .i64 0] := by
    rw [hWx]
    have := Row.new ((w.alloc (.cells n.cl.toArray 27)).alloc (.cells #[.func (.func 28) #[] #[.pointer (some ⟨bk, 0, none⟩)]] 59)) 3 #[.int .i64 0]
    simp only [World.size_alloc] at this
    exact this.alloc _
  have r3 : Row Wx (w.heap.size + 1 + 1 + 1) 4 #[.bool false] := by
    rw [hWx]
    have := Row.new (((w.alloc (.cells n.cl.toArray 27)).alloc (.cells #[.func (.func 28) #[] #[.pointer (some ⟨bk, 0, none⟩)]] 59)).alloc (.cells #[.int .i64 0] 3)) 4 #[.bool false]
    simpa only [World.size_alloc] using this
  have kx : Wx.cell? ⟨bk, 0, none⟩ = some (.int .u64 key) := (hbx.cell (p := ⟨bk, 0, none⟩) (w.block_lt_of_cell? _ hk)).trans hk
  have HWx := Lib.hid hWx
  have HR0 := Lib.hid r0
  clear hWx r0
  refine (callsIn_wide (n := 6)).1 ?_
  refine callsIn_of_wp_marks Tryd.func27 rfl trivial ?_ rfl
  simp only [Tryd.ntmps27, List.size_toArray, List.length_cons, List.length_nil, Nat.reduceAdd, Nat.reduceSub, Array.replicate_succ, Array.replicate_zero, List.push_toArray, List.append_toArray, List.nil_append, List.cons_append]
  gi_wp2_with (first | (rw [← HWx.out]; refine wpListIn_load_mid (fun _ => trivial) rfl _ _ rfl w.heap.size 0 rfl n.cl _ (ndR HR0.out) Tryd.underlying27 rfl ndI ?_) | (refine ⟨trivial, ?_⟩; gi_at_call 10; refine (callsIn_wide.2 (valid_any n _)).mono ?_; rintro e w' ⟨rfl, rfl⟩))
  obtain ⟨W0, hW0⟩ : ∃ W0, W0 = Wx.alloc (.cells n.cl.toArray 27) := ⟨_, rfl⟩
  have h4 : NdAt W0 (w.heap.size + 4) n := by
    rw [hW0]
    have := Row.new Wx 27 n.cl.toArray
    rwa [hsx] at this
  have hb0 : Below Wx.heap.size Wx W0 := by rw [hW0]; exact alloc_low _ _
  have hs0 : W0.heap.size = w.heap.size + 5 := by rw [hW0]; simp [hsx]
  have f1 := Row.below r1 hb0 r1.lt
  have f2 := Row.below r2 hb0 r2.lt
  have f3 := Row.below r3 hb0 r3.lt
  have fk : W0.cell? ⟨bk, 0, none⟩ = some (.int .u64 key) := (hb0.cell (p := ⟨bk, 0, none⟩) (Wx.block_lt_of_cell? _ kx)).trans kx
  have hbW : Below w.heap.size w W0 := low_and hbx hb0
  rw [← hW0]
  have F1 := Lib.hid f1
  have F2 := Lib.hid f2
  have F3 := Lib.hid f3
  have FK := Lib.hid fk
  have FB := Lib.hid hbW
  clear hW0 r1 r2 r3 kx hb0 hbx HWx HR0 f1 f2 f3 fk hbW hsx hk
  refine range_Q rfl (by omega) (gf := 23) (lb := #[.pointer (some ⟨w.heap.size + 4, 0, none⟩)]) rfl trivial (enters_of Tryd.func23 (by kernel_rfl) rfl) (bx := w.heap.size + 4) (by omega) (valid1_seq h4) (fun _ => rfl)
    (fun q pre W => (∀ y ∈ pre, n.key y ≠ key) ∧ Below W0.heap.size W0 W)
    (fun pre W => ∃ (q : List Nat) (x : Nat), pre = q ++ [x] ∧ n.key x = key ∧ (∀ y ∈ q, n.key y ≠ key) ∧ W.cell? ⟨w.heap.size + 1 + 1, 0, none⟩ = some (.int .i64 (x : Int)) ∧ W.cell? ⟨w.heap.size + 1 + 1 + 1, 0, none⟩ = some (.bool true) ∧ Below w.heap.size w W)
    (fun q s A B row hs hg hr => ⟨hs.1, hs.2.grown hg hs.2.size (fun k e => (hr k e).1)⟩)
    (fun s A B row hs hg hr => by
      obtain ⟨q, x, a1, a2, a3, a4, a5, a6⟩ := hs
      exact ⟨q, x, a1, a2, a3, cell_kept a4 hg (fun r e => (hr r e).2), cell_kept a5 hg (fun r e => (hr r e).2), a6.grown hg a6.size (fun k e => by have := (hr k e).1; omega)⟩)
    ⟨by simp, Below.refl _ _⟩
    (fun x V => { tmps := #[n.V, .func (.func 28) #[] #[.pointer (some ⟨bk, 0, none⟩)], .pointer (some ⟨w.heap.size, 0, none⟩), .pointer (some ⟨w.heap.size + 1, 0, none⟩), .pointer (some ⟨w.heap.size + 1 + 1, 0, none⟩), .pointer (some ⟨w.heap.size + 1 + 1 + 1, 0, none⟩), .int .i64 (x : Int), .pointer (some ⟨V.heap.size, 0, none⟩), .agg n.cl.toArray, .func (.func 23) #[] #[.pointer (some ⟨w.heap.size + 4, 0, none⟩)], .int .i64 (x : Int), .agg #[.int .u64 (n.key x), .int .u64 (n.ptr x)], undef, undef, undef, undef], defers := [] })
    (fun x V => V.alloc (.cells #[.int .u64 (n.key x), .int .u64 (n.ptr x)] 39)) (fun x V => alloc_low _ _) ?assign ?body ?done ?stop
  case assign =>
    intro l x W K hK
    dsimp only [enc8N]
    gi_wp2
    exact hK
  case body =>
    rintro l q r pre x V W hx8 ⟨hp, hB⟩ hqr hrV hsz hcells hlen
    have hE : Row W V.heap.size 39 #[.int .u64 (n.key x), .int .u64 (n.ptr x)] := hcells _ _ rfl (Row.new V 39 _)
    obtain ⟨vs, hvs⟩ : ∃ vs, vs = V.heap.size := ⟨_, rfl⟩
    rw [← hvs] at hE hrV
    simp only [World.size_alloc] at hsz
    rw [← hvs] at hsz
    rw [← hvs]
    have e0 := hE.cell 0
    have e1 := hE.cell 1
    simp only [List.getElem?_toArray, List.getElem?_cons_succ, List.getElem?_cons_zero] at e0 e1
    have g1 := (Row.below F1.out hB F1.out.lt).cell 0
    simp only [List.getElem?_toArray, List.getElem?_cons_zero] at g1
    have g2 := Row.below F2.out hB F2.out.lt
    have g3 := Row.below F3.out hB F3.out.lt
    have gk : W.cell? ⟨bk, 0, none⟩ = some (.int .u64 key) := (hB.cell (p := ⟨bk, 0, none⟩) (W0.block_lt_of_cell? _ FK.out)).trans FK.out
    obtain ⟨k, hk⟩ : ∃ k, k = n.key x := ⟨_, rfl⟩
    obtain ⟨y, hy⟩ : ∃ y, y = n.ptr x := ⟨_, rfl⟩
    rw [← hk, ← hy] at hE
    rw [← hk] at e0
    rw [← hy] at e1
    rw [← hk, ← hy]
    have HF := find1_any k y key bk W gk
    have HE := Lib.hid hE
    have HK := Lib.hid hk
    have HB := Lib.hid hB
    have HP := Lib.hid hp
    have G2 := Lib.hid g2
    have G3 := Lib.hid g3
    have hWs : w.heap.size + 5 ≤ W.heap.size := by have := hB.size; omega
    clear hvs hcells hE hk hy hB g2 g3 gk h4 hp
    have post : ∀ w' : World, Below W.heap.size W w' → Row w' (w.heap.size + 1 + 1) 3 #[.int .i64 0] ∧ Row w' (w.heap.size + 1 + 1 + 1) 4 #[.bool false] ∧ Below w.heap.size w w' := fun w' hb =>
      ⟨Row.below G2.out hb G2.out.lt, Row.below G3.out hb G3.out.lt, low_and (FB.out.trans (HB.out.mono (show w.heap.size ≤ W0.heap.size by omega))) (hb.mono (Nat.le_refl _))⟩
    have POST := Lib.hid post
    clear post
    obtain rfl | hne : k = key ∨ k ≠ key := by omega
    · rw [show (k == k) = true by simp] at HF
      have HF := Lib.hid HF
      gi_wp2_with (refine ⟨trivial, ?_⟩; gi_at_call 28; refine (callsIn_wide.2 HF.out).mono ?_; rintro e w' ⟨rfl, hb⟩; obtain ⟨g2, g3, hBw⟩ := POST.out w' hb; have c2 := g2.cell 0; have c3 := (g3.other (p := ⟨w.heap.size + 1 + 1, 0, none⟩) (by simp) (.int .i64 (x : Int))).cell 0; have z2 := g2.free 0; have z3 := (g3.other (p := ⟨w.heap.size + 1 + 1, 0, none⟩) (by simp) (.int .i64 (x : Int))).free 0; have HBw := Lib.hid hBw; have GG2 := Lib.hid g2; have GG3 := Lib.hid g3; simp only [List.getElem?_toArray, List.getElem?_cons_zero] at c2 c3)
      refine ⟨(low_others hb).trans ((KeepsOthers.setCell _ _ _).trans (KeepsOthers.setCell _ _ _)), pre, x, rfl, HK.out.symm, HP.out, ?_, ?_, ?_⟩
      · exact (((GG2.out.set 0 (.int .i64 (x : Int))).other (p := ⟨w.heap.size + 1 + 1 + 1, 0, none⟩) (by simp) (.bool true)).cell 0)
      · exact (((GG3.out.other (p := ⟨w.heap.size + 1 + 1, 0, none⟩) (by simp) (.int .i64 (x : Int))).set 0 (.bool true)).cell 0)
      · exact (HBw.out.setCell (p := ⟨w.heap.size + 1 + 1, 0, none⟩) (by simp; omega) _).setCell (p := ⟨w.heap.size + 1 + 1 + 1, 0, none⟩) (by simp; omega) _
    · rw [show (k == key) = false by simpa using hne] at HF
      have HF := Lib.hid HF
      gi_wp2_with (refine ⟨trivial, ?_⟩; gi_at_call 28; refine (callsIn_wide.2 HF.out).mono ?_; rintro e w' ⟨rfl, hb⟩)
      refine ⟨low_others hb, hb.block _ (by omega), fun o _ ho => (hb.block _ (Array.getElem?_eq_some_iff.1 ho).1).trans ho, w'.heap.size, Nat.le_refl _, fun y hy => ?_, low_and HB.out hb⟩
      rcases List.mem_append.1 hy with h | h
      · exact HP.out y h
      · simp only [List.mem_singleton] at h
        subst h
        rw [← HK.out]
        exact hne
  case done =>
    rintro D q xs W hD rfl ⟨hp, hB⟩ hK
    have HE := Lib.hid (nfind_none hp)
    have g2 := Row.below F2.out hB F2.out.lt
    have g3 := Row.below F3.out hB F3.out.lt
    have HB := Lib.hid (FB.out.trans (hB.mono (show w.heap.size ≤ W0.heap.size by omega)))
    have c2 := g2.cell 0
    have c3 := g3.cell 0
    have z2 := g2.free 0
    have z3 := g3.free 0
    simp only [List.getElem?_toArray, List.getElem?_cons_zero] at c2 c3
    have s3 : ∀ v, (W.setCell ⟨w.heap.size + 1 + 1, 0, none⟩ v).cell? ⟨w.heap.size + 1 + 1 + 1, 0, none⟩ = some (.bool false) := fun v => ((g3.other (p := ⟨w.heap.size + 1 + 1, 0, none⟩) (by simp) v).cell 0)
    have t3 : ∀ v, (W.setCell ⟨w.heap.size + 1 + 1, 0, none⟩ v).frozen? ⟨w.heap.size + 1 + 1 + 1, 0, none⟩ = false := fun v => ((g3.other (p := ⟨w.heap.size + 1 + 1, 0, none⟩) (by simp) v).free 0)
    have k2 := (((g2.set 0 (.int .i64 0)).other (p := ⟨w.heap.size + 1 + 1 + 1, 0, none⟩) (by simp) (.bool false)).cell 0)
    have k3 := (((g3.other (p := ⟨w.heap.size + 1 + 1, 0, none⟩) (by simp) (.int .i64 0)).set 0 (.bool false)).cell 0)
    have K2 := Lib.hid k2
    have K3 := Lib.hid k3
    clear hp hB k2 k3 g2 g3 h4
    gi_wp2
    have hK' := ((KeepsOthers.setCell W ⟨w.heap.size + 1 + 1, 0, none⟩ (.int .i64 0)).trans (KeepsOthers.setCell _ ⟨w.heap.size + 1 + 1 + 1, 0, none⟩ (.bool false))).same D _ hK rfl
    refine ⟨by simp, .inl ⟨_, _, rfl, run_takeDeferred hK', ?_⟩⟩
    have h0 := cell_kept K2.out (grownBy_putObj' _ D (.deferred none)) (fun r e => by cases e; exact ⟨_, hK', rfl⟩)
    have h1 := cell_kept K3.out (grownBy_putObj' _ D (.deferred none)) (fun r e => by cases e; exact ⟨_, hK', rfl⟩)
    refine ⟨.tuple #[.int .i64 0, .bool false], ?_, by rw [HE.out]; rfl, ((HB.out.setCell (p := ⟨w.heap.size + 1 + 1, 0, none⟩) (by simp; omega) _).setCell (p := ⟨w.heap.size + 1 + 1 + 1, 0, none⟩) (by simp; omega) _).trans (belowK_b (w := w) (Nat.le_refl _) _ D _ _ (by omega) hK' rfl rfl)⟩
    simp [results, Tryd.f27, go_sem, h0, h1]
  case stop =>
    rintro D pre W hD hpre ⟨q, x, hq, hx, hl, hc0, hc1, hB⟩ hK
    have HE := Lib.hid (find_some (hq ▸ hpre) hx hl)
    clear hl h4
    gi_wp2
    refine ⟨by simp, .inl ⟨_, _, rfl, run_takeDeferred hK, ?_⟩⟩
    have hk0 := cell_kept hc0 (grownBy_putObj' _ D (.deferred none)) (fun r e => by cases e; exact ⟨_, hK, rfl⟩)
    have hk1 := cell_kept hc1 (grownBy_putObj' _ D (.deferred none)) (fun r e => by cases e; exact ⟨_, hK, rfl⟩)
    refine ⟨.tuple #[.int .i64 (x : Int), .bool true], ?_, by rw [HE.out]; rfl, hB.trans (belowK_b (w := w) (Nat.le_refl _) W D _ _ (by omega) hK rfl rfl)⟩
    simp [results, Tryd.f27, go_sem, hk0, hk1]
end Go.Proofs.YtaegaeljakdffaaDoor
