/- behind, and At: the place behind the last valid entry whose key is not above one; of any node, any key; without conditions. -/
import Derived.Test.YtaegaeljakdffaaDoorN8Find
namespace Go.Proofs.YtaegaeljakdffaaDoor
open Go.RowKit Go.Shelf
set_option linter.unusedVariables false
attribute [local go_sem] Oper.semAt_some

/-- Behind the last of these places whose key is not above one. -/
def atL (n : Nd) (key : Int) (l : List Nat) : Nat := l.foldl (fun a p => if n.key p ≤ key then p + 1 else a) 0
theorem atL_snoc (n : Nd) (key : Int) (l : List Nat) (x : Nat) : atL n key (l ++ [x]) = if n.key x ≤ key then x + 1 else atL n key l := by simp [atL]
def Nd.at (n : Nd) (key : Int) : Nat := atL n key n.vp
set_option maxRecDepth 100000 in
set_option maxHeartbeats 4000000 in
theorem behind_any (n : Nd) (key : Int) (bk : Nat) (w : World) (hk : w.cell? ⟨bk, 0, none⟩ = some (.int .u64 key)) :
    Calls Tryd.prog 29 #[n.V, .func (.func 30) #[] #[.pointer (some ⟨bk, 0, none⟩)]] w fun e W' => e = .returned (.int .i64 (n.at key : Int)) ∧ Below w.heap.size w W' := by
  obtain ⟨Wx, hWx⟩ : ∃ Wx, Wx = ((w.alloc (.cells n.cl.toArray 27)).alloc (.cells #[.func (.func 30) #[] #[.pointer (some ⟨bk, 0, none⟩)]] 59)).alloc (.cells #[.int .i64 0] 3) := ⟨_, rfl⟩
  have hsx : Wx.heap.size = w.heap.size + 3 := by rw [hWx]; simp
  have hbx : Below w.heap.size w Wx := by rw [hWx]; exact low_and (low_and (alloc_low _ _) (alloc_low _ _)) (alloc_low _ _)
  have r0 : NdAt Wx w.heap.size n := by rw [hWx]; exact ((Row.new _ _ _).alloc _).alloc _
  have r1 : Row Wx (w.heap.size + 1) 59 #[.func (.func 30) #[] #[.pointer (some ⟨bk, 0, none⟩)]] := by
    rw [hWx]
    have := Row.new (w.alloc (.cells n.cl.toArray 27)) 59 #[.func (.func 30) #[] #[.pointer (some ⟨bk, 0, none⟩)]]
    simp only [World.size_alloc] at this
    exact this.alloc _
  have r2 : Row Wx (w.heap.size + 1 + 1) 3 #[.int .i64 0] := by
    rw [hWx]
    have := Row.new ((w.alloc (.cells n.cl.toArray 27)).alloc (.cells #[.func (.func 30) #[] #[.pointer (some ⟨bk, 0, none⟩)]] 59)) 3 #[.int .i64 0]
    simpa only [World.size_alloc] using this
  have kx : Wx.cell? ⟨bk, 0, none⟩ = some (.int .u64 key) := (hbx.cell (p := ⟨bk, 0, none⟩) (w.block_lt_of_cell? _ hk)).trans hk
  have hbk := w.block_lt_of_cell? _ hk
  have HWx := Lib.hid hWx
  have HR0 := Lib.hid r0
  clear hWx r0
  refine (callsIn_wide (n := 6)).1 ?_
  refine callsIn_of_wp_marks Tryd.func29 rfl trivial ?_ rfl
  simp only [Tryd.ntmps29, List.size_toArray, List.length_cons, List.length_nil, Nat.reduceAdd, Nat.reduceSub, Array.replicate_succ, Array.replicate_zero, List.push_toArray, List.append_toArray, List.nil_append, List.cons_append]
  gi_wp2_with (first | (rw [← HWx.out]; refine wpListIn_load_mid (fun _ => trivial) rfl _ _ rfl w.heap.size 0 rfl n.cl _ (ndR HR0.out) Tryd.underlying27 rfl ndI ?_) | (refine ⟨trivial, ?_⟩; gi_at_call 10; refine (callsIn_wide.2 (valid_any n _)).mono ?_; rintro e w' ⟨rfl, rfl⟩))
  obtain ⟨W0, hW0⟩ : ∃ W0, W0 = Wx.alloc (.cells n.cl.toArray 27) := ⟨_, rfl⟩
  have h4 : NdAt W0 (w.heap.size + 3) n := by
    rw [hW0]
    have := Row.new Wx 27 n.cl.toArray
    rwa [hsx] at this
  have hb0 : Below Wx.heap.size Wx W0 := by rw [hW0]; exact alloc_low _ _
  have hs0 : W0.heap.size = w.heap.size + 4 := by rw [hW0]; simp [hsx]
  have f1 := Row.below r1 hb0 r1.lt
  have f2 := Row.below r2 hb0 r2.lt
  have fk : W0.cell? ⟨bk, 0, none⟩ = some (.int .u64 key) := (hb0.cell (p := ⟨bk, 0, none⟩) (Wx.block_lt_of_cell? _ kx)).trans kx
  have hbW : Below w.heap.size w W0 := low_and hbx hb0
  rw [← hW0]
  have FB := Lib.hid hbW
  clear hW0 r1 r2 kx hb0 hbx HWx HR0 hbW hsx hk
  refine range_Q rfl (by omega) (gf := 23) (lb := #[.pointer (some ⟨w.heap.size + 3, 0, none⟩)]) rfl trivial (enters_of Tryd.func23 (by kernel_rfl) rfl) (bx := w.heap.size + 3) (by omega) (valid1_seq h4) (fun _ => rfl)
    (fun q pre W => w.heap.size + 4 ≤ q ∧ w.heap.size + 4 ≤ W.heap.size ∧ Row W (w.heap.size + 1) 59 #[.func (.func 30) #[] #[.pointer (some ⟨bk, 0, none⟩)]] ∧ Row W (w.heap.size + 1 + 1) 3 #[.int .i64 (atL n key pre : Int)] ∧ W.cell? ⟨bk, 0, none⟩ = some (.int .u64 key) ∧ Below w.heap.size w W)
    (fun pre W => False)
    (fun q s A B row hs hg hr => ⟨hs.1, Nat.le_trans hs.2.1 hg.size, hs.2.2.1.grown hg (fun e => by have := (hr _ e.symm).1; omega), hs.2.2.2.1.grown hg (fun e => by have := (hr _ e.symm).1; omega), cell_kept hs.2.2.2.2.1 hg (fun r e => (hr r e).2), hs.2.2.2.2.2.grown hg hs.2.2.2.2.2.size (fun k e => by have := (hr k e).1; omega)⟩)
    (fun s A B row hs hg hr => hs)
    ⟨by omega, by omega, f1, f2, fk, FB.out⟩
    (fun x V => { tmps := #[n.V, .func (.func 30) #[] #[.pointer (some ⟨bk, 0, none⟩)], .pointer (some ⟨w.heap.size, 0, none⟩), .pointer (some ⟨w.heap.size + 1, 0, none⟩), .int .i64 0, .pointer (some ⟨w.heap.size + 1 + 1, 0, none⟩), .int .i64 (x : Int), .pointer (some ⟨V.heap.size, 0, none⟩), .agg n.cl.toArray, .func (.func 23) #[] #[.pointer (some ⟨w.heap.size + 3, 0, none⟩)], .int .i64 (x : Int), .agg #[.int .u64 (n.key x), .int .u64 (n.ptr x)], undef, undef, undef, undef, undef, undef], defers := [] })
    (fun x V => V.alloc (.cells #[.int .u64 (n.key x), .int .u64 (n.ptr x)] 39)) (fun x V => alloc_low _ _) ?assign ?body ?done ?stop
  case assign =>
    intro l x W K hK
    dsimp only [enc8N]
    gi_wp2
    exact hK
  case body =>
    rintro l q r pre x V W hx8 ⟨hq4, hWs, g1, g2, gk, hB⟩ hqr hrV hsz hcells hlen
    have hE : Row W V.heap.size 39 #[.int .u64 (n.key x), .int .u64 (n.ptr x)] := hcells _ _ rfl (Row.new V 39 _)
    obtain ⟨vs, hvs⟩ : ∃ vs, vs = V.heap.size := ⟨_, rfl⟩
    rw [← hvs] at hE hrV
    simp only [World.size_alloc] at hsz
    rw [← hvs] at hsz
    rw [← hvs]
    have e0 := hE.cell 0
    have e1 := hE.cell 1
    simp only [List.getElem?_toArray, List.getElem?_cons_succ, List.getElem?_cons_zero] at e0 e1
    have c1 := g1.cell 0
    simp only [List.getElem?_toArray, List.getElem?_cons_zero] at c1
    obtain ⟨k, hk⟩ : ∃ k, k = n.key x := ⟨_, rfl⟩
    obtain ⟨y, hy⟩ : ∃ y, y = n.ptr x := ⟨_, rfl⟩
    rw [← hk, ← hy] at hE
    rw [← hk] at e0
    rw [← hy] at e1
    rw [← hk, ← hy]
    have HF := at1_any k y key bk W gk
    have HK := Lib.hid hk
    have G1 := Lib.hid g1
    have G2 := Lib.hid g2
    have GK := Lib.hid gk
    have HB := Lib.hid hB
    have HSn := Lib.hid (atL_snoc n key pre x)
    have hle : (n.key x ≤ key) ↔ (k ≤ key) := by rw [hk]
    have HLe := Lib.hid hle
    have post : ∀ w' : World, Below W.heap.size W w' → w.heap.size + 4 ≤ w'.heap.size ∧ Row w' (w.heap.size + 1) 59 #[.func (.func 30) #[] #[.pointer (some ⟨bk, 0, none⟩)]] ∧ Row w' (w.heap.size + 1 + 1) 3 #[.int .i64 (atL n key pre : Int)] ∧ w'.cell? ⟨bk, 0, none⟩ = some (.int .u64 key) ∧ Below w.heap.size w w' := fun w' hb =>
      ⟨Nat.le_trans hWs hb.size, Row.below g1 hb g1.lt, Row.below g2 hb g2.lt, (hb.cell (p := ⟨bk, 0, none⟩) (W.block_lt_of_cell? _ gk)).trans gk, hB.trans (hb.mono (by omega))⟩
    have POST := Lib.hid post
    obtain ⟨T, hT⟩ : ∃ T, T = atL n key pre := ⟨_, rfl⟩
    have HT := Lib.hid hT
    clear hvs hcells hE hk hy hB g1 g2 gk h4 f1 f2 fk post hle hT
    obtain hle | hle : k ≤ key ∨ ¬ k ≤ key := by omega
    · rw [decide_eq_true hle] at HF
      have HF := Lib.hid HF
      have hx1 : -9223372036854775808 ≤ (x : Int) + 1 ∧ (x : Int) + 1 ≤ 9223372036854775807 := by omega
      gi_wp2_with (refine ⟨trivial, ?_⟩; gi_at_call 30; refine (callsIn_wide.2 HF.out).mono ?_; rintro e w' ⟨rfl, hb⟩; obtain ⟨q1, q2, q3, q4, q5⟩ := POST.out w' hb; have c2 := q3.cell 0; have z2 := q3.free 0; have Q2 := Lib.hid q2; have Q3 := Lib.hid q3; have Q4 := Lib.hid q4; have Q5 := Lib.hid q5; simp only [List.getElem?_toArray, List.getElem?_cons_zero] at c2; clear q2 q3 q4 q5)
      have hb1 : bk ≠ w.heap.size + 1 + 1 := by omega
      refine ⟨(low_others hb).trans (KeepsOthers.setCell _ _ _), ?_, fun o _ ho => ?_, w'.heap.size, by simp, by omega, by simpa using q1, Q2.out.other (by simp) _, ?_, ?_, Q5.out.setCell (p := ⟨w.heap.size + 1 + 1, 0, none⟩) (by simp; omega) _⟩
      · rw [heap_setCell_other _ _ _ _ (by simp)]
        exact hb.block _ (by omega)
      · rw [heap_setCell_other _ _ _ _ (by simp; omega)]
        exact (hb.block _ (Array.getElem?_eq_some_iff.1 ho).1).trans ho
      · have := Q3.out.set 0 (.int .i64 ((x : Int) + 1))
        rw [HSn.out, if_pos (HLe.out.2 hle)]
        simpa using this
      · exact (World.cell?_of_block (a := ⟨bk, 0, none⟩) (heap_setCell_other _ _ _ _ (by simpa using hb1))).trans Q4.out
    · rw [decide_eq_false hle] at HF
      have HF := Lib.hid HF
      gi_wp2_with (refine ⟨trivial, ?_⟩; gi_at_call 30; refine (callsIn_wide.2 HF.out).mono ?_; rintro e w' ⟨rfl, hb⟩)
      obtain ⟨q1, q2, q3, q4, q5⟩ := POST.out w' hb
      refine ⟨low_others hb, hb.block _ (by omega), fun o _ ho => (hb.block _ (Array.getElem?_eq_some_iff.1 ho).1).trans ho, w'.heap.size, Nat.le_refl _, q1, q1, q2, ?_, q4, q5⟩
      rw [HSn.out, if_neg (fun h => by have := HLe.out.1 h; omega)]
      exact q3
  case done =>
    rintro D q xs W hD rfl ⟨_, hWs, g1, g2, gk, hB⟩ hK
    have c2 := g2.cell 0
    simp only [List.getElem?_toArray, List.getElem?_cons_zero] at c2
    obtain ⟨T, hT⟩ : ∃ T, T = atL n key n.vp := ⟨_, rfl⟩
    have HT := Lib.hid (show n.at key = T from hT.symm)
    rw [← hT] at c2
    clear g1 g2 gk hT h4 f1 f2 fk
    gi_wp2
    refine ⟨by simp, .inl ⟨_, _, rfl, run_takeDeferred hK, ?_⟩⟩
    exact ⟨_, results_tmp rfl _ _ _, by rw [HT.out]; rfl, hB.trans (belowK_b (w := w) (Nat.le_refl _) W D _ _ (by omega) hK rfl rfl)⟩
  case stop => exact fun _ _ _ _ _ h => h.elim
end Go.Proofs.YtaegaeljakdffaaDoor
