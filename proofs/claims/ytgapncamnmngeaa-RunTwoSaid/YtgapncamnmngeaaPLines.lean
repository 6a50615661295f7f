/- Lines of a memory that is there: the addresses of the lines with pending stores, rising, in a new list; for states that a memory can have. -/
import Derived.Test.YtgapncamnmngeaaPLoad
namespace Go.Proofs.Ytgapncamnmngeaa
open Go.RowKit Go.Shelf
set_option linter.unusedVariables false
attribute [local go_sem] Oper.semAt_some
theorem info30 : (Try.prog.info? 30).map (fun i => (i.zero, i.size, i.bytes)) = some (some (.int .u64 0), 1, 8) := by kernel_rfl
/-- The addresses of the lines with pending stores. -/
def adr (xs : List (Nat × Nat)) : List Nat := xs.map fun x => 64 * x.2
theorem own_grown {w w' : World} {B n : Nat} {e : TypeId} {v : Value} {xs : List Value} {row : Option Nat} (h : w.ownsRow B e 1 v n xs) (hg : w.grownBy w' row) (hr : ∀ r, row = some r → v.ownBlock ≠ some r) : w'.ownsRow B e 1 v n xs := by
  refine ⟨h.1, ?_⟩
  rcases h.2 with h0 | ⟨g, cap, cur, rfl, hb, hh, hx⟩
  · exact .inl h0
  · exact .inr ⟨g, cap, cur, rfl, hb, (hg.block g (Array.getElem?_eq_some_iff.1 hh).1 (fun e => hr g e.symm rfl)).trans hh, hx⟩
theorem own_cells {w : World} {B n g : Nat} {e : TypeId} {v : Value} {xs : List Value} (h : w.ownsRow B e 1 v n xs) (hg : v.ownBlock = some g) : ∃ cs t, w.heap[g]? = some (.cells cs t (0, 0)) := by
  rcases h.2 with ⟨rfl, _⟩ | ⟨g', cap, cur, rfl, _, hh, _⟩
  · cases hg
  · have : g' = g := by injection hg
    subst this
    exact ⟨_, _, hh⟩
/-- Lines under way: k of them are listed. -/
def LnI (w W0 : World) (xs : List (Nat × Nat)) (k : Nat) (W : World) : Prop :=
  ∃ v, Row W w.heap.size 45 #[v] ∧ W.ownsRow (w.heap.size + 2) 30 1 v k ((adr (xs.take k)).map wv) ∧ Below w.heap.size w W ∧ W0.heap.size ≤ W.heap.size
theorem lni_stay {w W0 : World} {xs : List (Nat × Nat)} (hsz : W0.heap.size = w.heap.size + 2) (k : Nat) (W W' : World) (row : Option Nat) (h : LnI w W0 xs k W) (hg : W.grownBy W' row)
    (hr : ∀ r, row = some r → W0.heap.size ≤ r ∧ ∃ o : Obj, W.heap[r]? = some o ∧ o.isCells = false) : LnI w W0 xs k W' := by
  obtain ⟨v, h1, h2, h3, h4⟩ := h
  refine ⟨v, h1.grown hg (fun e => by have := (hr _ e.symm).1; omega), own_grown h2 hg ?_, h3.trans ⟨hg.os, hg.tape, hg.output, hg.size, fun q hq => hg.block q (by have := h3.size; omega) (fun e => by have := (hr _ e.symm).1; omega)⟩, Nat.le_trans h4 hg.size⟩
  intro r e hv
  obtain ⟨_, o, ho, hc⟩ := hr r e
  obtain ⟨cs, t, h5⟩ := own_cells h2 hv
  rw [h5] at ho
  cases ho
  cases hc
set_option maxRecDepth 100000 in
set_option maxHeartbeats 3200000 in
theorem lines_yes {w : World} {y : Lay} {s : St} (h : MemAt w y s) :
    Calls Try.prog 20 #[.pointer (some ⟨y.g, 0, none⟩)] w fun e w' => (∃ v, e = .returned v ∧ w'.ownsRow w.heap.size 30 1 v (nz s.pend).length ((adr (nz s.pend)).map wv)) ∧ Below w.heap.size w w' := by
  refine (callsIn_wide (n := 6)).1 ?_
  refine callsIn_of_wp_marks Try.func20 rfl trivial ?_ rfl
  simp only [Try.ntmps20, List.size_toArray, List.length_cons, List.length_nil, Nat.reduceAdd, Nat.reduceSub, Array.replicate_succ, Array.replicate_zero, List.push_toArray, List.append_toArray, List.nil_append, List.cons_append]
  gi_wp2_with (refine ⟨trivial, ?_⟩; gi_at_call 35; refine (callsIn_wide.2 (lines_any _ _)).mono ?_; rintro e w' ⟨rfl, rfl⟩)
  obtain ⟨W0, hW0⟩ : ∃ W0, W0 = ((w.alloc (.cells #[.slice none 0 0] 45)).alloc (.cells #[.pointer (some ⟨y.g, 0, none⟩)] 23)) := ⟨_, rfl⟩
  rw [← hW0]
  have hb0 : Below w.heap.size w W0 := by
    rw [hW0]
    exact Below.and (alloc_below _ _) (alloc_below _ _)
  have hsz : W0.heap.size = w.heap.size + 2 := by rw [hW0]; simp
  have r1 : Row W0 w.heap.size 45 #[.slice none 0 0] := by
    rw [hW0]
    exact (Row.new _ _ _).alloc _
  have r3 : Row W0 (w.heap.size + 1) 23 #[.pointer (some ⟨y.g, 0, none⟩)] := by
    rw [hW0]
    exact row_at (by simp)
  have hm0 := h.below hb0
  have hmost := h.most
  have hplen := h.plen
  have HB0 := Lib.hid hb0
  have HSZ := Lib.hid hsz
  have HM := Lib.hid h
  obtain ⟨i0, hi, hz0, hz1, hz2⟩ := info_parts info30
  obtain ⟨xs, hxs⟩ : ∃ xs, xs = nz s.pend := ⟨_, rfl⟩
  have HX := Lib.hid hxs
  clear hW0 h
  refine range_all rfl (by omega) (gf := 47) (lb := #[.pointer (some ⟨w.heap.size + 1, 0, none⟩)]) rfl trivial (enters_of Try.func47 (by kernel_rfl) rfl) (nz s.pend) (encs := encN) (fun _ => rfl) (LnI w W0 (nz s.pend))
    (lni_stay hsz) ⟨_, r1, ⟨by simp [adr], .inl ⟨rfl, rfl⟩⟩, hb0, Nat.le_refl _⟩ (iter_tells hm0 (w.heap.size + 1) _ (r3.cell 0) ?reads)
    (fun x => { tmps := #[.pointer (some ⟨y.g, 0, none⟩), undef, .slice none 0 0, .pointer (some ⟨w.heap.size, 0, none⟩), undef, .int .i64 (x.2 : Int), .pointer (some ⟨y.g, 0, none⟩),
      .func (.func 47) #[] #[.pointer (some ⟨w.heap.size + 1, 0, none⟩)], .int .i64 (x.1 : Int), .int .i64 (x.2 : Int), undef, undef, undef, undef, undef, undef, undef], defers := [] }) ?assign ?body ?done
  case reads =>
    rintro k W ⟨v, _, _, hb, _⟩ j u hj hq hv
    rw [(HM.out.below hb).pen.cellAt j (by omega)]
    exact hv
  case assign =>
    intro l x W K hK
    dsimp only [encN]
    gi_wp2
    exact hK
  case body =>
    rintro l k x W hx ⟨v, hr, hown, hb, hge⟩
    have hxm := List.mem_of_getElem? hx
    have hxb := nzFrom_bound _ _ _ x hxm
    have hkl := (List.getElem?_eq_some_iff.1 hx).1
    have hkn : k ≤ 16384 := by
      obtain ⟨hx1, m, hmj, hmne⟩ := nzFrom_at _ _ _ k x hx
      omega
    have hsn : adr ((nz s.pend).take (k + 1)) = adr ((nz s.pend).take k) ++ [64 * x.2] := by
      unfold adr
      rw [List.take_succ_eq_append_getElem hkl, List.map_append, (List.getElem?_eq_some_iff.1 hx).2]
      rfl
    have HS := Lib.hid hsn
    have HXX := Lib.hid hx
    obtain ⟨xi, xj⟩ := x
    dsimp only at *
    have c0 := hr.cell 0
    have f0 := hr.free 0
    simp only [List.getElem?_toArray, List.getElem?_cons_succ, List.getElem?_cons_zero] at c0
    have hone := hown.alloc
    have hHN := Lib.hid (fun o : Obj => heap_alloc_new W o)
    have a1 : k + 1 ≤ maxLen := by unfold maxLen; omega
    have a2 : (k + 1) * 8 ≤ 140737488355328 := by omega
    have a3 : w.heap.size + 2 ≤ W.heap.size := by omega
    clear hx hxm hkl hsn r1 r3 hm0 hb0
    obtain ⟨A, cap, rfl, _, _, _, _⟩ := own_sl hown
    have hne := own_ne hown hr (by decide)
    have HOW := Lib.hid hown
    have HR := Lib.hid hr
    have hnum : (xj : Int) * 64 = ((64 * xj : Nat) : Int) := by omega
    have HNUM := Lib.hid hnum
    clear hnum
    gi_wp2_with (gi_at_builtin; refine wpListIn_append_own _ rfl _ _ 45 rfl (w.heap.size + 2) 30 i0 (.int .u64 0) 1 8 Try.underlying45 hi hz0 hz1 hz2 rfl (by decide) _ k _ rfl (hone _) ⟨W.heap.size, 0, none⟩ 1 1 [.int .u64 ((xj : Int) * 64)] rfl rfl (cell_one_new _ _ _) (by simp [Value.oneCell']) a1 a2 (by simp; omega) ?_; intro v' w2 hown2 hgrow2 hnil2; obtain ⟨g', cap', rfl, _⟩ := own_some hown2 (by omega); have hr2 := (HR.out.alloc _).grown hgrow2 hne; have cc := hr2.cell 0; have cf := hr2.free 0; simp only [List.getElem?_toArray, List.getElem?_cons_succ, List.getElem?_cons_zero] at cc)
    have hnb : ∀ q, (Value.slice A k cap).ownBlock = some q → w.heap.size + 2 ≤ q := fun q hq => own_from HOW.out q hq
    have hn2 : some w.heap.size ≠ (Value.slice (some ⟨g', 0, none⟩) (k + 1) cap').ownBlock := own_ne hown2 hr2 (by decide)
    refine ⟨⟨?_, ?_⟩, _, hr2.set 0 _, ?_, ?_, ?_⟩
    · have := hgrow2.size
      simp [World.setCell] at this ⊢
      omega
    · intro q o hq ho hc
      have hql := (Array.getElem?_eq_some_iff.1 ho).1
      have hq2 : some q ≠ (Value.slice A k cap).ownBlock := by
        intro e
        obtain ⟨cs, t, h5⟩ := own_cells HOW.out e.symm
        rw [h5] at ho
        cases ho
        cases hc
      rw [heap_setCell_other _ _ _ _ (by show q ≠ w.heap.size; omega), hgrow2.block q (by simp; omega) hq2]
      exact (Below.heap_alloc W _ q hql).trans ho
    · have h5 := own_set hown2 (p := ⟨w.heap.size, 0, none⟩) hn2 (.slice (some ⟨g', 0, none⟩) (k + 1) cap')
      rw [HS.out, List.map_append]
      rw [HNUM.out] at h5
      exact h5
    · exact ((hb.alloc (by omega) _).grown hgrow2 (by simp; omega) (fun q hq => by have := hnb q hq; omega)).setCell (Nat.le_refl _) _
    · have := hgrow2.size
      simp [World.setCell] at this ⊢
      omega
  case done =>
    rintro D W hD hI hK
    obtain ⟨v, h1, h2, h3, h4⟩ := lni_stay hsz _ _ _ (some D) hI (grownBy_putObj' W D (.deferred none)) (fun r e => by cases e; exact ⟨hD, _, hK, rfl⟩)
    obtain ⟨v', g1, _, _, _⟩ := hI
    have hv : v' = v := by
      have e1 := h1.cell 0
      have e2 := (g1.grown (grownBy_putObj' W D (.deferred none)) (fun e => by cases e; omega)).cell 0
      rw [e1] at e2
      simpa using e2.symm
    subst hv
    have hc := g1.cell 0
    simp only [List.getElem?_toArray, List.getElem?_cons_succ, List.getElem?_cons_zero] at hc
    rw [List.take_length] at h2
    clear r1 r3 hm0 hb0 h1 g1
    gi_wp2
    refine ⟨by simp, .inl ⟨_, _, rfl, run_takeDeferred hK, ?_⟩⟩
    exact ⟨_, results_tmp rfl _ _ _, ⟨_, rfl, own_mono h2 (by omega)⟩, h3⟩
end Go.Proofs.Ytgapncamnmngeaa
