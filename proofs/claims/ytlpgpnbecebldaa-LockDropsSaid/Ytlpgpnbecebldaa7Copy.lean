/- Copy: the same locks in new memory. -/
import Derived.Test.Ytlpgpnbecebldaa7Clone
import Derived.Deep.RegionHeld3
namespace Go.Proofs.Ytlpgpnbecebldaa
open Go.RowKit
set_option linter.unusedVariables false
theorem fold_set : ∀ (l : List Value) (o : Nat) (cs : Array Value) (j : Nat), 2 + o + l.length ≤ cs.size →
    ((l.zipIdx o).foldl (fun cs x => cs.setIfInBounds (2 + x.2) x.1) cs)[j]? = if 2 + o ≤ j ∧ j < 2 + o + l.length then l[j - (2 + o)]? else cs[j]?
  | [], o, cs, j, _ => by
    rw [if_neg (by simp)]
    rfl
  | v :: l, o, cs, j, h => by
    rw [List.zipIdx_cons, List.foldl_cons, fold_set l (o + 1) _ j (by simp at h ⊢; omega)]
    simp only [List.length_cons] at h ⊢
    by_cases h1 : 2 + (o + 1) ≤ j ∧ j < 2 + (o + 1) + l.length
    · rw [if_pos h1, if_pos (by omega), show j - (2 + o) = (j - (2 + (o + 1))) + 1 from by omega, List.getElem?_cons_succ]
    · rw [if_neg h1]
      by_cases h2 : j = 2 + o
      · subst h2
        rw [if_pos (by omega), Nat.sub_self, List.getElem?_cons_zero, Array.getElem?_setIfInBounds_self_of_lt (by omega)]
      · rw [if_neg (by omega), Array.getElem?_setIfInBounds_ne (by omega)]
theorem tcells_fold (n : Nat) (m : Option Nat) (wt : Nat → Nat) {ws : List Value} (hw : ws = (List.range 64).map (fun c => wv (wt c))) :
    ws.zipIdx.foldl (fun cs x => cs.setIfInBounds (2 + x.2) x.1) ((Try.zeroCells59.setIfInBounds 0 (.int .i64 (n : Int))).setIfInBounds 1 (.map m)) = ktcells n m wt := by
  have hl : ws.length = 64 := by rw [hw, List.length_map, List.length_range]
  rw [tcells_made]
  apply Array.ext_getElem?
  intro j
  rw [fold_set ws 0 _ j (by rw [hl, tcells_size]; omega), hl]
  by_cases h : 2 + 0 ≤ j ∧ j < 2 + 0 + 64
  · obtain ⟨i, rfl⟩ : ∃ i, j = 2 + i := ⟨j - 2, by omega⟩
    rw [if_pos h, tcells_w _ _ _ (by omega), hw, show 2 + i - (2 + 0) = i from by omega, List.getElem?_map, List.getElem?_range (by omega)]
    rfl
  · rw [if_neg h]
    by_cases h2 : j < 2
    · rcases (by omega : j = 0 ∨ j = 1) with rfl | rfl
      · rw [tcells_0, tcells_0]
      · rw [tcells_1, tcells_1]
    · rw [Array.getElem?_eq_none (by rw [tcells_size]; omega), Array.getElem?_eq_none (by rw [tcells_size]; omega)]
abbrev CpK (w : World) (g b : Nat) (s : Lk) (ws : List Value) (W' : World) : Prop := W'.cell? ⟨g, 0, none⟩ = some (.int .i64 (s.n : Int)) ∧ W'.cell? ⟨g, 1, none⟩ = some (.map (some b)) ∧ W'.rangeAt g 2 ws ∧ Below w.heap.size w W'
theorem CpK.low {w W' : World} {g b : Nat} {s : Lk} {ws : List Value} (h : CpK w g b s ws W') : Below w.heap.size w W' := h.2.2.2
set_option maxRecDepth 100000 in
set_option maxHeartbeats 2000000 in
theorem copy_any {w : World} {g b : Nat} {s : Lk} (h : KAt w g b s) :
    Calls Try.prog 11 #[.pointer (some ⟨g, 0, none⟩)] w fun e w' => ∃ g' b', e = .returned (.pointer (some ⟨g', 0, none⟩)) ∧ OwnK w w' g' b' s := by
  have HN := Lib.hid (knone_yes h)
  have HH := Lib.hid h
  have hcn := h.cn
  have hcm := h.cm
  clear h
  go_enter Try.func11, Try.ntmps11
  go_wp2_with fail
  refine HN.out.mono ?_
  rintro e w1 ⟨rfl, rfl⟩
  go_wp2
  obtain ⟨ws, hws⟩ : ∃ ws : List Value, ws = (List.range 64).map (fun c => wv (s.wt c)) := ⟨_, rfl⟩
  have hwl : ws.length = 64 := by rw [hws, List.length_map, List.length_range]
  have hra : ∀ W', Below w.heap.size w W' → W'.rangeAt g 2 ws := fun W' hb j v hv => by
    have hj : j < 64 := by rw [← hwl]; exact (List.getElem?_eq_some_iff.1 hv).1
    have e : v = .int .u64 (s.wt j : Int) := by
      rw [hws, List.getElem?_map, List.getElem?_range hj] at hv
      exact (Option.some.inj hv).symm
    rw [e]
    exact (HH.out.below hb).cw hj
  have hu := Try.underlying57
  have hi : (Try.prog.info? 57).map (·.size) = some ws.length := by rw [hwl]; kernel_rfl
  have STAY := Lib.hid fun W' (hb : Below w.heap.size w W') => And.intro ((hb.cell (p := ⟨g, 0, none⟩) (w.block_lt_of_cell? _ hcn)).trans hcn) (And.intro ((hb.cell (p := ⟨g, 1, none⟩) (w.block_lt_of_cell? _ hcm)).trans hcm) (And.intro (hra W' hb) hb))
  have HC := Lib.hid fun W' (hS : CpK w g b s ws W') => cloneK_any (HH.out.below hS.low).mp
  have HWS := Lib.hid hws
  clear hcn hcm hra hws
  go_region_held3 (fun W' => W'.cell? ⟨g, 0, none⟩ = some (.int .i64 (s.n : Int)) ∧ W'.cell? ⟨g, 1, none⟩ = some (.map (some b)) ∧ W'.rangeAt g 2 ws ∧ Below w.heap.size w W')
    ((refine STAY.out _ ?_; (first | exact drew_below _ | (refine Below.and ?_ hb; exact CpK.low (g := g) (b := b) (s := s) (ws := ws) (by assumption)) | (refine Below.and ?_ (alloc_below _ _); exact CpK.low (g := g) (b := b) (s := s) (ws := ws) (by assumption)))))
    (first | (go_at_call 32; refine (HC.out _ (by assumption)).mono ?_; rintro e wn ⟨rfl, ho, _, hb⟩))
  rw [tcells_fold _ _ _ HWS.out]
  have hbw : Below w.heap.size w wn := Below.and (drew_below w) hb
  have HE := Lib.hid (show ∃ g' b', Ending.returned (.pointer (some ⟨wn.heap.size, 0, none⟩)) = .returned (.pointer (some ⟨g', 0, none⟩)) ∧ OwnK w (wn.alloc (.cells (ktcells s.n (some w.heap.size) s.wt) 59)) g' b' s from
    ⟨wn.heap.size, w.heap.size, rfl, ⟨⟨Row.new wn _ _, HasAt.same ho (Below.heap_alloc wn _ _ (HasAt.lt ho)), HH.out.ok⟩, hbw.size, Nat.le_refl _, Below.and hbw (alloc_below _ _)⟩⟩)
  clear hbw hb
  go_wp2
  go_ret
  exact HE.out
end Go.Proofs.Ytlpgpnbecebldaa
