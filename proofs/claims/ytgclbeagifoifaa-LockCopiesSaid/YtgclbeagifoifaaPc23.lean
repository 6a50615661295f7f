/- Texts of this claim, packed: 7Clone, 7Copy, 7Ref. -/
import Derived.Test.YtgclbeagifoifaaPc22
import Derived.Lib.SliceRun
import Derived.Shelf.SlMaps.Clone
import Derived.Deep.RegionHeld3
import Derived.Deep.LoopGhost
/- maps.Clone of who has which lock: a new map that reads the same. -/
namespace Go.Proofs.Ytgclbeagifoifaa
open Go.RowKit Go.Shelf
set_option linter.unusedVariables false
def cloneKk_ren : Go.Shelf.Ren := ⟨fun | 5 => 31 | 7 => 38 | n => n, fun | 23 => 52 | 25 => 34 | 3 => 3 | 4 => 4 | 20 => 20 | n => n, fun | n => n⟩
theorem cloneKk : Go.Proofs.SlLaysW.n5 Try.prog cloneKk_ren := {
  mixed := by kernel_rfl
  f5 := ⟨Try.f31.name, by decide, Try.func31.trans (congrArg some (by kernel_rfl))⟩
  f7 := Try.func38.trans (congrArg some (by kernel_rfl))
  t4 := Try.underlying4
  a4 := Try.isAgg4
  z4 := Try.sizeOf4
  v4 := Try.zeroValue4
  t20 := Try.underlying20
  a20 := Try.isAgg20
  z20 := Try.sizeOf20
  v20 := Try.zeroValue20
  t23 := Try.underlying52
  a23 := Try.isAgg52
  z23 := Try.sizeOf52
  v23 := Try.zeroValue52 }
theorem cloneK_any {w : World} {b sz : Nat} {hm : Nat → Option Nat} (h : HasAt w b hm sz) :
    Calls Try.prog 31 #[.map (some b)] w fun e w' => e = .returned (.map (some w.heap.size)) ∧ HasAt w' w.heap.size hm sz ∧ HasAt w' b hm sz ∧ Below w.heap.size w w' := by
  obtain ⟨D, hown, h2, h3, h4⟩ := h
  refine (AnyW.maps_Clone_owns cloneKk 34 kR b sz D w hown).mono ?_
  rintro e w' ⟨rfl, g1, g2, hb⟩
  exact ⟨rfl, ⟨D, g1, h2, h3, h4⟩, ⟨D, g2, h2, h3, h4⟩, hb⟩
end Go.Proofs.Ytgclbeagifoifaa
/- Copy: the same locks in new memory. -/
namespace Go.Proofs.Ytgclbeagifoifaa
open Go.RowKit
set_option linter.unusedVariables false
theorem fold_set : ∀ (l : List Value) (o : Nat) (cs : Array Value) (j : Nat), 2 + o + l.length ≤ cs.size →
    ((l.zipIdx o).foldl (fun cs x => cs.setIfInBounds (2 + x.2) x.1) cs)[j]? = if 2 + o ≤ j ∧ j < 2 + o + l.length then l[j - (2 + o)]? else cs[j]?
  | [], o, cs, j, _ => by
    rw [if_neg (by simp)]
    rfl
  | v :: l, o, cs, j, h => by
    rw [List.zipIdx_cons, List.foldl_cons, fold_set l (o + 1) _ j (by simp at h ⊢; omega)]
    simp only [List.length_cons] at h ⊢
    by_cases h1 : 2 + (o + 1) ≤ j ∧ j < 2 + (o + 1) + l.length
    · rw [if_pos h1, if_pos (by omega), show j - (2 + o) = (j - (2 + (o + 1))) + 1 from by omega, List.getElem?_cons_succ]
    · rw [if_neg h1]
      by_cases h2 : j = 2 + o
      · subst h2
        rw [if_pos (by omega), Nat.sub_self, List.getElem?_cons_zero, Array.getElem?_setIfInBounds_self_of_lt (by omega)]
      · rw [if_neg (by omega), Array.getElem?_setIfInBounds_ne (by omega)]
theorem tcells_fold (n : Nat) (m : Option Nat) (wt : Nat → Nat) {ws : List Value} (hw : ws = (List.range 64).map (fun c => wv (wt c))) :
    ws.zipIdx.foldl (fun cs x => cs.setIfInBounds (2 + x.2) x.1) ((Try.zeroCells55.setIfInBounds 0 (.int .i64 (n : Int))).setIfInBounds 1 (.map m)) = ktcells n m wt := by
  have hl : ws.length = 64 := by rw [hw, List.length_map, List.length_range]
  rw [tcells_made]
  apply Array.ext_getElem?
  intro j
  rw [fold_set ws 0 _ j (by rw [hl, tcells_size]; omega), hl]
  by_cases h : 2 + 0 ≤ j ∧ j < 2 + 0 + 64
  · obtain ⟨i, rfl⟩ : ∃ i, j = 2 + i := ⟨j - 2, by omega⟩
    rw [if_pos h, tcells_w _ _ _ (by omega), hw, show 2 + i - (2 + 0) = i from by omega, List.getElem?_map, List.getElem?_range (by omega)]
    rfl
  · rw [if_neg h]
    by_cases h2 : j < 2
    · rcases (by omega : j = 0 ∨ j = 1) with rfl | rfl
      · rw [tcells_0, tcells_0]
      · rw [tcells_1, tcells_1]
    · rw [Array.getElem?_eq_none (by rw [tcells_size]; omega), Array.getElem?_eq_none (by rw [tcells_size]; omega)]
abbrev CpK (w : World) (g b : Nat) (s : Lk) (ws : List Value) (W' : World) : Prop := W'.cell? ⟨g, 0, none⟩ = some (.int .i64 (s.n : Int)) ∧ W'.cell? ⟨g, 1, none⟩ = some (.map (some b)) ∧ W'.rangeAt g 2 ws ∧ Below w.heap.size w W'
theorem CpK.low {w W' : World} {g b : Nat} {s : Lk} {ws : List Value} (h : CpK w g b s ws W') : Below w.heap.size w W' := h.2.2.2
set_option maxRecDepth 100000 in
set_option maxHeartbeats 2000000 in
theorem copy_any {w : World} {g b : Nat} {s : Lk} (h : KAt w g b s) :
    Calls Try.prog 10 #[.pointer (some ⟨g, 0, none⟩)] w fun e w' => ∃ g' b', e = .returned (.pointer (some ⟨g', 0, none⟩)) ∧ OwnK w w' g' b' s := by
  have HN := Lib.hid (knone_yes h)
  have HH := Lib.hid h
  have hcn := h.cn
  have hcm := h.cm
  clear h
  go_enter Try.func10, Try.ntmps10
  go_wp2_with fail
  refine HN.out.mono ?_
  rintro e w1 ⟨rfl, rfl⟩
  go_wp2
  obtain ⟨ws, hws⟩ : ∃ ws : List Value, ws = (List.range 64).map (fun c => wv (s.wt c)) := ⟨_, rfl⟩
  have hwl : ws.length = 64 := by rw [hws, List.length_map, List.length_range]
  have hra : ∀ W', Below w.heap.size w W' → W'.rangeAt g 2 ws := fun W' hb j v hv => by
    have hj : j < 64 := by rw [← hwl]; exact (List.getElem?_eq_some_iff.1 hv).1
    have e : v = .int .u64 (s.wt j : Int) := by
      rw [hws, List.getElem?_map, List.getElem?_range hj] at hv
      exact (Option.some.inj hv).symm
    rw [e]
    exact (HH.out.below hb).cw hj
  have hu := Try.underlying53
  have hi : (Try.prog.info? 53).map (·.size) = some ws.length := by rw [hwl]; kernel_rfl
  have STAY := Lib.hid fun W' (hb : Below w.heap.size w W') => And.intro ((hb.cell (p := ⟨g, 0, none⟩) (w.block_lt_of_cell? _ hcn)).trans hcn) (And.intro ((hb.cell (p := ⟨g, 1, none⟩) (w.block_lt_of_cell? _ hcm)).trans hcm) (And.intro (hra W' hb) hb))
  have HC := Lib.hid fun W' (hS : CpK w g b s ws W') => cloneK_any (HH.out.below hS.low).mp
  have HWS := Lib.hid hws
  clear hcn hcm hra hws
  go_region_held3 (fun W' => W'.cell? ⟨g, 0, none⟩ = some (.int .i64 (s.n : Int)) ∧ W'.cell? ⟨g, 1, none⟩ = some (.map (some b)) ∧ W'.rangeAt g 2 ws ∧ Below w.heap.size w W')
    ((refine STAY.out _ ?_; (first | exact drew_below _ | (refine Below.and ?_ hb; exact CpK.low (g := g) (b := b) (s := s) (ws := ws) (by assumption)) | (refine Below.and ?_ (alloc_below _ _); exact CpK.low (g := g) (b := b) (s := s) (ws := ws) (by assumption)))))
    (first | (go_at_call 31; refine (HC.out _ (by assumption)).mono ?_; rintro e wn ⟨rfl, ho, _, hb⟩))
  rw [tcells_fold _ _ _ HWS.out]
  have hbw : Below w.heap.size w wn := Below.and (drew_below w) hb
  have HE := Lib.hid (show ∃ g' b', Ending.returned (.pointer (some ⟨wn.heap.size, 0, none⟩)) = .returned (.pointer (some ⟨g', 0, none⟩)) ∧ OwnK w (wn.alloc (.cells (ktcells s.n (some w.heap.size) s.wt) 55)) g' b' s from
    ⟨wn.heap.size, w.heap.size, rfl, ⟨⟨Row.new wn _ _, HasAt.same ho (Below.heap_alloc wn _ _ (HasAt.lt ho)), HH.out.ok⟩, hbw.size, Nat.le_refl _, Below.and hbw (alloc_below _ _)⟩⟩)
  clear hbw hb
  go_wp2
  go_ret
  exact HE.out
end Go.Proofs.Ytgclbeagifoifaa
/- The law's own table of locks, as it lies in memory: who has which, in a list without order; Is and Holder of it. -/
namespace Go.Proofs.Ytgclbeagifoifaa
open Go.RowKit
set_option linter.unusedVariables false
def flatH (l : List (Nat × Nat)) : List Value := l.flatMap fun p => [wv p.1, .int .i64 (p.2 : Int)]
theorem flatH_len (l : List (Nat × Nat)) : (flatH l).length = 2 * l.length := by
  unfold flatH
  induction l with
  | nil => rfl
  | cons a t ih => simp [List.flatMap_cons, ih]; omega
theorem flatH_snoc (l : List (Nat × Nat)) (p : Nat × Nat) : flatH (l ++ [p]) = flatH l ++ [wv p.1, .int .i64 (p.2 : Int)] := by simp [flatH]
theorem flatH_at : ∀ (l : List (Nat × Nat)) (i : Nat) (p : Nat × Nat), l[i]? = some p → (flatH l)[i * 2]? = some (wv p.1) ∧ (flatH l)[i * 2 + 1]? = some (.int .i64 (p.2 : Int))
  | a :: t, 0, p, h => by
    cases h
    exact ⟨rfl, rfl⟩
  | a :: t, i + 1, p, h => by
    have := flatH_at t i p h
    rw [show (i + 1) * 2 = i * 2 + 1 + 1 from by omega]
    exact this
/-- The table gr: the list l of who has which, and for what each of the n clients waits; its rows lie at or behind B. -/
structure RefAt (w : World) (B gr n : Nat) (l : List (Nat × Nat)) (wt : Nat → Nat) (vL vW : Value) : Prop where
  row : Row w gr 40 #[vL, vW]
  li : w.ownsRow B 67 2 vL l.length (flatH l)
  wa : w.ownsRow B 34 1 vW n ((List.range n).map fun c => wv (wt c))
theorem own2_shape {w : World} {B n : Nat} {e : TypeId} {v : Value} {xs : List Value} (h : w.ownsRow B e 2 v n xs) (hn : 0 < n) :
    ∃ (g cap : Nat) (cur : Array Value), v = .slice (some ⟨g, 0, none⟩) n cap ∧ B ≤ g ∧ n ≤ cap ∧ cap ≤ maxLen ∧ Row w g e cur ∧ ∀ (i : Nat) (u : Value), xs[i]? = some u → cur[i]? = some u := by
  rcases h.2 with ⟨_, h0⟩ | ⟨g, cap, cur, rfl, hg, hh, hnc, hm, hs, ht⟩
  · omega
  · refine ⟨g, cap, cur, rfl, hg, hnc, hm, hh, fun i u hu => ?_⟩
    rw [← ht, List.getElem?_take] at hu
    split at hu
    · rw [← Array.getElem?_toList]; exact hu
    · cases hu
theorem own2_sl {w : World} {B n : Nat} {e : TypeId} {v : Value} {xs : List Value} (h : w.ownsRow B e 2 v n xs) : ∃ A cap, v = .slice A n cap ∧ n ≤ maxLen := by
  rcases h.2 with ⟨rfl, rfl⟩ | ⟨g, cap, cur, rfl, hg, hh, hnc, hm, hs, ht⟩
  · exact ⟨none, 0, rfl, by decide⟩
  · exact ⟨_, cap, rfl, by omega⟩
/-- Who has it, by the list: below 0 nobody. -/
def rHold (l : List (Nat × Nat)) (id : Nat) : Int := match l.find? (fun p => p.1 == id) with | some p => (p.2 : Int) | none => -1
theorem rHold_none {l : List (Nat × Nat)} {id : Nat} (h : ∀ (j : Nat) (p : Nat × Nat), l[j]? = some p → p.1 ≠ id) : rHold l id = -1 := by
  unfold rHold
  rw [List.find?_eq_none.2]
  intro p hp
  obtain ⟨j, hj⟩ := List.mem_iff_getElem?.1 hp
  simpa using h j p hj
theorem rHold_some {l : List (Nat × Nat)} {id i : Nat} {p : Nat × Nat} (hi : l[i]? = some p) (hp : p.1 = id) (h : ∀ (j : Nat) (p : Nat × Nat), j < i → l[j]? = some p → p.1 ≠ id) : rHold l id = (p.2 : Int) := by
  unfold rHold
  have e : l.find? (fun p => p.1 == id) = some p := by
    rw [List.find?_eq_some_iff_getElem]
    have hl := (List.getElem?_eq_some_iff.1 hi).1
    refine ⟨by simpa using hp, i, hl, (List.getElem?_eq_some_iff.1 hi).2, fun j hj => ?_⟩
    simpa using h j _ hj (List.getElem?_eq_getElem (by omega))
  rw [e]
set_option maxRecDepth 100000 in
set_option maxHeartbeats 2000000 in
theorem rHolder_any {w : World} {B gr n : Nat} {l : List (Nat × Nat)} {wt : Nat → Nat} {vL vW : Value} (h : RefAt w B gr n l wt vL vW) (id : Nat) :
    Calls Try.prog 23 #[.pointer (some ⟨gr, 0, none⟩), .int .u64 (id : Int)] w fun e w' => e = .returned (.int .i64 (rHold l id)) ∧ w = w' := by
  obtain ⟨A, cap, rfl, hm⟩ := own2_sl h.li
  have c0 := h.row.cell 0
  simp only [List.getElem?_toArray, List.getElem?_cons_zero] at c0
  have HH := Lib.hid h.li
  obtain ⟨m, hmm⟩ : ∃ m, m = l.length := ⟨_, rfl⟩
  rw [← hmm] at c0 hm
  have HM := Lib.hid hmm
  have hmx : m ≤ 9223372036854775807 := by unfold maxLen at hm; omega
  clear h hmm
  go_enter Try.func23, Try.ntmps23
  go_wp2
  go_loopg [5] m (fun k v wr => ∃ i : Nat, v = .int .i64 (i : Int) ∧ i ≤ m ∧ m - i ≤ k ∧ wr = w ∧ ∀ (j : Nat) (p : Nat × Nat), j < i → l[j]? = some p → p.1 ≠ id)
  case atStart => exact ⟨0, rfl, by omega, by omega, rfl, fun j p hj => by omega⟩
  case round =>
    obtain ⟨i, rfl, him, hk, rfl, hno⟩ := hrel
    have HNO := Lib.hid hno
    clear hno
    by_cases hlt : i < m
    · have hlt' : i < l.length := by rw [← HM.out]; exact hlt
      obtain ⟨gq, cp, cur, hv, _, _, _, hrow, hcur⟩ := own2_shape HH.out (by omega)
      obtain rfl : A = some ⟨gq, 0, none⟩ := by injection hv
      obtain ⟨p, hp⟩ : ∃ p, l[i]? = some p := ⟨_, List.getElem?_eq_getElem hlt'⟩
      obtain ⟨f0, f1⟩ := flatH_at l i p hp
      have q0 : wr.cell? ⟨gq, i * 2, none⟩ = some (.int .u64 (p.1 : Int)) := by rw [hrow.cell]; exact hcur _ _ f0
      have q1 : wr.cell? ⟨gq, i * 2 + 1, none⟩ = some (.int .i64 (p.2 : Int)) := by rw [hrow.cell]; exact hcur _ _ f1
      have HP := Lib.hid hp
      clear hrow hcur hv f0 f1 hlt' hp
      by_cases he : p.1 = id
      · have HE := Lib.hid (rHold_some HP.out he HNO.out)
        subst he
        go_wp2
        go_ret
        exact ⟨by rw [HE.out]; rfl, rfl⟩
      · have heb := nat_ne' he
        go_wp2
        go_roundg (m - (i + 1))
        case measure => omega
        case rel => exact ⟨i + 1, by go_num, by omega, by omega, rfl, fun j q hj hq => by
          by_cases e : j = i
          · subst e; rw [HP.out] at hq; cases hq; exact he
          · exact HNO.out j q (by omega) hq⟩
    · have hie : i = m := by omega
      have hjd : decide ((i : Int) < (m : Int)) = false := by simp; omega
      have HE := Lib.hid (rHold_none (l := l) (id := id) fun j p hp => HNO.out j p (by have := (List.getElem?_eq_some_iff.1 hp).1; have := HM.out; omega) hp)
      go_wp2
      go_ret
      exact ⟨by rw [HE.out]; rfl, rfl⟩
theorem rIs_any {w : World} {B gr n : Nat} {l : List (Nat × Nat)} {wt : Nat → Nat} {vL vW : Value} (h : RefAt w B gr n l wt vL vW) (c : Int) :
    Calls Try.prog 25 #[.pointer (some ⟨gr, 0, none⟩), .int .i64 c] w fun e w' => e = .returned (.bool (decide (0 ≤ c ∧ c < (n : Int)))) ∧ w = w' := by
  obtain ⟨A, cap, rfl, _, _, _, _⟩ := own_sl h.wa
  have c1 := h.row.cell 1
  simp only [List.getElem?_toArray, List.getElem?_cons_succ, List.getElem?_cons_zero] at c1
  clear h
  by_cases h0 : 0 ≤ c
  · have d0 : decide (0 ≤ c) = true := by simpa using h0
    by_cases h1 : c < (n : Int)
    · have d1 : decide (c < (n : Int)) = true := by simpa using h1
      have e : decide (0 ≤ c ∧ c < (n : Int)) = true := by simp [h0, h1]
      rw [e]
      clear e
      go_enter Try.func25, Try.ntmps25
      go_wp2
      go_ret
      exact ⟨rfl, rfl⟩
    · have d1 : decide (c < (n : Int)) = false := by simpa using h1
      have e : decide (0 ≤ c ∧ c < (n : Int)) = false := by simp [h1]
      rw [e]
      clear e
      go_enter Try.func25, Try.ntmps25
      go_wp2
      go_ret
      exact ⟨rfl, rfl⟩
  · have d0 : decide (0 ≤ c) = false := by simpa using h0
    have e : decide (0 ≤ c ∧ c < (n : Int)) = false := by simp [h0]
    rw [e]
    clear e
    go_enter Try.func25, Try.ntmps25
    go_wp2
    go_ret
    exact ⟨rfl, rfl⟩
end Go.Proofs.Ytgclbeagifoifaa
