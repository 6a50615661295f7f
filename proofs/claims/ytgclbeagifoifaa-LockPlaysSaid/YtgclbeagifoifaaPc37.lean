/- Texts of this claim, packed: 7Same, 7DoAny. -/
import Derived.Test.YtgclbeagifoifaaPc36
/- The document's Same of two lists of addresses that read alike; what a drop leaves. -/
namespace Go.Proofs.Ytgclbeagifoifaa
open Go.RowKit
set_option linter.unusedVariables false
/-- A slice of addresses that reads as a list. -/
def AdrL (w : World) (v : Value) (xs : List Nat) : Prop :=
  ∃ A cap, v = .slice A xs.length cap ∧ (0 < xs.length → ∃ g, A = some ⟨g, 0, none⟩ ∧ ∀ (k x : Nat), xs[k]? = some x → w.cell? ⟨g, k, none⟩ = some (.int .u64 (x : Int)))
theorem AdrL.below {w w' : World} {v : Value} {xs : List Nat} (h : AdrL w v xs) (hb : Below w.heap.size w w') : AdrL w' v xs := by
  obtain ⟨A, cap, rfl, h⟩ := h
  refine ⟨A, cap, rfl, fun h0 => ?_⟩
  obtain ⟨g, rfl, hc⟩ := h h0
  exact ⟨g, rfl, fun k x hx => (hb.cell (w.block_lt_of_cell? _ (hc k x hx))).trans (hc k x hx)⟩
theorem own_lenA {w : World} {B n : Nat} {v : Value} {xs : List Value} (h : w.ownsRow B 34 1 v n xs) : n ≤ 9223372036854775807 := by
  rcases h.2 with ⟨_, h0⟩ | ⟨g, cap, cur, _, _, _, hc, hm, _⟩
  · omega
  · unfold maxLen at hm
    omega
theorem AdrL.own {w : World} {B : Nat} {v : Value} {xs : List Nat} (h : w.ownsRow B 34 1 v xs.length (xs.map wv)) : AdrL w v xs := by
  rcases h.2 with ⟨rfl, h0⟩ | ⟨g, cap, cur, rfl, _⟩
  · exact ⟨none, 0, by rw [h0], fun h1 => by omega⟩
  · refine ⟨_, cap, rfl, fun h0 => ⟨g, rfl, fun k x hx => ?_⟩⟩
    have := h.cells (g := g) rfl k (wv x) (by rw [List.getElem?_map, hx]; rfl)
    rwa [add_atA] at this
set_option maxRecDepth 100000 in
set_option maxHeartbeats 1600000 in
theorem r5Same_yes {w : World} {v v' : Value} {xs : List Nat} (h : AdrL w v xs) (h' : AdrL w v' xs) (hl : xs.length ≤ 9223372036854775807) :
    Calls Try.prog 27 #[v, v'] w fun e w' => e = .returned (.bool true) ∧ Below w.heap.size w w' := by
  obtain ⟨A, c, rfl, hA⟩ := h
  obtain ⟨A', c', rfl, hB⟩ := h'
  obtain ⟨n, hn⟩ : ∃ n, n = xs.length := ⟨_, rfl⟩
  have HX := Lib.hid (fun k (hk : k < n) => (show ∃ x g g', A = some ⟨g, 0, none⟩ ∧ A' = some ⟨g', 0, none⟩ ∧ w.cell? ⟨g, k, none⟩ = some (.int .u64 ((x : Nat) : Int)) ∧ w.cell? ⟨g', k, none⟩ = some (.int .u64 ((x : Nat) : Int)) by
    obtain ⟨g, e1, h1⟩ := hA (by omega)
    obtain ⟨g', e2, h2⟩ := hB (by omega)
    have hx : xs[k]? = some (xs[k]'(by omega)) := List.getElem?_eq_getElem (by omega)
    exact ⟨_, g, g', e1, e2, h1 k _ hx, h2 k _ hx⟩))
  rw [← hn] at hl ⊢
  have hne : ((n : Int) != (n : Int)) = false := by simp
  clear hA hB hn
  go_enter Try.func27, Try.ntmps27
  go_wp2_with fail
  go_loopw [5] (fun i wr => ∃ k : Nat, k ≤ n ∧ i = .int .i64 (k : Int) ∧ ∃ q, wr = w.drewN q) (fun i _ => n - (intOf i).toNat)
  case atStart => exact ⟨0, by omega, rfl, 0, rfl⟩
  case round =>
    obtain ⟨k, hk, rfl, q, rfl⟩ := hrel
    by_cases hlt : k < n
    · obtain ⟨x, g, g', rfl, rfl, a1, b1⟩ := HX.out k hlt
      have hxx : ((x : Int) != (x : Int)) = false := by simp
      go_wp2
      go_quiet (fail)
      go_wp2
      exact ⟨⟨k + 1, by omega, by go_num, q + nq, rfl⟩, by simp [intOf]; omega⟩
    · obtain rfl : k = n := by omega
      go_wp2
      go_ret
      exact ⟨rfl, drewN_below _ _⟩
theorem drop_wt {s : Lk} {c : Int} {i : Nat} (hi : (i : Int) ≠ c) : (dropT s c).wt i = s.wt i := by
  unfold dropT
  split
  · rename_i hc
    obtain ⟨k, rfl, hk⟩ := isC_of hc
    show setW s.wt k 0 i = s.wt i
    unfold setW
    rw [if_neg (fun e => hi (by rw [e]))]
  · rfl
theorem drop_wt0 {s : Lk} {c : Nat} (hc : c < s.n) : (dropT s (c : Int)).wt c = 0 := by
  unfold dropT
  rw [if_pos (isC_yes hc)]
  show setW s.wt c 0 c = 0
  unfold setW
  rw [if_pos rfl]
theorem drop_held {s : Lk} {c : Int} {i : Nat} {xs : List Nat} (hi : (i : Int) ≠ c) (h : HeldIs s i xs) : HeldIs (dropT s c) i xs := by
  refine ⟨h.1, fun id => ?_⟩
  rw [h.2 id]
  unfold dropT
  split
  · rename_i hc
    obtain ⟨k, rfl, hk⟩ := isC_of hc
    show _ ↔ (if s.hm id = some k then none else s.hm id) = some i
    split
    · rename_i e
      rw [e]
      constructor
      · intro e2
        injection e2 with e2
        exact absurd (by rw [e2]) hi
      · intro e2
        cases e2
    · exact Iff.rfl
  · exact Iff.rfl
theorem drop_none {s : Lk} {c : Nat} (hc : c < s.n) : HeldIs (dropT s (c : Int)) c [] := by
  refine ⟨List.Pairwise.nil, fun id => ?_⟩
  unfold dropT
  rw [if_pos (isC_yes hc)]
  show _ ↔ (if s.hm id = some c then none else s.hm id) = some c
  split
  · simp
  · rename_i e
    simp [e]
end Go.Proofs.Ytgclbeagifoifaa
/- One call of any kind on the table and on the document's, as a step: both go on saying the same. -/
namespace Go.Proofs.Ytgclbeagifoifaa
open Go.RowKit
set_option linter.unusedVariables false
/-- Both tables, new since w0, in a world in which nothing older has turned. -/
structure DSt (w0 w : World) (g b gr n m : Nat) (s : Lk) (vL vW : Value) : Prop where
  k : KAt w g b s
  r : RIs w w0.heap.size gr s m vL vW
  sn : s.n = n
  sz : s.sz ≤ m
  lg : w0.heap.size ≤ g
  lb : w0.heap.size ≤ b
  lr : w0.heap.size ≤ gr
  bel : Below w0.heap.size w0 w
theorem DSt.fp {w0 w : World} {g b gr n m : Nat} {s : Lk} {vL vW : Value} (h : DSt w0 w g b gr n m s vL vW) : ∀ k, kfp g b k ∨ rfp gr vL vW k → w0.heap.size ≤ k := by
  obtain ⟨l, wt, hR, _⟩ := h.r.ex
  rintro k ((rfl | rfl) | rfl | hk | hk)
  · exact h.lg
  · exact h.lb
  · exact h.lr
  · exact own2_from hR.li k hk
  · exact (own_fromA hR.wa k hk).1
theorem DSt.next {w0 w w' : World} {g b gr n m m' : Nat} {s s' : Lk} {vL vL' vW : Value} (h : DSt w0 w g b gr n m s vL vW) (hk : KAt w' g b s') (hr : RIs w' w0.heap.size gr s' m' vL' vW) (hn : s'.n = s.n) (hz : s'.sz ≤ m') (hb : But w w' (fun k => kfp g b k ∨ rfp gr vL vW k)) : DSt w0 w' g b gr n m' s' vL' vW :=
  ⟨hk, hr, hn.trans h.sn, hz, h.lg, h.lb, h.lr, Below.trans h.bel (hb.below h.bel.size h.fp)⟩
theorem DSt.below {w0 w w' : World} {g b gr n m : Nat} {s : Lk} {vL vW : Value} (h : DSt w0 w g b gr n m s vL vW) (hb : Below w.heap.size w w') : DSt w0 w' g b gr n m s vL vW :=
  ⟨h.k.below hb, h.r.below hb, h.sn, h.sz, h.lg, h.lb, h.lr, Below.and h.bel hb⟩
theorem do7_any {w0 w : World} {g b gr n m : Nat} {s : Lk} {vL vW : Value} (h : DSt w0 w g b gr n m s vL vW) (hm : m ≤ 900) (z c : Int) {id : Nat} (hi : id < 18446744073709551616) :
    Calls Try.prog 8 #[.pointer (some ⟨g, 0, none⟩), .pointer (some ⟨gr, 0, none⟩), .agg #[.int .i64 z, .int .i64 c, .int .u64 (id : Int)]] w fun e w' => ∃ g' b' s' vL', e = .returned (.tuple #[.pointer (some ⟨g', 0, none⟩), .bool true]) ∧ DSt w0 w' g' b' gr n (m + 1) s' vL' vW := by
  have hB := h.bel.size
  have hz := h.sz
  by_cases h1 : z = 1
  · subst h1
    refine (do7_try h.k h.r hB hm (by omega) c hi).mono ?_
    rintro e w' ⟨rfl, hk, ⟨vL', hr, _⟩, hb⟩
    exact ⟨g, b, _, vL', rfl, h.next hk hr (tryT_n _ _ _) (by have := tryT_sz s c id; omega) hb⟩
  · by_cases h2 : z = 2
    · subst h2
      refine (do7_rel h.k h.r hB hm (by omega) c hi).mono ?_
      rintro e w' ⟨rfl, hk, ⟨vL', hr, _⟩, hb⟩
      exact ⟨g, b, _, vL', rfl, h.next hk (hr.grow (Nat.le_succ _)) (relT_n _ _ _) (by have := relT_sz s c id; omega) hb⟩
    · by_cases h3 : z = 3
      · subst h3
        refine (do7_drop h.k h.r hB hm c hi).mono ?_
        rintro e w' ⟨rfl, hk, ⟨vL', hr, _⟩, hb⟩
        exact ⟨g, b, _, vL', rfl, h.next hk (hr.grow (Nat.le_succ _)) (dropT_n _ _) (by rw [dropT_sz]; omega) hb⟩
      · by_cases h4 : z = 4
        · subst h4
          refine (do7_copy h.k h.r hB hm c hi).mono ?_
          rintro e w' ⟨g', b', rfl, hk, hr, hg, hb, hbl, _⟩
          exact ⟨g', b', s, vL, rfl, hk, hr.grow (Nat.le_succ _), h.sn, by omega, Nat.le_trans hB hg, Nat.le_trans hB hb, h.lr, Below.and h.bel hbl⟩
        · refine (do7_else h.k h.r hB hm z (by omega) c hi).mono ?_
          rintro e w' ⟨rfl, hk, ⟨vL', hr, _⟩, hb⟩
          exact ⟨g, b, _, vL', rfl, h.next hk (hr.grow (Nat.le_succ _)) rfl (by omega) hb⟩
end Go.Proofs.Ytgclbeagifoifaa
