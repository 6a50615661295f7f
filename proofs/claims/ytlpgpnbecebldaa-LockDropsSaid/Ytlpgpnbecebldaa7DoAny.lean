/- One call of any kind on the table and on the document's, as a step: both go on saying the same. -/
import Derived.Test.Ytlpgpnbecebldaa7Same
namespace Go.Proofs.Ytlpgpnbecebldaa
open Go.RowKit
set_option linter.unusedVariables false
/-- Both tables, new since w0, in a world in which nothing older has turned. -/
structure DSt (w0 w : World) (g b gr n m : Nat) (s : Lk) (vL vW : Value) : Prop where
  k : KAt w g b s
  r : RIs w w0.heap.size gr s m vL vW
  sn : s.n = n
  sz : s.sz ≤ m
  lg : w0.heap.size ≤ g
  lb : w0.heap.size ≤ b
  lr : w0.heap.size ≤ gr
  bel : Below w0.heap.size w0 w
theorem DSt.fp {w0 w : World} {g b gr n m : Nat} {s : Lk} {vL vW : Value} (h : DSt w0 w g b gr n m s vL vW) : ∀ k, kfp g b k ∨ rfp gr vL vW k → w0.heap.size ≤ k := by
  obtain ⟨l, wt, hR, _⟩ := h.r.ex
  rintro k ((rfl | rfl) | rfl | hk | hk)
  · exact h.lg
  · exact h.lb
  · exact h.lr
  · exact own2_from hR.li k hk
  · exact (own_fromA hR.wa k hk).1
theorem DSt.next {w0 w w' : World} {g b gr n m m' : Nat} {s s' : Lk} {vL vL' vW : Value} (h : DSt w0 w g b gr n m s vL vW) (hk : KAt w' g b s') (hr : RIs w' w0.heap.size gr s' m' vL' vW) (hn : s'.n = s.n) (hz : s'.sz ≤ m') (hb : But w w' (fun k => kfp g b k ∨ rfp gr vL vW k)) : DSt w0 w' g b gr n m' s' vL' vW :=
  ⟨hk, hr, hn.trans h.sn, hz, h.lg, h.lb, h.lr, Below.trans h.bel (hb.below h.bel.size h.fp)⟩
theorem DSt.below {w0 w w' : World} {g b gr n m : Nat} {s : Lk} {vL vW : Value} (h : DSt w0 w g b gr n m s vL vW) (hb : Below w.heap.size w w') : DSt w0 w' g b gr n m s vL vW :=
  ⟨h.k.below hb, h.r.below hb, h.sn, h.sz, h.lg, h.lb, h.lr, Below.and h.bel hb⟩
theorem do7_any {w0 w : World} {g b gr n m : Nat} {s : Lk} {vL vW : Value} (h : DSt w0 w g b gr n m s vL vW) (hm : m ≤ 900) (z c : Int) {id : Nat} (hi : id < 18446744073709551616) :
    Calls Try.prog 9 #[.pointer (some ⟨g, 0, none⟩), .pointer (some ⟨gr, 0, none⟩), .agg #[.int .i64 z, .int .i64 c, .int .u64 (id : Int)]] w fun e w' => ∃ g' b' s' vL', e = .returned (.tuple #[.pointer (some ⟨g', 0, none⟩), .bool true]) ∧ DSt w0 w' g' b' gr n (m + 1) s' vL' vW := by
  have hB := h.bel.size
  have hz := h.sz
  by_cases h1 : z = 1
  · subst h1
    refine (do7_try h.k h.r hB hm (by omega) c hi).mono ?_
    rintro e w' ⟨rfl, hk, ⟨vL', hr, _⟩, hb⟩
    exact ⟨g, b, _, vL', rfl, h.next hk hr (tryT_n _ _ _) (by have := tryT_sz s c id; omega) hb⟩
  · by_cases h2 : z = 2
    · subst h2
      refine (do7_rel h.k h.r hB hm (by omega) c hi).mono ?_
      rintro e w' ⟨rfl, hk, ⟨vL', hr, _⟩, hb⟩
      exact ⟨g, b, _, vL', rfl, h.next hk (hr.grow (Nat.le_succ _)) (relT_n _ _ _) (by have := relT_sz s c id; omega) hb⟩
    · by_cases h3 : z = 3
      · subst h3
        refine (do7_drop h.k h.r hB hm c hi).mono ?_
        rintro e w' ⟨rfl, hk, ⟨vL', hr, _⟩, hb⟩
        exact ⟨g, b, _, vL', rfl, h.next hk (hr.grow (Nat.le_succ _)) (dropT_n _ _) (by rw [dropT_sz]; omega) hb⟩
      · by_cases h4 : z = 4
        · subst h4
          refine (do7_copy h.k h.r hB hm c hi).mono ?_
          rintro e w' ⟨g', b', rfl, hk, hr, hg, hb, hbl, _⟩
          exact ⟨g', b', s, vL, rfl, hk, hr.grow (Nat.le_succ _), h.sn, by omega, Nat.le_trans hB hg, Nat.le_trans hB hb, h.lr, Below.and h.bel hbl⟩
        · refine (do7_else h.k h.r hB hm z (by omega) c hi).mono ?_
          rintro e w' ⟨rfl, hk, ⟨vL', hr, _⟩, hb⟩
          exact ⟨g, b, _, vL', rfl, h.next hk (hr.grow (Nat.le_succ _)) rfl (by omega) hb⟩
end Go.Proofs.Ytlpgpnbecebldaa
