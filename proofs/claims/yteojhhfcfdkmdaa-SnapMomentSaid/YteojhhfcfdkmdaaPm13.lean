/- Texts of this claim, packed: SnS. -/
import Derived.Test.YteojhhfcfdkmdaaPm09
import Derived.Test.YteojhhfcfdkmdaaPm02
import Derived.Laws.EntriesVeiled
set_option linter.unusedSimpArgs false
set_option linter.unusedVariables false
/- A snapshot's cells, and what becomes of them; which word is read behind which; a node's word, loaded; no conditions. -/
namespace Go.Proofs.Yteojhhfcfdkmdaa
open Go.RowKit
set_option linter.unusedVariables false
/-- A snapshot's cells. -/
structure IsS (cs : Array Value) (p : Option Addr) (F : Value) (d : Bool) (k : Int) (a : Int) (r : Nat → Int) (wh wd lo : Int) (n : Nd) : Prop where
  sz : cs.size = 77
  c0 : cs[0]? = some (.pointer p)
  c1 : cs[1]? = some F
  c2 : cs[2]? = some (.bool d)
  c3 : cs[3]? = some (.int .i64 k)
  c4 : cs[4]? = some (.int .u64 a)
  rr : ∀ j, j < 48 → cs[5 + j]? = some (.int .u64 (r j))
  cw : cs[53]? = some (.int .i64 wh)
  cd : cs[54]? = some (.int .i64 wd)
  cl : cs[55]? = some (.int .u64 lo)
  cn : ∀ j u, n.cl[j]? = some u → cs[56 + j]? = some u
theorem gset_eq {cs : Array Value} {i : Nat} (v : Value) (h : i < cs.size) : (cs.setIfInBounds i v)[i]? = some v := by simp [Array.getElem?_setIfInBounds, h]
theorem gset_ne {cs : Array Value} {i j : Nat} (v : Value) (h : i ≠ j) : (cs.setIfInBounds i v)[j]? = cs[j]? := Array.getElem?_setIfInBounds_ne h
section
variable {cs : Array Value} {p : Option Addr} {F : Value} {d : Bool} {k a wh wd lo : Int} {r : Nat → Int} {n : Nd}
theorem nlt {n : Nd} {j : Nat} {u : Value} (h : n.cl[j]? = some u) : j < 21 := (List.getElem?_eq_some_iff.1 h).1
theorem IsS.next (h : IsS cs p F d k a r wh wd lo n) (F' : Value) : IsS (cs.setIfInBounds 1 F') p F' d k a r wh wd lo n :=
  ⟨by rw [Array.size_setIfInBounds]; exact h.sz, (gset_ne _ (by omega)).trans h.c0, gset_eq _ (by rw [h.sz]; omega), (gset_ne _ (by omega)).trans h.c2, (gset_ne _ (by omega)).trans h.c3, (gset_ne _ (by omega)).trans h.c4,
   fun j hj => (gset_ne _ (by omega)).trans (h.rr j hj), (gset_ne _ (by omega)).trans h.cw, (gset_ne _ (by omega)).trans h.cd, (gset_ne _ (by omega)).trans h.cl, fun j u hu => (gset_ne _ (by omega)).trans (h.cn j u hu)⟩
theorem IsS.done (h : IsS cs p F d k a r wh wd lo n) (d' : Bool) : IsS (cs.setIfInBounds 2 (.bool d')) p F d' k a r wh wd lo n :=
  ⟨by rw [Array.size_setIfInBounds]; exact h.sz, (gset_ne _ (by omega)).trans h.c0, (gset_ne _ (by omega)).trans h.c1, gset_eq _ (by rw [h.sz]; omega), (gset_ne _ (by omega)).trans h.c3, (gset_ne _ (by omega)).trans h.c4,
   fun j hj => (gset_ne _ (by omega)).trans (h.rr j hj), (gset_ne _ (by omega)).trans h.cw, (gset_ne _ (by omega)).trans h.cd, (gset_ne _ (by omega)).trans h.cl, fun j u hu => (gset_ne _ (by omega)).trans (h.cn j u hu)⟩
theorem IsS.code (h : IsS cs p F d k a r wh wd lo n) (k' : Int) : IsS (cs.setIfInBounds 3 (.int .i64 k')) p F d k' a r wh wd lo n :=
  ⟨by rw [Array.size_setIfInBounds]; exact h.sz, (gset_ne _ (by omega)).trans h.c0, (gset_ne _ (by omega)).trans h.c1, (gset_ne _ (by omega)).trans h.c2, gset_eq _ (by rw [h.sz]; omega), (gset_ne _ (by omega)).trans h.c4,
   fun j hj => (gset_ne _ (by omega)).trans (h.rr j hj), (gset_ne _ (by omega)).trans h.cw, (gset_ne _ (by omega)).trans h.cd, (gset_ne _ (by omega)).trans h.cl, fun j u hu => (gset_ne _ (by omega)).trans (h.cn j u hu)⟩
theorem IsS.which (h : IsS cs p F d k a r wh wd lo n) (z : Int) : IsS (cs.setIfInBounds 53 (.int .i64 z)) p F d k a r z wd lo n :=
  ⟨by rw [Array.size_setIfInBounds]; exact h.sz, (gset_ne _ (by omega)).trans h.c0, (gset_ne _ (by omega)).trans h.c1, (gset_ne _ (by omega)).trans h.c2, (gset_ne _ (by omega)).trans h.c3, (gset_ne _ (by omega)).trans h.c4,
   fun j hj => (gset_ne _ (by omega)).trans (h.rr j hj), gset_eq _ (by rw [h.sz]; omega), (gset_ne _ (by omega)).trans h.cd, (gset_ne _ (by omega)).trans h.cl, fun j u hu => (gset_ne _ (by omega)).trans (h.cn j u hu)⟩
theorem IsS.word (h : IsS cs p F d k a r wh wd lo n) (z : Int) : IsS (cs.setIfInBounds 54 (.int .i64 z)) p F d k a r wh z lo n :=
  ⟨by rw [Array.size_setIfInBounds]; exact h.sz, (gset_ne _ (by omega)).trans h.c0, (gset_ne _ (by omega)).trans h.c1, (gset_ne _ (by omega)).trans h.c2, (gset_ne _ (by omega)).trans h.c3, (gset_ne _ (by omega)).trans h.c4,
   fun j hj => (gset_ne _ (by omega)).trans (h.rr j hj), (gset_ne _ (by omega)).trans h.cw, gset_eq _ (by rw [h.sz]; omega), (gset_ne _ (by omega)).trans h.cl, fun j u hu => (gset_ne _ (by omega)).trans (h.cn j u hu)⟩
theorem IsS.low (h : IsS cs p F d k a r wh wd lo n) (z : Int) : IsS (cs.setIfInBounds 55 (.int .u64 z)) p F d k a r wh wd z n :=
  ⟨by rw [Array.size_setIfInBounds]; exact h.sz, (gset_ne _ (by omega)).trans h.c0, (gset_ne _ (by omega)).trans h.c1, (gset_ne _ (by omega)).trans h.c2, (gset_ne _ (by omega)).trans h.c3, (gset_ne _ (by omega)).trans h.c4,
   fun j hj => (gset_ne _ (by omega)).trans (h.rr j hj), (gset_ne _ (by omega)).trans h.cw, (gset_ne _ (by omega)).trans h.cd, gset_eq _ (by rw [h.sz]; omega), fun j u hu => (gset_ne _ (by omega)).trans (h.cn j u hu)⟩
/-- A word of the readings, put. -/
def rput (r : Nat → Int) (i : Nat) (v : Int) : Nat → Int := fun j => if j = i then v else r j
theorem IsS.rset (h : IsS cs p F d k a r wh wd lo n) {i : Nat} (hi : i < 48) (v : Int) : IsS (cs.setIfInBounds (5 + i) (.int .u64 v)) p F d k a (rput r i v) wh wd lo n :=
  ⟨by rw [Array.size_setIfInBounds]; exact h.sz, (gset_ne _ (by omega)).trans h.c0, (gset_ne _ (by omega)).trans h.c1, (gset_ne _ (by omega)).trans h.c2, (gset_ne _ (by omega)).trans h.c3, (gset_ne _ (by omega)).trans h.c4,
   fun j hj => by
    unfold rput
    by_cases e : j = i
    · subst e
      rw [if_pos rfl]
      exact gset_eq _ (by rw [h.sz]; omega)
    · rw [if_neg e]
      exact (gset_ne _ (by omega)).trans (h.rr j hj), (gset_ne _ (by omega)).trans h.cw, (gset_ne _ (by omega)).trans h.cd, (gset_ne _ (by omega)).trans h.cl, fun j u hu => (gset_ne _ (by omega)).trans (h.cn j u hu)⟩
/-- The readings, stored whole. -/
theorem IsS.rall (h : IsS cs p F d k a r wh wd lo n) {vs : List Value} {r' : Nat → Int} (hl : vs.length = 48) (hv : ∀ j, j < 48 → vs[j]? = some (.int .u64 (r' j))) : IsS (setL cs 5 vs) p F d k a r' wh wd lo n := by
  obtain ⟨h1, h2⟩ := setL_get vs 5 cs (by rw [h.sz, hl]; omega)
  have ho : ∀ i, i < 5 ∨ 53 ≤ i → (setL cs 5 vs)[i]? = cs[i]? := fun i hi => by rw [h2 i, if_neg (by omega)]
  exact ⟨h1.trans h.sz, (ho _ (by omega)).trans h.c0, (ho _ (by omega)).trans h.c1, (ho _ (by omega)).trans h.c2, (ho _ (by omega)).trans h.c3, (ho _ (by omega)).trans h.c4,
    fun j hj => by rw [h2 (5 + j), if_pos (by omega), show 5 + j - 5 = j by omega]; exact hv j hj, (ho _ (by omega)).trans h.cw, (ho _ (by omega)).trans h.cd, (ho _ (by omega)).trans h.cl, fun j u hu => (ho _ (by omega)).trans (h.cn j u hu)⟩
/-- The node, stored whole. -/
theorem IsS.node (h : IsS cs p F d k a r wh wd lo n) (m : Nd) : IsS (setL cs 56 m.cl) p F d k a r wh wd lo m := by
  obtain ⟨h1, h2⟩ := setL_get m.cl 56 cs (by rw [h.sz]; exact Nat.le_refl _)
  have hs : m.cl.length = 21 := m.size
  have ho : ∀ i, i < 56 → (setL cs 56 m.cl)[i]? = cs[i]? := fun i hi => by rw [h2 i, if_neg (by omega)]
  exact ⟨h1.trans h.sz, (ho _ (by omega)).trans h.c0, (ho _ (by omega)).trans h.c1, (ho _ (by omega)).trans h.c2, (ho _ (by omega)).trans h.c3, (ho _ (by omega)).trans h.c4,
    fun j hj => (ho _ (by omega)).trans (h.rr j hj), (ho _ (by omega)).trans h.cw, (ho _ (by omega)).trans h.cd, (ho _ (by omega)).trans h.cl, fun j u hu => by
      have := nlt hu
      rw [h2 (56 + j), if_pos (by omega), show 56 + j - 56 = j by omega]
      exact hu⟩
end
/-- What a change of the snapshot's own block leaves. -/
structure SnSw (w w' : World) (g : Nat) (cs : Array Value) : Prop where
  row : Row w' g 80 cs
  but : But w w' (fun k => k = g)
theorem SnSw.refl {w : World} {g : Nat} {cs : Array Value} (h : Row w g 80 cs) : SnSw w w g cs := ⟨h, But.refl _ _⟩
theorem SnSw.set {w w' : World} {g : Nat} {cs : Array Value} (h : SnSw w w' g cs) (i : Nat) (u : Value) : SnSw w (w'.setCell ⟨g, i, none⟩ u) g (cs.setIfInBounds i u) :=
  ⟨h.row.set i u, h.but.set (p := ⟨g, i, none⟩) rfl u⟩
theorem but_setCells {w w' : World} {g : Nat} (h : But w w' (fun k => k = g)) (vs : List Value) : ∀ o, But w (w'.setCells g o vs) (fun k => k = g) := by
  induction vs generalizing w' with
  | nil => exact fun o => h
  | cons v t ih => exact fun o => ih (h.set (p := ⟨g, o, none⟩) rfl v) (o + 1)
theorem SnSw.setAll {w w' : World} {g : Nat} {cs : Array Value} (h : SnSw w w' g cs) (o : Nat) (vs : List Value) : SnSw w (w'.setCells g o vs) g (setL cs o vs) :=
  ⟨row_setCellsAux vs o _ _ h.row, but_setCells h.but vs o⟩
theorem SnSw.below {w w1 w' : World} {g : Nat} {cs : Array Value} (h : SnSw w w1 g cs) (hb : Below w1.heap.size w1 w') : SnSw w w' g cs :=
  ⟨h.row.below hb h.row.lt, h.but.trans (But.of_below hb (fun _ => False)) (fun _ h => h.elim)⟩
/-- Which word is read behind one, and whether it is of the same reading. -/
def bh (k : Nat) (w : Int) : Nat × Bool := if k = 2 then (4, true) else if k = 4 then (8, true) else if k = 23 ∨ (8 < k ∧ k % 2 = 1 ∧ w = 0) then (0, false) else (k + 1, true)
theorem behindS_any {k : Nat} (hk : k < 24) (w : Int) (W : World) : Calls Try.prog 73 #[.int .i64 (k : Int), .int .u64 w] W fun e w' => e = .returned (.tuple #[.int .i64 (((bh k w).1 : Nat) : Int), .bool (bh k w).2]) ∧ W = w' := by
  by_cases h2 : k = 2
  · subst h2
    go_enter Try.func73, Try.ntmps73
    go_wp2
    go_ret2
    exact ⟨rfl, rfl⟩
  by_cases h4 : k = 4
  · subst h4
    go_enter Try.func73, Try.ntmps73
    go_wp2
    go_ret2
    exact ⟨rfl, rfl⟩
  by_cases h23 : k = 23
  · subst h23
    go_enter Try.func73, Try.ntmps73
    go_wp2
    go_ret2
    exact ⟨rfl, rfl⟩
  have e2 : ((k : Int) == 2) = false := by rw [beq_eq_false_iff_ne]; omega
  have e4 : ((k : Int) == 4) = false := by rw [beq_eq_false_iff_ne]; omega
  have e23 : ((k : Int) == 23) = false := by rw [beq_eq_false_iff_ne]; omega
  have HB := Lib.hid (show bh k w = if 8 < k ∧ k % 2 = 1 ∧ w = 0 then (0, false) else (k + 1, true) by
    unfold bh
    rw [if_neg h2, if_neg h4]
    by_cases h : 8 < k ∧ k % 2 = 1 ∧ w = 0
    · rw [if_pos h, if_pos (.inr h)]
    · rw [if_neg h, if_neg (by rintro (h' | h'); exact h23 h'; exact h h')])
  by_cases h8 : 8 < k
  · have d8 : decide (8 < (k : Int)) = true := by rw [decide_eq_true_eq]; omega
    by_cases ho : k % 2 = 1
    · have m2 : ((k : Int) % 2 != 0) = true := by simp only [bne_iff_ne, ne_eq]; omega
      have t2 : ((k : Int).tmod 2 != 0) = true := by rw [Int.tmod_eq_emod_of_nonneg (by omega)]; exact m2
      by_cases hw : w = 0
      · have w0 : (w == 0) = true := by rw [beq_iff_eq]; exact hw
        have HE := Lib.hid (show bh k w = (0, false) by rw [HB.out, if_pos ⟨h8, ho, hw⟩])
        clear HB h2 h4 h23 h8 ho hw
        go_enter Try.func73, Try.ntmps73
        go_wp2
        go_ret2
        rw [HE.out]
        exact ⟨rfl, rfl⟩
      · have w0 : (w == 0) = false := by rw [beq_eq_false_iff_ne]; exact hw
        have HE := Lib.hid (show bh k w = (k + 1, true) by rw [HB.out, if_neg (fun h => hw h.2.2)])
        clear HB h2 h4 h23 h8 ho hw
        go_enter Try.func73, Try.ntmps73
        go_wp2
        go_ret2
        rw [HE.out]
        exact ⟨rfl, rfl⟩
    · have m2 : ((k : Int) % 2 != 0) = false := by simp only [bne_eq_false_iff_eq]; omega
      have t2 : ((k : Int).tmod 2 != 0) = false := by rw [Int.tmod_eq_emod_of_nonneg (by omega)]; exact m2
      have HE := Lib.hid (show bh k w = (k + 1, true) by rw [HB.out, if_neg (fun h => ho h.2.1)])
      clear HB h2 h4 h23 h8 ho
      go_enter Try.func73, Try.ntmps73
      go_wp2
      go_ret2
      rw [HE.out]
      exact ⟨rfl, rfl⟩
  · have d8 : decide (8 < (k : Int)) = false := by rw [decide_eq_false_iff_not]; omega
    have HE := Lib.hid (show bh k w = (k + 1, true) by rw [HB.out, if_neg (fun h => h8 h.1)])
    clear HB h2 h4 h23 h8
    go_enter Try.func73, Try.ntmps73
    go_wp2
    go_ret2
    rw [HE.out]
    exact ⟨rfl, rfl⟩
/-- Where a node's word is looked for. -/
def snWordAt (a : Nat) (k : Nat) : Nat := if a + 8 * k < 18446744073709551616 then a + 8 * k else a
theorem snWordAt_wrap (a k : Nat) (ha : a < 18446744073709551616) (hk : k < 24) : ∃ z : Int, IntKind.u64.wrap ((a : Int) + 8 * (k : Int)) = z ∧ (if z > (a : Int) then z else (a : Int)) = ((snWordAt a k : Nat) : Int) := by
  refine ⟨_, rfl, ?_⟩
  unfold snWordAt
  rw [IntKind.wrap_u64]
  by_cases h : a + 8 * k < 18446744073709551616
  · rw [if_pos h]
    split <;> omega
  · rw [if_neg h]
    split <;> omega
set_option maxHeartbeats 1600000 in
theorem macLoad_any {w : World} {g a k : Nat} {p : Option Addr} {Q : World → Prop} {v e : Int} (hc : w.cell? ⟨g, 0, none⟩ = some (.pointer p)) (ha : a < 18446744073709551616) (hk : k < 24)
    (H : Calls Try.prog 30 #[.pointer p, .int .u64 ((snWordAt a k : Nat) : Int)] w fun e' w' => e' = .returned (.tuple #[.int .u64 v, .int .i64 e]) ∧ Q w') :
    Calls Try.prog 53 #[.pointer (some ⟨g, 0, none⟩), .int .u64 (a : Int), .int .i64 (k : Int)] w fun e' w' => e' = .returned (.tuple #[.int .u64 v, .int .i64 e]) ∧ Q w' := by
  have hk8 : IntKind.u64.wrap (8 * (k : Int)) = 8 * (k : Int) := by rw [IntKind.wrap_u64]; omega
  obtain ⟨z, hz, hm0⟩ := snWordAt_wrap a k ha hk
  have hm : max (a : Int) z = ((snWordAt a k : Nat) : Int) := by rw [← hm0]; split <;> omega
  clear hm0
  have H := Lib.hid H
  obtain ⟨A, hA⟩ : ∃ A : Int, A = ((snWordAt a k : Nat) : Int) := ⟨_, rfl⟩
  rw [← hA] at H hm
  clear hA ha
  go_enter Try.func53, Try.ntmps53
  go_wp2_with fail
  refine H.out.mono ?_
  rintro e w1 ⟨rfl, hq⟩
  have HQ := Lib.hid hq
  clear hq
  go_wp2
  go_ret2
  exact ⟨rfl, HQ.out⟩
end Go.Proofs.Yteojhhfcfdkmdaa
