/- Texts of this claim, packed: 7RTry. -/
import Derived.Test.YtgclbeagifoifaaPc23
/- The law's own Try: what is refused, what waits, what is held already. -/
namespace Go.Proofs.Ytgclbeagifoifaa
open Go.RowKit
set_option linter.unusedVariables false
/-- The blocks of the law's table. -/
def rfp (gr : Nat) (vL vW : Value) (k : Nat) : Prop := k = gr ∨ vL.ownBlock = some k ∨ vW.ownBlock = some k
theorem RefAt.same {w w' : World} {B gr n : Nat} {l : List (Nat × Nat)} {wt : Nat → Nat} {vL vW : Value} (h : RefAt w B gr n l wt vL vW) (hk : ∀ k, rfp gr vL vW k → w'.heap[k]? = w.heap[k]?) : RefAt w' B gr n l wt vL vW := by
  refine ⟨(hk gr (.inl rfl)).trans h.row, ⟨h.li.1, ?_⟩, ⟨h.wa.1, ?_⟩⟩
  · rcases h.li.2 with h0 | ⟨g, cap, cur, rfl, hg, hh, hr⟩
    · exact .inl h0
    · exact .inr ⟨g, cap, cur, rfl, hg, (hk g (.inr (.inl rfl))).trans hh, hr⟩
  · rcases h.wa.2 with h0 | ⟨g, cap, cur, rfl, hg, hh, hr⟩
    · exact .inl h0
    · exact .inr ⟨g, cap, cur, rfl, hg, (hk g (.inr (.inr rfl))).trans hh, hr⟩
theorem RefAt.lt {w : World} {B gr n : Nat} {l : List (Nat × Nat)} {wt : Nat → Nat} {vL vW : Value} (h : RefAt w B gr n l wt vL vW) : ∀ k, rfp gr vL vW k → k < w.heap.size := by
  rintro k (rfl | hk | hk)
  · exact h.row.lt
  · rcases h.li.2 with ⟨rfl, _⟩ | ⟨g, cap, cur, rfl, hg, hh, hr⟩
    · cases hk
    · cases hk; exact (Array.getElem?_eq_some_iff.1 hh).1
  · rcases h.wa.2 with ⟨rfl, _⟩ | ⟨g, cap, cur, rfl, hg, hh, hr⟩
    · cases hk
    · cases hk; exact (Array.getElem?_eq_some_iff.1 hh).1
theorem RefAt.below {w w' : World} {B gr n : Nat} {l : List (Nat × Nat)} {wt : Nat → Nat} {vL vW : Value} (h : RefAt w B gr n l wt vL vW) (hb : Below w.heap.size w w') : RefAt w' B gr n l wt vL vW :=
  h.same fun k hk => hb.block k (h.lt k hk)
/-- Where a client's wait lies, and what stands when it is set. -/
theorem RefAt.wset {w : World} {B gr n : Nat} {l : List (Nat × Nat)} {wt : Nat → Nat} {vL vW : Value} (h : RefAt w B gr n l wt vL vW) {c : Nat} (hc : c < n) :
    ∃ gw cap, vW = .slice (some ⟨gw, 0, none⟩) n cap ∧ n ≤ cap ∧ cap ≤ maxLen ∧ w.cell? ⟨gw, c, none⟩ = some (.int .u64 (wt c : Int)) ∧ w.frozen? ⟨gw, c, none⟩ = false ∧
      ∀ a : Nat, RefAt (w.setCell ⟨gw, c, none⟩ (.int .u64 (a : Int))) B gr n l (setW wt c a) vL vW ∧ But w (w.setCell ⟨gw, c, none⟩ (.int .u64 (a : Int))) (rfp gr vL vW) := by
  have hw := h.wa
  rcases hw.2 with ⟨_, h0⟩ | ⟨gw, cap, cur, rfl, hg, hh, hnc, hm, hs, ht⟩
  · omega
  have hcs : c < cur.size := by simp at hs; omega
  have hrow : Row w gw 34 cur := hh
  have hcur : ∀ (j : Nat), j < n → cur[j]? = some (wv (wt j)) := fun j hj => by
    have : (cur.toList.take (n * 1))[j]? = some (wv (wt j)) := by rw [ht, List.getElem?_map, List.getElem?_range hj]; rfl
    rw [List.getElem?_take_of_lt (by omega)] at this
    rw [← Array.getElem?_toList]; exact this
  refine ⟨gw, cap, rfl, hnc, hm, by rw [hrow.cell]; exact hcur c hc, hrow.free c, fun a => ⟨?_, But.set (But.refl _ _) (.inr (.inr rfl)) _⟩⟩
  have hgr : gr ≠ gw := fun e => by
    subst e
    have h1 : w.heap[gr]? = some (Obj.cells _ 40 (0, 0)) := h.row
    rw [hh] at h1
    injection h1 with h1
    injection h1 with _ h1 _
    exact absurd h1 (by decide)
  have hrow' := hrow.set c (.int .u64 (a : Int))
  refine ⟨h.row.other (by exact hgr) _, ⟨h.li.1, ?_⟩, ⟨by simp, .inr ⟨gw, cap, _, rfl, hg, hrow', hnc, hm, by simp; simp at hs; exact hs, ?_⟩⟩⟩
  · rcases h.li.2 with h0 | ⟨g2, cap2, cur2, rfl, hg2, hh2, hr2⟩
    · exact .inl h0
    · refine .inr ⟨g2, cap2, cur2, rfl, hg2, (heap_setCell_other _ _ _ _ (fun e => ?_)).trans hh2, hr2⟩
      have e' : g2 = gw := e
      subst e'
      rw [hh2] at hh
      injection hh with hh
      injection hh with _ hh _
      exact absurd hh (by decide)
  · apply List.ext_getElem?
    intro j
    rw [Nat.mul_one, List.getElem?_take]
    by_cases hj : j < n
    · rw [if_pos hj, List.getElem?_map, List.getElem?_range hj, Array.getElem?_toList]
      by_cases e : j = c
      · subst e
        rw [Array.getElem?_setIfInBounds_self_of_lt hcs]
        simp [setW, wv]
      · rw [Array.getElem?_setIfInBounds_ne (by omega), hcur j hj]
        simp [setW, e]
    · rw [if_neg hj, List.getElem?_eq_none (by simp; omega)]
/-- Try of what the table refuses: no such client, or the lock 0. -/
theorem rTry_no {w : World} {B gr n : Nat} {l : List (Nat × Nat)} {wt : Nat → Nat} {vL vW : Value} (h : RefAt w B gr n l wt vL vW) {c : Int} {id : Nat} (hno : ¬ (0 ≤ c ∧ c < (n : Int)) ∨ id = 0) :
    Calls Try.prog 18 #[.pointer (some ⟨gr, 0, none⟩), .int .i64 c, .int .u64 (id : Int)] w fun e w' => e = .returned (.bool false) ∧ w = w' := by
  have HI := rIs_any h c
  by_cases hc : 0 ≤ c ∧ c < (n : Int)
  · obtain rfl : id = 0 := by rcases hno with h1 | h1; exact absurd hc h1; exact h1
    rw [decide_eq_true hc] at HI
    have HI := Lib.hid HI
    clear h hno
    go_enter Try.func18, Try.ntmps18
    go_wp2_with fail
    refine HI.out.mono ?_
    rintro e w1 ⟨rfl, rfl⟩
    go_wp2
    go_ret
    exact ⟨rfl, rfl⟩
  · rw [decide_eq_false hc] at HI
    have HI := Lib.hid HI
    clear h hno
    go_enter Try.func18, Try.ntmps18
    go_wp2_with fail
    refine HI.out.mono ?_
    rintro e w1 ⟨rfl, rfl⟩
    go_wp2
    go_ret
    exact ⟨rfl, rfl⟩
/-- Try of what somebody else has, and of what the client has already. -/
theorem rTry_wait {w : World} {B gr n : Nat} {l : List (Nat × Nat)} {wt : Nat → Nat} {vL vW : Value} (h : RefAt w B gr n l wt vL vW) {c id d : Nat} (hc : c < n) (h0 : id ≠ 0) (hd : rHold l id = (d : Int)) (hdc : d ≠ c) :
    Calls Try.prog 18 #[.pointer (some ⟨gr, 0, none⟩), .int .i64 (c : Int), .int .u64 (id : Int)] w fun e w' => e = .returned (.bool false) ∧ RefAt w' B gr n l (setW wt c id) vL vW ∧ But w w' (rfp gr vL vW) := by
  have HI := rIs_any h (c : Int)
  rw [decide_eq_true (show 0 ≤ (c : Int) ∧ (c : Int) < (n : Int) by omega)] at HI
  have HI := Lib.hid HI
  have HH := rHolder_any h id
  rw [hd] at HH
  have HH := Lib.hid HH
  obtain ⟨gw, cap, rfl, hnc, hm, hcell, hfr, hset⟩ := h.wset hc
  have c1 := h.row.cell 1
  simp only [List.getElem?_toArray, List.getElem?_cons_succ, List.getElem?_cons_zero] at c1
  have HS := Lib.hid (hset id)
  have hz := nat_eq0 h0
  have hne := nat_ne hdc
  have hge : decide (0 ≤ (d : Int)) = true := by simp
  clear hset h hd hdc h0
  go_enter Try.func18, Try.ntmps18
  go_wp2_with fail
  refine HI.out.mono ?_
  rintro e w1 ⟨rfl, rfl⟩
  go_wp2_with fail
  refine HH.out.mono ?_
  rintro e w1 ⟨rfl, rfl⟩
  go_wp2
  go_ret
  exact ⟨rfl, HS.out⟩
theorem rTry_keep {w : World} {B gr n : Nat} {l : List (Nat × Nat)} {wt : Nat → Nat} {vL vW : Value} (h : RefAt w B gr n l wt vL vW) {c id : Nat} (hc : c < n) (h0 : id ≠ 0) (hd : rHold l id = (c : Int)) :
    Calls Try.prog 18 #[.pointer (some ⟨gr, 0, none⟩), .int .i64 (c : Int), .int .u64 (id : Int)] w fun e w' => e = .returned (.bool true) ∧ RefAt w' B gr n l (setW wt c 0) vL vW ∧ But w w' (rfp gr vL vW) := by
  have HI := rIs_any h (c : Int)
  rw [decide_eq_true (show 0 ≤ (c : Int) ∧ (c : Int) < (n : Int) by omega)] at HI
  have HI := Lib.hid HI
  have HH := rHolder_any h id
  rw [hd] at HH
  have HH := Lib.hid HH
  obtain ⟨gw, cap, rfl, hnc, hm, hcell, hfr, hset⟩ := h.wset hc
  have c1 := h.row.cell 1
  simp only [List.getElem?_toArray, List.getElem?_cons_succ, List.getElem?_cons_zero] at c1
  have HS := Lib.hid (hset 0)
  have hz := nat_eq0 h0
  have hge : decide (0 ≤ (c : Int)) = true := by simp
  have hlt : decide ((c : Int) < 0) = false := by simp
  clear hset h hd h0
  go_enter Try.func18, Try.ntmps18
  go_wp2_with fail
  refine HI.out.mono ?_
  rintro e w1 ⟨rfl, rfl⟩
  go_wp2_with fail
  refine HH.out.mono ?_
  rintro e w1 ⟨rfl, rfl⟩
  go_wp2
  go_ret
  exact ⟨rfl, HS.out⟩
end Go.Proofs.Ytgclbeagifoifaa
