/- The set's functions: what each answers, and which set it leaves; for sets of at most 10^9 addresses (All, NewFree: of at most twelve). -/
import Derived.Test.YtpdnbojooelmfaaHComp
namespace Go.Proofs.Ytpdnbojooelmfaa
open Go.RowKit
set_option linter.unusedVariables false
/-- g is a set of just the addresses s, in whatever order. -/
def SetAt (w : World) (g : Nat) (s : List Nat) (v : Value) : Prop := ∃ l, FreeAt w g v l ∧ HeapP l l.length ∧ l.Perm s
theorem SetAt.keep {w w' : World} {g : Nat} {v : Value} {s : List Nat} {fp : Nat → Prop} (h : SetAt w g s v) (hb : But w w' fp) (hn : ∀ k, ffp g v k → ¬ fp k) : SetAt w' g s v := by
  obtain ⟨l, hF, h⟩ := h
  exact ⟨l, hF.keep hb hn, h⟩
theorem SetAt.below {w w' : World} {g : Nat} {v : Value} {s : List Nat} (h : SetAt w g s v) (hb : Below w.heap.size w w') : SetAt w' g s v := h.keep (But.of_below hb (fun _ => False)) (fun _ _ h => h)
theorem SetAt.perm {w : World} {g : Nat} {v : Value} {s s' : List Nat} (h : SetAt w g s v) (hp : s.Perm s') : SetAt w g s' v := by
  obtain ⟨l, hF, hh, hs⟩ := h
  exact ⟨l, hF, hh, hs.trans hp⟩
theorem SetAt.fp {w : World} {g : Nat} {v : Value} {s : List Nat} (h : SetAt w g s v) {k : Nat} (hk : ffp g v k) : k < w.heap.size := by
  obtain ⟨l, hF, _⟩ := h
  rcases hk with rfl | hk
  · exact hF.1.lt
  · exact hF.2.1.lt hk
theorem idx_yes {l : List Nat} {a : Nat} (h : a ∈ l) : ∃ k : Nat, idx l a = (k : Int) ∧ k < l.length ∧ gd l k = a := by
  have hk := List.idxOf_lt_length_iff.2 h
  refine ⟨l.idxOf a, if_pos h, hk, ?_⟩
  have : l[l.idxOf a] = a := List.getElem_idxOf hk
  rw [show gd l (l.idxOf a) = l[l.idxOf a] by simp [gd, hk]]
  exact this
theorem idx_no {l : List Nat} {a : Nat} (h : a ∉ l) : idx l a = -1 := if_neg h
set_option maxRecDepth 100000 in
set_option maxHeartbeats 1000000 in
theorem place_any {w : World} {g : Nat} {v : Value} {l : List Nat} (hF : FreeAt w g v l) (hl : l.length ≤ 1000000000) (a : Nat) :
    Calls Try.prog 28 #[.pointer (some ⟨g, 0, none⟩), wv a] w fun e w' => e = .returned (.tuple #[.int .i64 (idx l a), .bool (decide (a ∈ l))]) ∧ Below w.heap.size w w' := by
  have c0 := hF.cell
  have HI := Lib.hid (indexF_any (B := w.heap.size) (a := a) (hF.below (alloc_below w (.cells #[wv a] 32))).2.1 (by omega) (by simp) (by simp))
  have c1 : (w.alloc (.cells #[.int .u64 (a : Int)] 32)).cell? ⟨g, 0, none⟩ = some v := (hF.below (alloc_below w (.cells #[.int .u64 (a : Int)] 32))).cell
  unfold wv at HI ⊢
  by_cases ha : a ∈ l
  · obtain ⟨k, hk, hkl, _⟩ := idx_yes ha
    rw [hk] at HI ⊢
    rw [decide_eq_true ha]
    clear hk ha hF hl hkl
    go_enter Try.func28, Try.ntmps28
    go_wp2_with fail
    refine HI.out.mono ?_
    rintro e w1 ⟨rfl, hd⟩
    have HD := Lib.hid hd.below
    clear hd
    go_wp2
    go_ret2
    exact ⟨rfl, Below.and (alloc_below _ _) HD.out⟩
  · rw [idx_no ha] at HI ⊢
    rw [decide_eq_false ha]
    clear ha hF hl
    go_enter Try.func28, Try.ntmps28
    go_wp2_with fail
    refine HI.out.mono ?_
    rintro e w1 ⟨rfl, hd⟩
    have HD := Lib.hid hd.below
    clear hd
    go_wp2
    go_ret2
    exact ⟨rfl, Below.and (alloc_below _ _) HD.out⟩
set_option maxHeartbeats 400000 in
theorem place_nil (a : Nat) (w : World) : Calls Try.prog 28 #[.pointer none, wv a] w fun e w' => e = .returned (.tuple #[.int .i64 0, .bool false]) ∧ Below w.heap.size w w' := by
  unfold wv
  go_enter Try.func28, Try.ntmps28
  go_wp2
  go_ret2
  exact ⟨rfl, alloc_below _ _⟩
theorem SetAt.place {w : World} {g : Nat} {v : Value} {s : List Nat} (hS : SetAt w g s v) (hl : s.length ≤ 1000000000) (a : Nat) : ∃ l, FreeAt w g v l ∧ HeapP l l.length ∧ l.Perm s ∧ l.length = s.length ∧ decide (a ∈ l) = decide (a ∈ s) := by
  obtain ⟨l, hF, hH, hp⟩ := hS
  exact ⟨l, hF, hH, hp, hp.length_eq, by rw [Bool.eq_iff_iff]; simp [hp.mem_iff]⟩
set_option maxRecDepth 100000 in
theorem has_any {w : World} {g : Nat} {v : Value} {s : List Nat} (hS : SetAt w g s v) (hl : s.length ≤ 1000000000) (a : Nat) :
    Calls Try.prog 15 #[.pointer (some ⟨g, 0, none⟩), wv a] w fun e w' => e = .returned (.bool (decide (a ∈ s))) ∧ Below w.heap.size w w' := by
  obtain ⟨l, hF, _, _, hlen, hd⟩ := hS.place hl a
  have HP := Lib.hid (place_any hF (by omega) a)
  rw [hd] at HP
  clear hd hF hlen hl hS
  generalize decide (a ∈ s) = bb at HP ⊢
  generalize idx l a = k at HP
  unfold wv at HP ⊢
  go_enter Try.func15, Try.ntmps15
  go_wp2_with fail
  refine HP.out.mono ?_
  rintro e w1 ⟨rfl, hb⟩
  have HB := Lib.hid hb
  clear hb
  go_wp2
  go_ret
  exact ⟨rfl, HB.out⟩
theorem has_nil (a : Nat) (w : World) : Calls Try.prog 15 #[.pointer none, wv a] w fun e w' => e = .returned (.bool false) ∧ Below w.heap.size w w' := by
  have HP := Lib.hid (place_nil a w)
  unfold wv at HP ⊢
  go_enter Try.func15, Try.ntmps15
  go_wp2_with fail
  refine HP.out.mono ?_
  rintro e w1 ⟨rfl, hb⟩
  have HB := Lib.hid hb
  clear hb
  go_wp2
  go_ret
  exact ⟨rfl, HB.out⟩
theorem len_any {w : World} {g : Nat} {v : Value} {s : List Nat} (hS : SetAt w g s v) (hl : s.length ≤ 1000000000) :
    Calls Try.prog 17 #[.pointer (some ⟨g, 0, none⟩)] w fun e w' => e = .returned (.int .i64 (s.length : Int)) ∧ w = w' := by
  obtain ⟨l, hF, _, hp⟩ := hS
  have c0 := hF.cell
  obtain ⟨ad, cap, rfl⟩ := hF.2.1.shape
  rw [hp.length_eq] at c0
  clear hF hp
  generalize s.length = n at *
  go_enter Try.func17, Try.ntmps17
  go_wp2
  go_ret
  exact ⟨rfl, rfl⟩
theorem len_nil (w : World) : Calls Try.prog 17 #[.pointer none] w fun e w' => e = .returned (.int .i64 0) ∧ w = w' := by
  go_enter Try.func17, Try.ntmps17
  go_wp2
  go_ret
  exact ⟨rfl, rfl⟩
end Go.Proofs.Ytpdnbojooelmfaa
