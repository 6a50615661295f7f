/- What the laws of runs share: how much is left of a run, the stores of an argument, bytes that a call handed out. -/
import Derived.Test.YtgapncamnmngeaaRnB
import Derived.Test.YtgapncamnmngeaaRnK
import Derived.Test.YtgapncamnmngeaaArgP
import Derived.Test.YtgapncamnmngeaaPConv
namespace Go.Proofs.Ytgapncamnmngeaa
open Go.RowKit Go.Shelf
set_option linter.unusedVariables false
set_option maxRecDepth 100000 in
theorem mem10_no {z : Int} (h : z < 1 ∨ 16 < z) (w : World) : Calls Try.prog 9 #[.int .i64 z] w fun e w' => e = .returned (.pointer none) ∧ w = w' := by
  by_cases h1 : z < 1
  · go_enter Try.func9, Try.ntmps9
    go_wp2
    go_ret
    exact ⟨rfl, rfl⟩
  · have h2 : 16 < z := by omega
    go_enter Try.func9, Try.ntmps9
    go_wp2
    go_ret
    exact ⟨rfl, rfl⟩
set_option maxRecDepth 100000 in
theorem mem10_yes {n : Nat} (h0 : 0 < n) (h1 : n ≤ 16) (w : World) : Calls Try.prog 9 #[.int .i64 (n : Int)] w fun e w' => ∃ y : Lay, e = .returned (.pointer (some ⟨y.g, 0, none⟩)) ∧ MemAt w' y (St.zero n) ∧ (∀ k, y.fp k → w.heap.size ≤ k) ∧ Below w.heap.size w w' := by
  have HN := Lib.hid (new_yes n w h0 (by omega))
  have q1 : ¬ (n : Int) < 1 := by omega
  have q2 : ¬ (16 : Int) < (n : Int) := by omega
  have q3 : IntKind.i64.wrap (64 * (n : Int)) = ((64 * n : Nat) : Int) := by rw [IntKind.wrap_i64]; omega
  clear h0 h1
  go_enter Try.func9, Try.ntmps9
  go_wp2_with fail
  refine HN.out.mono ?_
  rintro e w1 ⟨y, rfl, hm1, hfp, hb1⟩
  have HE := Lib.hid (And.intro hm1 (And.intro hfp hb1))
  clear hm1 hfp hb1
  go_wp2
  go_ret
  exact ⟨y, rfl, HE.out.1, HE.out.2.1, HE.out.2.2⟩

def RS.cost (r : RS) : Nat := 3 * r.left.length + match r.ph with
  | .fl => 2
  | .fe => 1
  | _ => 0
theorem cost_new (c : Int) (l : List (Nat × Nat)) : (RS.new c l).cost = 3 * l.length := by
  unfold RS.new RS.cost
  dsimp only
  by_cases e : l = []
  · subst e
    rfl
  · rw [if_neg e]
    rfl
theorem win_lines {size n : Nat} {l : List (Nat × Nat)} (hs : size = 64 * n) (h0 : 0 < n) (hl : ∀ p ∈ l, p.1 < 18446744073709551616 ∧ p.2 < 18446744073709551616) : ∀ p ∈ win size l, p.1 % 8 = 0 ∧ p.1 < 64 * n ∧ p.2 < 18446744073709551616 := by
  intro p hp
  obtain ⟨q, hq, rfl⟩ := List.mem_map.1 hp
  have h1 := Nat.mod_lt q.1 (show 0 < size by omega)
  refine ⟨by show q.1 % size / 8 * 8 % 8 = 0; omega, by show q.1 % size / 8 * 8 < _; omega, (hl q hq).2⟩
theorem rbytes_out {w : World} {B : Nat} {l : List Nat} {v : Value} {n : Nat} (h : w.ownsRow B 5 1 v l.length (l.map bv)) (hl : l.length = n) (hn : 0 < n) : ∃ g c, v = .slice (some ⟨g, 0, none⟩) n c ∧ Sl w (some ⟨g, 0, none⟩) (l.map bv) := by
  rw [hl] at h
  obtain ⟨g, c, h1, _, _, h2⟩ := own_some h hn
  exact ⟨g, c, h1, h2⟩
theorem puts_reads {W : World} {A : Option Addr} {len cap : Nat} {l : List (Int × Int)} (h : PutsIn W A len cap l) : Reads W (.slice A len cap) (natPuts l) := by
  obtain ⟨h1, h2, h3, h4, h5⟩ := h
  refine ⟨A, cap, by rw [natPuts_length, h1], by rw [natPuts_length, h1]; exact h2, h3, fun k hk => ?_⟩
  rw [natPuts_length, h1] at hk
  rcases h4 with ⟨_, h6, _⟩ | ⟨a, ha, hc⟩
  · omega
  · obtain ⟨e0, e1⟩ := hc k hk
    have hg : l.getD k (0, 0) = l[k]'(by omega) := by rw [List.getD_eq_getElem?_getD, List.getElem?_eq_getElem (by omega)]; rfl
    have hq := h5 _ (List.getElem_mem (show k < l.length by omega))
    rw [hg] at e0 e1
    refine ⟨a, ha, ?_, ?_⟩
    · rw [e0]
      simp only [natPuts, List.getElem_map]
      congr 2
      omega
    · rw [e1]
      simp only [natPuts, List.getElem_map]
      congr 2
      omega
end Go.Proofs.Ytgapncamnmngeaa
