/- Texts of this claim, packed: 6Arg. -/
import Derived.Test.YtahojhaeebmpoaaGreatDoorPl28
import Derived.OpenShut
import Derived.Deep.SlicePairs
/- Arguments that are lists of heads, of acts: what lies in memory. -/
namespace Go.Proofs.YtahojhaeebmpoaaGreatDoor
open Go.ChangeShapes Go.WideShapes Go.RowKit
set_option linter.unusedVariables false
def HeadsIn (w : World) (A : Option Addr) (n cap : Nat) (l : List (Nat × Nat)) : Prop := l.length = n ∧ n ≤ cap ∧ n ≤ maxLen ∧ (∀ _ : 0 < l.length, ∃ ga, A = some ga ∧ HeadsAt w ga l) ∧ ∀ p ∈ l, p.1 < 18446744073709551616 ∧ p.2 < 18446744073709551616
set_option maxRecDepth 100000 in
theorem open_heads {H : Type} {enc : TypeId × Value → H} {W : World} {held : Bool} {spare : Nat → Bool} {fuel : Nat} {A : Option Addr} {n cap : Nat} {x : DataW H × List MemPlace} (h : DataW.trod enc Tryz.prog W 0 spare held fuel 22 (Value.slice A n cap).cells.toList = some x) :
    ∃ l, HeadsIn W A n cap l := by
  rcases Go.Deep.open_slice_pairs Tryz.underlying22 Tryz.underlying59 (by kernel_rfl) rfl rfl (by kernel_rfl) (by kernel_rfl) h with ⟨hcs, _⟩ | ⟨b, n2, c, m, k, V0, V1, D0, D1, P0, P1, hcs, _, hl, hm, hmm, _, hall⟩
  · simp [Value.cells] at hcs
    obtain ⟨rfl, rfl, rfl⟩ := hcs
    exact ⟨[], rfl, Nat.le_refl _, by decide, fun h => absurd h (by decide), fun p hp => by cases hp⟩
  · simp [Value.cells] at hcs
    obtain ⟨rfl, rfl, rfl⟩ := hcs
    have hnm : n ≤ m := by rw [hmm]; split <;> omega
    have hw : ∀ i, i < n → ∃ q : Nat × Nat, W.cell? (b.add (i * 2)) = some (wv q.1) ∧ W.cell? (b.add (i * 2 + 1)) = some (wv q.2) ∧ q.1 < 18446744073709551616 ∧ q.2 < 18446744073709551616 := fun i hi => by
      obtain ⟨c0, c1, t0, t1⟩ := hall i (by omega)
      obtain ⟨n0, e0, _, f0⟩ := DataW.trod_int (by kernel_rfl) t0
      obtain ⟨n1, e1, _, f1⟩ := DataW.trod_int (by kernel_rfl) t1
      have b0 := bounds_u64 f0
      have b1 := bounds_u64 f1
      simp only [List.cons.injEq, and_true] at e0 e1
      refine ⟨(n0.toNat, n1.toNat), ?_, ?_, by show n0.toNat < _; omega, by show n1.toNat < _; omega⟩
      · rw [c0, e0]; unfold wv; rw [show ((n0.toNat : Nat) : Int) = n0 from by omega]
      · rw [c1, e1]; unfold wv; rw [show ((n1.toNat : Nat) : Int) = n1 from by omega]
    obtain ⟨q, hq⟩ := Go.Deep.choose_lt hw
    have hget : ∀ i, i < n → hdAt ((List.range n).map q) i = q i := fun i hi => by
      unfold hdAt
      rw [List.getD_eq_getElem?_getD, List.getElem?_map, List.getElem?_range hi]; rfl
    refine ⟨(List.range n).map q, by simp, hl, by omega, fun _ => ⟨b, rfl, ⟨fun i hi => ?_, fun i hi => ?_⟩⟩, fun p hp => ?_⟩
    · have hi' : i < n := by simpa using hi
      rw [hget i hi']; exact (hq i hi').1
    · have hi' : i < n := by simpa using hi
      rw [hget i hi']
      have h2 := (hq i hi').2.1
      have e : b.add (i * 2 + 1) = ⟨(b.add (i * 2)).block, (b.add (i * 2)).off + 1, none⟩ := by
        unfold Addr.add
        by_cases h0 : i * 2 = 0
        · rw [if_neg (by omega), if_pos h0, h0]
        · rw [if_neg (by omega), if_neg h0]
          rfl
      rw [← e]; exact h2
    · obtain ⟨i, hi, rfl⟩ := List.mem_map.1 hp
      have hi' := List.mem_range.1 hi
      exact ⟨(hq i hi').2.2.1, (hq i hi').2.2.2⟩
structure Ac6 where
  k : Int
  n : Int
  a : Nat
  c : Int
instance : Inhabited Ac6 := ⟨⟨0, 0, 0, 0⟩⟩
def ac6At (l : List Ac6) (i : Nat) : Ac6 := l.getD i ⟨0, 0, 0, 0⟩
structure Acts6At (w : World) (a : Addr) (l : List Ac6) : Prop where
  c0 : ∀ i, i < l.length → w.cell? (a.add (i * 4)) = some (.int .i64 (ac6At l i).k)
  c1 : ∀ i, i < l.length → w.cell? ⟨(a.add (i * 4)).block, (a.add (i * 4)).off + 1, none⟩ = some (.int .i64 (ac6At l i).n)
  c2 : ∀ i, i < l.length → w.cell? ⟨(a.add (i * 4)).block, (a.add (i * 4)).off + 2, none⟩ = some (.int .u64 ((ac6At l i).a : Int))
  c3 : ∀ i, i < l.length → w.cell? ⟨(a.add (i * 4)).block, (a.add (i * 4)).off + 3, none⟩ = some (.int .i64 (ac6At l i).c)
  fit : ∀ i, i < l.length → (ac6At l i).a < 18446744073709551616
theorem Acts6At.below {w w' : World} {a : Addr} {l : List Ac6} (h : Acts6At w a l) (hb : Below w.heap.size w w') : Acts6At w' a l :=
  ⟨fun i hi => (hb.cell (w.block_lt_of_cell? _ (h.c0 i hi))).trans (h.c0 i hi), fun i hi => (hb.cell (w.block_lt_of_cell? _ (h.c1 i hi))).trans (h.c1 i hi), fun i hi => (hb.cell (w.block_lt_of_cell? _ (h.c2 i hi))).trans (h.c2 i hi), fun i hi => (hb.cell (w.block_lt_of_cell? _ (h.c3 i hi))).trans (h.c3 i hi), h.fit⟩
def Acts6In (w : World) (A : Option Addr) (n cap : Nat) (l : List Ac6) : Prop := l.length = n ∧ n ≤ cap ∧ n ≤ maxLen ∧ (0 < l.length → ∃ ga, A = some ga ∧ Acts6At w ga l)
theorem add_next {a : Addr} {i j : Nat} (hj : 0 < j) : (a.add i).add j = ⟨(a.add i).block, (a.add i).off + j, none⟩ := by
  generalize a.add i = b
  unfold Addr.add
  rw [if_neg (by omega)]
set_option maxRecDepth 100000 in
theorem open_acts6 {H : Type} {enc : TypeId × Value → H} {W : World} {held : Bool} {spare : Nat → Bool} {fuel : Nat} {A : Option Addr} {n cap : Nat} {x : DataW H × List MemPlace} (h : DataW.trod enc Tryz.prog W 0 spare held fuel 39 (Value.slice A n cap).cells.toList = some x) :
    ∃ l, Acts6In W A n cap l := by
  rcases Go.Deep.open_slice Tryz.underlying39 h with ⟨hcs, _⟩ | ⟨a, len, cp, m, k, D, Pl, hcs, hb, hl, hm, hmm, _, hx⟩
  · simp [Value.cells] at hcs
    obtain ⟨rfl, rfl, rfl⟩ := hcs
    exact ⟨[], rfl, Nat.le_refl _, by decide, fun h => absurd h (by decide)⟩
  · simp [Value.cells] at hcs
    obtain ⟨rfl, rfl, rfl⟩ := hcs
    have hnm : n ≤ m := by rw [hmm]; split <;> omega
    have hc3 : Tryz.prog.cellsOf 45 = 4 := by kernel_rfl
    have hw : ∀ i, i < n → ∃ q : Ac6, W.cell? (a.add (i * 4)) = some (.int .i64 q.k) ∧ W.cell? ((a.add (i * 4)).add 1) = some (.int .i64 q.n) ∧ W.cell? ((a.add (i * 4)).add 2) = some (.int .u64 (q.a : Int)) ∧ W.cell? ((a.add (i * 4)).add 3) = some (.int .i64 q.c) ∧ q.a < 18446744073709551616 := fun i hi => by
      obtain ⟨cs', h1, h2⟩ := hx i (by omega)
      rw [hc3] at h1
      obtain ⟨_, hlen, hcell⟩ := World.cells?_some h1
      obtain ⟨xs, k', hk, hxy, _, hxl, hf⟩ := DataW.trod_struct Tryz.underlying45 h2
      match xs, hxl, cs', hlen with
      | [y0, y1, y2, y3], _, [v0, v1, v2, v3], _ =>
        have g0 := hf 0 _ rfl
        have g1 := hf 1 _ rfl
        have g2 := hf 2 _ rfl
        have g3 := hf 3 _ rfl
        have e0 := hcell 0 (by omega)
        have e1 := hcell 1 (by omega)
        have e2 := hcell 2 (by omega)
        have e3 := hcell 3 (by omega)
        have ci : Tryz.prog.cellsOf 3 = 1 := by kernel_rfl
        have ca : Tryz.prog.cellsOf 24 = 1 := by kernel_rfl
        simp [ci, ca] at g0 g1 g2 g3
        obtain ⟨n0, t0, _, f0⟩ := DataW.trod_int (by kernel_rfl) g0
        obtain ⟨n1, t1, _, f1⟩ := DataW.trod_int (by kernel_rfl) g1
        obtain ⟨n2, t2, _, f2⟩ := DataW.trod_int (by kernel_rfl) g2
        obtain ⟨n3, t3, _, f3⟩ := DataW.trod_int (by kernel_rfl) g3
        have b2 := bounds_u64 f2
        simp only [List.cons.injEq, and_true] at t0 t1 t2 t3
        refine ⟨⟨n0, n1, n2.toNat, n3⟩, ?_, ?_, ?_, ?_, by show n2.toNat < _; omega⟩
        · rw [← t0]; rw [Go.Deep.add_add, Nat.add_zero] at e0; simpa using e0
        · rw [← t1]; simpa using e1
        · show _ = some (Value.int .u64 ((n2.toNat : Nat) : Int))
          rw [show ((n2.toNat : Nat) : Int) = n2 from by omega, ← t2]
          simpa using e2
        · rw [← t3]; simpa using e3
    obtain ⟨q, hq⟩ := Go.Deep.choose_lt hw
    have hget : ∀ i, i < n → ac6At ((List.range n).map q) i = q i := fun i hi => by
      unfold ac6At
      rw [List.getD_eq_getElem?_getD, List.getElem?_map, List.getElem?_range hi]; rfl
    refine ⟨(List.range n).map q, by simp, hl, by omega, fun _ => ⟨a, rfl, ⟨fun i hi => ?_, fun i hi => ?_, fun i hi => ?_, fun i hi => ?_, fun i hi => ?_⟩⟩⟩
    all_goals have hi' : i < n := by simpa using hi
    all_goals rw [hget i hi']
    · exact (hq i hi').1
    · rw [← add_next (by decide)]; exact (hq i hi').2.1
    · rw [← add_next (by decide)]; exact (hq i hi').2.2.1
    · rw [← add_next (by decide)]; exact (hq i hi').2.2.2.1
    · exact (hq i hi').2.2.2.2
end Go.Proofs.YtahojhaeebmpoaaGreatDoor
