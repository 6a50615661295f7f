/- Texts of this claim, packed: SnOp. -/
import Derived.Test.YteojhhfcfdkmdaaPm43
import Derived.OpenShut
import Derived.Deep.SlicePairs
import Derived.Deep.Grids
set_option linter.unusedSimpArgs false
set_option linter.unusedVariables false
/- The law's arguments: what is asked, and the turns, as they are given; conditions: they are what the form gives. -/
namespace Go.Proofs.Yteojhhfcfdkmdaa
open Go.RowKit
open Go.ChangeShapes Go.WideShapes
set_option linter.unusedVariables false
def AsksIn (W : World) (A : Option Addr) (n cap : Nat) (l : List Ask3) : Prop :=
  l.length = n ∧ n ≤ cap ∧ cap ≤ maxLen ∧ (∀ q ∈ l, InW q.2.1 ∧ InW q.2.2) ∧ ∀ k q, l[k]? = some q → ∃ b, A = some b ∧ W.cell? (b.add (3 * k)) = some (.int .i64 q.1) ∧ W.cell? (b.add (3 * k + 1)) = some (.int .u64 q.2.1) ∧ W.cell? (b.add (3 * k + 2)) = some (.int .u64 q.2.2)
theorem AsksIn.at_ {W : World} {A : Option Addr} {n cap : Nat} {l : List Ask3} (h : AsksIn W A n cap l) : Ask3At W (.slice A n cap) l := by
  obtain ⟨rfl, h1, h2, _, h3⟩ := h
  exact ⟨A, cap, rfl, h1, h2, h3⟩
set_option maxRecDepth 100000 in
theorem open_asks {H : Type} {enc : TypeId × Value → H} {W : World} {held : Bool} {spare : Nat → Bool} {fuel : Nat} {A : Option Addr} {n cap : Nat} {x : DataW H × List MemPlace} (h : DataW.trod enc Try.prog W 0 spare held fuel 28 (Value.slice A n cap).cells.toList = some x) :
    ∃ l, AsksIn W A n cap l := by
  rcases Go.Deep.open_slice Try.underlying28 h with ⟨hcs, _⟩ | ⟨a, len, cp, m, k, D, Pl, hcs, hb, hl, hm, hmm, _, hx⟩
  · simp [Value.cells] at hcs
    obtain ⟨rfl, rfl, rfl⟩ := hcs
    exact ⟨[], rfl, Nat.le_refl _, by decide, (fun q hq => by cases hq), fun k q hk => by cases hk⟩
  · simp [Value.cells] at hcs
    obtain ⟨rfl, rfl, rfl⟩ := hcs
    have hnm : n ≤ m := by rw [hmm]; split <;> omega
    have hc3 : Try.prog.cellsOf 68 = 3 := by kernel_rfl
    have hw : ∀ i, i < n → ∃ q : Ask3, W.cell? (a.add (i * 3)) = some (.int .i64 q.1) ∧ W.cell? ((a.add (i * 3)).add 1) = some (.int .u64 q.2.1) ∧ W.cell? ((a.add (i * 3)).add 2) = some (.int .u64 q.2.2) ∧ InW q.2.1 ∧ InW q.2.2 := fun i hi => by
      obtain ⟨cs', h1, h2⟩ := hx i (by omega)
      rw [hc3] at h1
      obtain ⟨_, hlen, hcell⟩ := World.cells?_some h1
      obtain ⟨xs, k', hk, hxy, _, hxl, hf⟩ := DataW.trod_struct Try.underlying68 h2
      match xs, hxl, cs', hlen with
      | [y0, y1, y2], _, [v0, v1, v2], _ =>
        have g0 := hf 0 _ rfl
        have g1 := hf 1 _ rfl
        have g2 := hf 2 _ rfl
        have e0 := hcell 0 (by omega)
        have e1 := hcell 1 (by omega)
        have e2 := hcell 2 (by omega)
        have ci : Try.prog.cellsOf 3 = 1 := by kernel_rfl
        have ck : Try.prog.cellsOf 22 = 1 := by kernel_rfl
        have ca : Try.prog.cellsOf 23 = 1 := by kernel_rfl
        simp [ci, ca, ck] at g0 g1 g2
        obtain ⟨n0, t0, _, f0⟩ := DataW.trod_int (by kernel_rfl) g0
        obtain ⟨n1, t1, _, f1⟩ := DataW.trod_int (by kernel_rfl) g1
        obtain ⟨n2, t2, _, f2⟩ := DataW.trod_int (by kernel_rfl) g2
        have b1 := bounds_u64 f1
        have b2 := bounds_u64 f2
        simp only [List.cons.injEq, and_true] at t0 t1 t2
        refine ⟨(n0, n1, n2), ?_, ?_, ?_, ⟨b1.1, by have := b1.2; show n1 < _; omega⟩, ⟨b2.1, by have := b2.2; show n2 < _; omega⟩⟩
        · rw [← t0]; rw [Go.Deep.add_add, Nat.add_zero] at e0; simpa using e0
        · rw [← t1]; simpa using e1
        · rw [← t2]; simpa using e2
    obtain ⟨q, hq⟩ := Go.Deep.choose_lt hw
    refine ⟨(List.range n).map q, by simp, hl, by omega, fun z hz => ?_, fun k z hz => ?_⟩
    · obtain ⟨i, hi, rfl⟩ := List.mem_map.1 hz
      exact (hq i (List.mem_range.1 hi)).2.2.2
    · rw [List.getElem?_map] at hz
      obtain ⟨i, hi, rfl⟩ := Option.map_eq_some_iff.1 hz
      obtain ⟨hk, rfl⟩ := List.getElem?_eq_some_iff.1 hi
      rw [List.length_range] at hk
      rw [List.getElem_range]
      obtain ⟨c0, c1, c2, _⟩ := hq k hk
      rw [Addr.add_add] at c1 c2
      exact ⟨a, rfl, by rw [show 3 * k = k * 3 by omega]; exact c0, by rw [show 3 * k + 1 = k * 3 + 1 by omega]; exact c1, by rw [show 3 * k + 2 = k * 3 + 2 by omega]; exact c2⟩
/-- A list of turns as an argument. -/
def TurnsS (w : World) (A : Option Addr) (len : Nat) : Prop := ∀ i, i < len → ∃ a b, A = some a ∧ w.cell? (a.add i) = some (.bool b)
theorem TurnsS.below {w w' : World} {A : Option Addr} {len : Nat} (h : TurnsS w A len) (hb : Below w.heap.size w w') : TurnsS w' A len := fun i hi => by
  obtain ⟨a, b, h1, h2⟩ := h i hi
  exact ⟨a, b, h1, (hb.cell (cell_lt h2)).trans h2⟩
section
open Go.ChangeShapes Go.WideShapes
theorem open_turnsS {H : Type} {enc : TypeId × Value → H} {W : World} {held : Bool} {fuel : Nat} {a : Option Addr} {len cap : Nat} {x : DataW H × List MemPlace} (h : DataW.trod enc Try.prog W 0 (fun _ => true) held fuel 29 (Value.slice a len cap).cells.toList = some x) :
    TurnsS W a len := by
  rcases Go.Deep.open_bools Try.underlying29 Try.underlying4 (by kernel_rfl) h with ⟨hcs, _⟩ | ⟨b, n, c, B, hcs, _, hl, hm, _, hall⟩
  · simp [Value.cells] at hcs
    obtain ⟨rfl, rfl, rfl⟩ := hcs
    exact fun i hi => absurd hi (Nat.not_lt_zero _)
  · simp [Value.cells] at hcs
    obtain ⟨rfl, rfl, rfl⟩ := hcs
    exact fun i hi => ⟨b, B i, rfl, hall i (by omega)⟩
end
end Go.Proofs.Yteojhhfcfdkmdaa
