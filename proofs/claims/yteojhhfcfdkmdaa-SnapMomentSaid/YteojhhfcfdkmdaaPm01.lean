/- Texts of this claim, packed: Mem. -/
import Derived.Test.YteojhhfcfdkmdaaRows
import Derived.WalkKit
import Derived.WalkSpells
import Derived.WalkLawsBesides
import Derived.Lib.Hide
import Derived.Laws.BitsAllLaws
import Derived.Laws.Tables
import Derived.Laws.CopyOwn
set_option linter.unusedSimpArgs false
set_option linter.unusedVariables false
/- Words for memory that the proofs of this seat share: a block that is known whole, a slice that reads as a list, a row that the call owns; no conditions. -/
namespace Go.Proofs.Yteojhhfcfdkmdaa
open Go.RowKit
set_option linter.unusedVariables false

/-- A byte as a value; a word as a value. -/
def bv (n : Nat) : Value := .int .u8 (n : Int)
def wv (n : Nat) : Value := .int .u64 (n : Int)

/-- A block that holds just these cells, none of them frozen. -/
def Row (w : World) (g : Nat) (t : TypeId) (cs : Array Value) : Prop := w.heap[g]? = some (.cells cs t (0, 0))

section
variable {w w' : World} {g : Nat} {t : TypeId} {cs : Array Value}
theorem Row.lt (h : Row w g t cs) : g < w.heap.size := by
  by_cases hl : g < w.heap.size
  · exact hl
  · have h' : w.heap[g]? = some (.cells cs t (0, 0)) := h
    rw [Array.getElem?_eq_none (by omega)] at h'
    cases h'
theorem Row.cell (h : Row w g t cs) (i : Nat) : w.cell? ⟨g, i, none⟩ = cs[i]? := cell_of_row w g i cs t (0, 0) h
theorem Row.free (h : Row w g t cs) (i : Nat) : w.frozen? ⟨g, i, none⟩ = false := frozen_of_row w g i cs t h
theorem Row.new (w : World) (t : TypeId) (cs : Array Value) : Row (w.alloc (.cells cs t)) w.heap.size t cs := heap_alloc_new w _
theorem Row.alloc (h : Row w g t cs) (o : Obj) : Row (w.alloc o) g t cs := (Below.heap_alloc w o g h.lt).trans h
theorem Row.set (h : Row w g t cs) (i : Nat) (u : Value) : Row (w.setCell ⟨g, i, none⟩ u) g t (cs.setIfInBounds i u) := heap_setCell_same w g i cs t u h
theorem Row.other (h : Row w g t cs) {p : Addr} (hp : g ≠ p.block) (u : Value) : Row (w.setCell p u) g t cs := (heap_setCell_other w p g u hp).trans h
theorem Row.below {B : Nat} (h : Row w g t cs) (hb : Below B w w') (hg : g < B) : Row w' g t cs := (hb.block g hg).trans h
theorem Row.setRow (h : Row w g t cs) (ds : Array Value) : Row (w.setRow g ds) g t ds := setRow_heap w g cs ds t (0, 0) h
end

/-- An array of which those places are filled that p says. -/
def part (n : Nat) (p : Nat → Bool) (f : Nat → Value) (z : Value) : Array Value := Array.ofFn fun i : Fin n => if p i.val then f i.val else z
theorem part_size (n : Nat) (p : Nat → Bool) (f : Nat → Value) (z : Value) : (part n p f z).size = n := by simp [part]
theorem part_set {n k : Nat} {p q : Nat → Bool} {f : Nat → Value} {z : Value} (hq : ∀ i, i < n → q i = (p i || i == k)) : (part n p f z).setIfInBounds k (f k) = part n q f z := by
  apply Array.ext
  · simp [part]
  · intro i h1 h2
    have hi : i < n := by simpa [part] using h2
    have hr : (part n q f z)[i] = if q i then f i else z := by simp [part]
    have hl : ((part n p f z).setIfInBounds k (f k))[i] = if k = i then f k else if p i then f i else z := by
      rw [Array.getElem_setIfInBounds]
      · simp [part]
      · simpa [part] using hi
    rw [hl, hr, hq i hi]
    by_cases e : k = i
    · subst e; simp
    · have e' : (i == k) = false := by simp [Ne.symm e]
      simp [e, e']
theorem part_get {n k : Nat} {p : Nat → Bool} {f : Nat → Value} {z : Value} (hk : k < n) : (part n p f z)[k]? = some (if p k then f k else z) := by
  simp [part, hk]

theorem part_next (n k : Nat) (f : Nat → Value) (z : Value) : (part n (fun i => decide (i < k)) f z).setIfInBounds k (f k) = part n (fun i => decide (i < k + 1)) f z :=
  part_set (by
    intro i _
    rw [Bool.eq_iff_iff]
    simp
    omega)
theorem part_back (m k : Nat) (f : Nat → Value) (z : Value) (hk : k ≤ m) : (part (m + 1) (fun i => decide (m - i < k)) (fun i => f (m - i)) z).setIfInBounds (m - k) (f k) = part (m + 1) (fun i => decide (m - i < k + 1)) (fun i => f (m - i)) z := by
  have h := part_set (n := m + 1) (k := m - k) (p := fun i => decide (m - i < k)) (q := fun i => decide (m - i < k + 1)) (f := fun i => f (m - i)) (z := z) (by
    intro i hi
    rw [Bool.eq_iff_iff]
    simp
    omega)
  rw [show m - (m - k) = k from by omega] at h
  exact h
theorem part_none (n : Nat) {p : Nat → Bool} (f : Nat → Value) (z : Value) (hp : ∀ i, p i = false) : part n p f z = Array.replicate n z := by
  apply Array.ext
  · simp [part]
  · intro i h1 h2
    simp [part, hp]
theorem part_all {n : Nat} {p : Nat → Bool} (f : Nat → Value) (z : Value) (hp : ∀ i, i < n → p i = true) : part n p f z = Array.ofFn fun i : Fin n => f i.val := by
  apply Array.ext
  · simp [part]
  · intro i h1 h2
    simp [part, hp i (by simpa [part] using h1)]

/-- A slice's address, of a slice that reads as these values. -/
def Sl (w : World) (A : Option Addr) (xs : List Value) : Prop := ∀ i u, xs[i]? = some u → ∃ a, A = some a ∧ w.cell? (a.add i) = some u
theorem add_block (a : Addr) (n : Nat) : (a.add n).block = a.block := by unfold Addr.add; split <;> rfl
theorem add_add (a : Addr) (i j : Nat) : (a.add i).add j = a.add (i + j) := by
  unfold Addr.add
  by_cases hi : i = 0 <;> by_cases hj : j = 0 <;> simp [hi, hj, Nat.add_assoc]
theorem Sl.below {w w' : World} {A : Option Addr} {xs : List Value} (h : Sl w A xs) (hb : Below w.heap.size w w') : Sl w' A xs := by
  intro i u hu
  obtain ⟨a, e, hc⟩ := h i u hu
  exact ⟨a, e, (hb.cell (block_lt_of_cell hc)).trans hc⟩
theorem Sl.at_ {w : World} {A : Option Addr} {xs : List Value} (h : Sl w A xs) {i : Nat} (hi : i < xs.length) : ∃ a, A = some a ∧ w.cell? (a.add i) = some xs[i] := h i _ (List.getElem?_eq_getElem hi)
theorem Sl.some_ {w : World} {a : Addr} {xs : List Value} (h : Sl w (some a) xs) {i : Nat} (hi : i < xs.length) : w.cell? (a.add i) = some xs[i] := by
  obtain ⟨a', e, hc⟩ := h.at_ hi
  cases e
  exact hc
theorem Sl.sub {w : World} {a : Addr} {xs : List Value} (h : Sl w (some a) xs) (k m : Nat) : Sl w (some (a.add k)) ((xs.drop k).take m) := by
  intro i u hu
  rw [List.getElem?_take] at hu
  split at hu
  · rw [List.getElem?_drop] at hu
    obtain ⟨a', e, hc⟩ := h _ u hu
    cases e
    exact ⟨_, rfl, by rw [add_add]; exact hc⟩
  · cases hu
/-- What the call owns reads as a list. -/
theorem own_sl {w : World} {B n : Nat} {e : TypeId} {v : Value} {xs : List Value} (h : w.ownsRow B e 1 v n xs) : ∃ A cap, v = .slice A n cap ∧ n ≤ cap ∧ cap ≤ maxLen ∧ Sl w A xs ∧ xs.length = n := by
  have hl : xs.length = n := by have := h.1; omega
  rcases h.2 with ⟨rfl, rfl⟩ | ⟨g, cap, cur, rfl, _, _, hnc, hm, _, _⟩
  · refine ⟨none, 0, rfl, Nat.le_refl _, Nat.zero_le _, ?_, hl⟩
    have hx : xs = [] := List.eq_nil_of_length_eq_zero hl
    subst hx
    intro i u hu
    simp at hu
  · exact ⟨_, cap, rfl, hnc, hm, fun i u hu => ⟨_, rfl, h.cells rfl i u hu⟩, hl⟩
theorem own_below {w w' : World} {B C n : Nat} {e : TypeId} {v : Value} {xs : List Value} (h : w.ownsRow B e 1 v n xs) (hb : Below C w w') (hC : ∀ g, v.ownBlock = some g → g < C) : w'.ownsRow B e 1 v n xs := by
  refine ⟨h.1, ?_⟩
  rcases h.2 with h0 | ⟨g, cap, cur, rfl, hg, hh, hr⟩
  · exact .inl h0
  · exact .inr ⟨g, cap, cur, rfl, hg, (hb.block g (hC g rfl)).trans hh, hr⟩
theorem own_keep {w w' : World} {B n : Nat} {e : TypeId} {v : Value} {xs : List Value} (h : w.ownsRow B e 1 v n xs) (hb : Below w.heap.size w w') : w'.ownsRow B e 1 v n xs := own_below h hb fun g hg => (h.lt g hg).2
theorem own_mono {w : World} {B B' n : Nat} {e : TypeId} {v : Value} {xs : List Value} (h : w.ownsRow B e 1 v n xs) (hb : B' ≤ B) : w.ownsRow B' e 1 v n xs := by
  refine ⟨h.1, ?_⟩
  rcases h.2 with h0 | ⟨g, cap, cur, rfl, hg, hr⟩
  · exact .inl h0
  · exact .inr ⟨g, cap, cur, rfl, Nat.le_trans hb hg, hr⟩

theorem wv_ones (l : List Nat) : ∀ u ∈ l.map wv, u.oneCell' = true := by
  intro u hu
  simp only [List.mem_map] at hu
  obtain ⟨n, _, rfl⟩ := hu
  rfl
theorem bv_ones (l : List Nat) : ∀ u ∈ l.map bv, u.oneCell' = true := by
  intro u hu
  simp only [List.mem_map] at hu
  obtain ⟨n, _, rfl⟩ := hu
  rfl

/-- An integer that fits a word is one. -/
theorem wf_nat {a : Int} (h : (Lit.int .u64 a).wf = true) : ∃ n : Nat, a = (n : Int) ∧ n < 18446744073709551616 := by
  simp only [Lit.wf, Bool.and_eq_true, decide_eq_true_eq] at h
  have h1 : (0 : Int) ≤ a := h.1
  have h2 : a ≤ 18446744073709551615 := h.2
  exact ⟨a.toNat, by omega, by omega⟩
/-- What a walk is told of a slice of integers that came in: it is nil, or it leads to a row of its capacity's cells, each of them fit. -/
def InRow (k : IntKind) (w : World) (a : Option Addr) (len cap : Nat) (zs : List Int) : Prop :=
  (a = none ∧ len = 0 ∧ cap = 0 ∧ zs = []) ∨
  ∃ x, a = some x ∧ len ≤ cap ∧ cap ≤ maxLen ∧ zs.length = cap ∧ (∀ i, i < zs.length → w.cell? (x.add i) = some (.int k (zs.getD i 0))) ∧ ∀ n ∈ zs, (Lit.int k n).wf = true
theorem nats_of {k : IntKind} {zs : List Int} {b : Nat} (h : ∀ z ∈ zs, 0 ≤ z ∧ z < (b : Int)) : (zs.map Int.toNat).map (fun n : Nat => Value.int k (n : Int)) = zs.map (Value.int k) ∧ ∀ n ∈ zs.map Int.toNat, n < b := by
  constructor
  · rw [List.map_map]
    apply List.map_congr_left
    intro z hz
    have := h z hz
    show Value.int k ((z.toNat : Nat) : Int) = _
    rw [Int.toNat_of_nonneg this.1]
  · intro n hn
    simp only [List.mem_map] at hn
    obtain ⟨z, hz, rfl⟩ := hn
    have := h z hz
    omega
theorem InRow.read {k : IntKind} {w : World} {a : Option Addr} {len cap : Nat} {zs : List Int} {b : Nat} (h : InRow k w a len cap zs) (hb : ∀ n, (Lit.int k n).wf = true → 0 ≤ n ∧ n < (b : Int)) :
    ∃ l : List Nat, l.length = len ∧ (∀ n ∈ l, n < b) ∧ Sl w a (l.map fun n : Nat => Value.int k (n : Int)) ∧ len ≤ cap ∧ (a = none → len = 0 ∧ cap = 0) := by
  rcases h with ⟨rfl, rfl, rfl, rfl⟩ | ⟨x, rfl, hl, hm, hz, hc, hw⟩
  · exact ⟨[], rfl, (by simp), (by intro i u hu; simp at hu), Nat.le_refl _, fun _ => ⟨rfl, rfl⟩⟩
  · have hn := nats_of (k := k) (zs := zs.take len) (b := b) (fun z hz => hb z (hw z (List.mem_of_mem_take hz)))
    refine ⟨(zs.take len).map Int.toNat, by simp; omega, hn.2, ?_, hl, fun e => by cases e⟩
    rw [hn.1]
    intro i u hu
    rw [List.getElem?_map, List.getElem?_take] at hu
    split at hu
    · have hi : i < zs.length := by omega
      rw [List.getElem?_eq_getElem hi] at hu
      simp only [Option.map_some, Option.some.injEq] at hu
      subst hu
      refine ⟨x, rfl, ?_⟩
      rw [hc i hi, List.getD_eq_getElem?_getD, List.getElem?_eq_getElem hi, Option.getD_some]
    · simp at hu
theorem wf_byte (n : Int) (h : (Lit.int .u8 n).wf = true) : 0 ≤ n ∧ n < ((256 : Nat) : Int) := by
  simp only [Lit.wf, Bool.and_eq_true, decide_eq_true_eq] at h
  have h1 : (0 : Int) ≤ n := h.1
  have h2 : n ≤ 255 := h.2
  omega
theorem wf_word (n : Int) (h : (Lit.int .u64 n).wf = true) : 0 ≤ n ∧ n < ((18446744073709551616 : Nat) : Int) := by
  simp only [Lit.wf, Bool.and_eq_true, decide_eq_true_eq] at h
  have h1 : (0 : Int) ≤ n := h.1
  have h2 : n ≤ 18446744073709551615 := h.2
  omega

theorem sl_lit (w : World) (t : TypeId) (l : List Nat) (f : Nat → Value) : Sl (w.alloc (.cells (l.map f).toArray t)) (some ⟨w.heap.size, 0, none⟩) (l.map f) := by
  intro i u hu
  refine ⟨_, rfl, ?_⟩
  have e : (⟨w.heap.size, 0, none⟩ : Addr).add i = ⟨w.heap.size, i, none⟩ := by unfold Addr.add; split <;> simp_all
  rw [e, cell_of_row _ _ _ _ _ _ (heap_alloc_new w _)]
  simpa using hu
theorem drew_below (w : World) : Below w.heap.size w w.drew := ⟨rfl, rfl, rfl, Nat.le_refl _, fun _ _ => rfl⟩
theorem drewN_below (w : World) (q : Nat) : Below w.heap.size w (w.drewN q) := ⟨rfl, rfl, rfl, Nat.le_refl _, fun _ _ => rfl⟩
theorem alloc_below (w : World) (o : Obj) : Below w.heap.size w (w.alloc o) := (Below.refl _ _).alloc (Nat.le_refl _) _
theorem Below.and {w w1 w2 : World} (h : Below w.heap.size w w1) (h2 : Below w1.heap.size w1 w2) : Below w.heap.size w w2 := h.trans (h2.mono h.size)
theorem own_ne {w : World} {B n g : Nat} {e t : TypeId} {v : Value} {xs : List Value} {cs : Array Value} (h : w.ownsRow B e 1 v n xs) (hr : Row w g t cs) (hne : e ≠ t) : some g ≠ v.ownBlock := by
  rcases h.2 with ⟨rfl, _⟩ | ⟨g', cap, cur, rfl, _, hh, _⟩
  · intro h; cases h
  · intro he
    have : g = g' := by injection he
    subst this
    have hr' : w.heap[g]? = some (.cells cs t (0, 0)) := hr
    rw [hr'] at hh
    injection hh with hh
    injection hh with _ ht
    exact hne ht.symm
theorem Row.grown {w w' : World} {g : Nat} {t : TypeId} {cs : Array Value} {row : Option Nat} (h : Row w g t cs) (hb : w.grownBy w' row) (hne : some g ≠ row) : Row w' g t cs := (hb.block g h.lt hne).trans h
theorem own_from {w : World} {B n : Nat} {e : TypeId} {v : Value} {xs : List Value} (h : w.ownsRow B e 1 v n xs) : ∀ k, v.ownBlock = some k → B ≤ k := fun k hk => (h.lt k hk).1
theorem own_set {w : World} {B n : Nat} {e : TypeId} {v : Value} {xs : List Value} (h : w.ownsRow B e 1 v n xs) {p : Addr} (hne : some p.block ≠ v.ownBlock) (u : Value) : (w.setCell p u).ownsRow B e 1 v n xs := by
  refine ⟨h.1, ?_⟩
  rcases h.2 with h0 | ⟨g, cap, cur, rfl, hg, hh, hr⟩
  · exact .inl h0
  · exact .inr ⟨g, cap, cur, rfl, hg, (heap_setCell_other w p g u (fun e => hne (by rw [← e]; rfl))).trans hh, hr⟩
theorem slc_nil (w : World) : Sl w none [] := by intro i u hu; simp at hu
theorem row_sl {w : World} {g : Nat} {t : TypeId} {l : List Nat} {f : Nat → Value} (h : Row w g t (l.map f).toArray) : Sl w (some ⟨g, 0, none⟩) (l.map f) := by
  intro i u hu
  refine ⟨_, rfl, ?_⟩
  have e : (⟨g, 0, none⟩ : Addr).add i = ⟨g, i, none⟩ := by unfold Addr.add; split <;> simp_all
  rw [e, h.cell]
  simpa using hu
theorem add_lit (g k : Nat) : (⟨g, 0, none⟩ : Addr).add k = ⟨g, k, none⟩ := by unfold Addr.add; split <;> simp_all
theorem own_some {w : World} {B n : Nat} {e : TypeId} {v : Value} {xs : List Value} (h : w.ownsRow B e 1 v n xs) (hn : 0 < n) : ∃ g cap, v = .slice (some ⟨g, 0, none⟩) n cap ∧ n ≤ cap ∧ cap ≤ maxLen ∧ Sl w (some ⟨g, 0, none⟩) xs := by
  rcases h.2 with ⟨_, h0⟩ | ⟨g, cap, cur, rfl, _, _, hnc, hm, _, _⟩
  · omega
  · exact ⟨g, cap, rfl, hnc, hm, fun i u hu => ⟨_, rfl, h.cells rfl i u hu⟩⟩
theorem sl_cells {w : World} {a : Addr} {xs : List Value} (h : Sl w (some a) xs) : ∀ j u, xs[j]? = some u → w.cell? (a.add j) = some u := by
  intro j u hu
  obtain ⟨a', e, hc⟩ := h j u hu
  cases e
  exact hc
/-- The row of a list that fills it. -/
theorem own_row {w : World} {B g n : Nat} {e : TypeId} {xs : List Value} (h : w.ownsRow B e 1 (.slice (some ⟨g, 0, none⟩) n n) n xs) : Row w g e xs.toArray := by
  rcases h.2 with ⟨h0, _⟩ | ⟨g', cap, cur, h0, _, hh, _, _, hsz, htk⟩
  · cases h0
  · simp only [Value.slice.injEq, Option.some.injEq, Addr.mk.injEq, and_true, true_and] at h0
    obtain ⟨rfl, rfl⟩ := h0
    have e1 : cur.toList.take (n * 1) = cur.toList := List.take_of_length_le (by rw [Array.length_toList, hsz]; exact Nat.le_refl _)
    rw [e1] at htk
    have e2 : cur = xs.toArray := by rw [← htk]
    rw [← e2]
    exact hh
theorem add_zero' (a : Addr) : a.add 0 = a := by unfold Addr.add; simp
theorem size_set (w : World) (p : Addr) (u : Value) : (w.setCell p u).heap.size = w.heap.size := by simp [World.setCell]
/-- Nothing has turned but these blocks, and what is new. -/
structure But (w w' : World) (fp : Nat → Prop) : Prop where
  os : w'.os = w.os
  tape : w'.tape = w.tape
  output : w'.output = w.output
  size : w.heap.size ≤ w'.heap.size
  block : ∀ k, k < w.heap.size → ¬ fp k → w'.heap[k]? = w.heap[k]?
theorem But.refl (w : World) (fp : Nat → Prop) : But w w fp := ⟨rfl, rfl, rfl, Nat.le_refl _, fun _ _ _ => rfl⟩
theorem But.mono {w w' : World} {p q : Nat → Prop} (h : But w w' p) (hq : ∀ k, p k → q k) : But w w' q := ⟨h.os, h.tape, h.output, h.size, fun k hk hn => h.block k hk (fun hp => hn (hq k hp))⟩
theorem But.trans {w w1 w2 : World} {p q : Nat → Prop} (h : But w w1 p) (h2 : But w1 w2 q) (hq : ∀ k, q k → p k ∨ w.heap.size ≤ k) : But w w2 p :=
  ⟨h2.os.trans h.os, h2.tape.trans h.tape, h2.output.trans h.output, Nat.le_trans h.size h2.size, fun k hk hn => (h2.block k (Nat.lt_of_lt_of_le hk h.size) (fun hp => by rcases hq k hp with h | h; exact hn h; omega)).trans (h.block k hk hn)⟩
theorem But.of_below {w w' : World} (h : Below w.heap.size w w') (fp : Nat → Prop) : But w w' fp := ⟨h.os, h.tape, h.output, h.size, fun k hk _ => h.block k hk⟩
theorem But.below {w w' : World} {fp : Nat → Prop} (h : But w w' fp) {B : Nat} (hB : B ≤ w.heap.size) (hf : ∀ k, fp k → B ≤ k) : Below B w w' :=
  ⟨h.os, h.tape, h.output, h.size, fun k hk => h.block k (by omega) (fun hp => by have := hf k hp; omega)⟩
theorem But.row {w w' : World} {fp : Nat → Prop} {g : Nat} {t : TypeId} {cs : Array Value} (h : But w w' fp) (hr : Row w g t cs) (hn : ¬ fp g) : Row w' g t cs := (h.block g hr.lt hn).trans hr
theorem But.cell {w w' : World} {fp : Nat → Prop} (h : But w w' fp) {p : Addr} {u : Value} (hc : w.cell? p = some u) (hn : ¬ fp p.block) : w'.cell? p = some u :=
  (World.cell?_of_block (h.block p.block (block_lt_of_cell hc) hn)).trans hc
theorem But.set {w w' : World} {fp : Nat → Prop} (h : But w w' fp) {p : Addr} (hp : fp p.block) (u : Value) : But w (w'.setCell p u) fp :=
  ⟨h.os, h.tape, h.output, by rw [size_set]; exact h.size, fun k h1 h2 => (heap_setCell_other _ _ _ _ (fun e => h2 (by rw [e]; exact hp))).trans (h.block k h1 h2)⟩
theorem But.alloc {w w' : World} {fp : Nat → Prop} (h : But w w' fp) (o : Obj) : But w (w'.alloc o) fp :=
  ⟨h.os, h.tape, h.output, Nat.le_trans h.size (by simp), fun k h1 h2 => (Below.heap_alloc w' o k (Nat.lt_of_lt_of_le h1 h.size)).trans (h.block k h1 h2)⟩
theorem But.drew {w w' : World} {fp : Nat → Prop} (h : But w w' fp) : But w w'.drew fp := ⟨h.os, h.tape, h.output, h.size, h.block⟩
end Go.Proofs.Yteojhhfcfdkmdaa
