/- Texts of this claim, packed: Mem, HMath, HSet. -/
import Derived.Test.YthibbcokpmckfaaGreatDoorRows
import Derived.WalkKit
import Derived.WalkSpells
import Derived.WalkLawsBesides
import Derived.Lib.Hide
import Derived.Laws.BitsAllLaws
import Derived.Laws.Tables
import Derived.Laws.CopyOwn
import Derived.ArgAppend
import Derived.Deep.AppendLies
/- Words for memory that the proofs of this seat share: a block that is known whole, a slice that reads as a list, a row that the call owns; no conditions. -/
namespace Go.Proofs.YthibbcokpmckfaaGreatDoor
open Go.RowKit
set_option linter.unusedVariables false

/-- A byte as a value; a word as a value. -/
def bv (n : Nat) : Value := .int .u8 (n : Int)
def wv (n : Nat) : Value := .int .u64 (n : Int)

/-- A block that holds just these cells, none of them frozen. -/
def Row (w : World) (g : Nat) (t : TypeId) (cs : Array Value) : Prop := w.heap[g]? = some (.cells cs t (0, 0))

section
variable {w w' : World} {g : Nat} {t : TypeId} {cs : Array Value}
theorem Row.lt (h : Row w g t cs) : g < w.heap.size := by
  by_cases hl : g < w.heap.size
  · exact hl
  · have h' : w.heap[g]? = some (.cells cs t (0, 0)) := h
    rw [Array.getElem?_eq_none (by omega)] at h'
    cases h'
theorem Row.cell (h : Row w g t cs) (i : Nat) : w.cell? ⟨g, i, none⟩ = cs[i]? := cell_of_row w g i cs t (0, 0) h
theorem Row.free (h : Row w g t cs) (i : Nat) : w.frozen? ⟨g, i, none⟩ = false := frozen_of_row w g i cs t h
theorem Row.new (w : World) (t : TypeId) (cs : Array Value) : Row (w.alloc (.cells cs t)) w.heap.size t cs := heap_alloc_new w _
theorem Row.alloc (h : Row w g t cs) (o : Obj) : Row (w.alloc o) g t cs := (Below.heap_alloc w o g h.lt).trans h
theorem Row.set (h : Row w g t cs) (i : Nat) (u : Value) : Row (w.setCell ⟨g, i, none⟩ u) g t (cs.setIfInBounds i u) := heap_setCell_same w g i cs t u h
theorem Row.other (h : Row w g t cs) {p : Addr} (hp : g ≠ p.block) (u : Value) : Row (w.setCell p u) g t cs := (heap_setCell_other w p g u hp).trans h
theorem Row.below {B : Nat} (h : Row w g t cs) (hb : Below B w w') (hg : g < B) : Row w' g t cs := (hb.block g hg).trans h
theorem Row.setRow (h : Row w g t cs) (ds : Array Value) : Row (w.setRow g ds) g t ds := setRow_heap w g cs ds t (0, 0) h
end

/-- An array of which those places are filled that p says. -/
def part (n : Nat) (p : Nat → Bool) (f : Nat → Value) (z : Value) : Array Value := Array.ofFn fun i : Fin n => if p i.val then f i.val else z
theorem part_size (n : Nat) (p : Nat → Bool) (f : Nat → Value) (z : Value) : (part n p f z).size = n := by simp [part]
theorem part_set {n k : Nat} {p q : Nat → Bool} {f : Nat → Value} {z : Value} (hq : ∀ i, i < n → q i = (p i || i == k)) : (part n p f z).setIfInBounds k (f k) = part n q f z := by
  apply Array.ext
  · simp [part]
  · intro i h1 h2
    have hi : i < n := by simpa [part] using h2
    have hr : (part n q f z)[i] = if q i then f i else z := by simp [part]
    have hl : ((part n p f z).setIfInBounds k (f k))[i] = if k = i then f k else if p i then f i else z := by
      rw [Array.getElem_setIfInBounds]
      · simp [part]
      · simpa [part] using hi
    rw [hl, hr, hq i hi]
    by_cases e : k = i
    · subst e; simp
    · have e' : (i == k) = false := by simp [Ne.symm e]
      simp [e, e']
theorem part_get {n k : Nat} {p : Nat → Bool} {f : Nat → Value} {z : Value} (hk : k < n) : (part n p f z)[k]? = some (if p k then f k else z) := by
  simp [part, hk]

theorem part_next (n k : Nat) (f : Nat → Value) (z : Value) : (part n (fun i => decide (i < k)) f z).setIfInBounds k (f k) = part n (fun i => decide (i < k + 1)) f z :=
  part_set (by
    intro i _
    rw [Bool.eq_iff_iff]
    simp
    omega)
theorem part_back (m k : Nat) (f : Nat → Value) (z : Value) (hk : k ≤ m) : (part (m + 1) (fun i => decide (m - i < k)) (fun i => f (m - i)) z).setIfInBounds (m - k) (f k) = part (m + 1) (fun i => decide (m - i < k + 1)) (fun i => f (m - i)) z := by
  have h := part_set (n := m + 1) (k := m - k) (p := fun i => decide (m - i < k)) (q := fun i => decide (m - i < k + 1)) (f := fun i => f (m - i)) (z := z) (by
    intro i hi
    rw [Bool.eq_iff_iff]
    simp
    omega)
  rw [show m - (m - k) = k from by omega] at h
  exact h
theorem part_none (n : Nat) {p : Nat → Bool} (f : Nat → Value) (z : Value) (hp : ∀ i, p i = false) : part n p f z = Array.replicate n z := by
  apply Array.ext
  · simp [part]
  · intro i h1 h2
    simp [part, hp]
theorem part_all {n : Nat} {p : Nat → Bool} (f : Nat → Value) (z : Value) (hp : ∀ i, i < n → p i = true) : part n p f z = Array.ofFn fun i : Fin n => f i.val := by
  apply Array.ext
  · simp [part]
  · intro i h1 h2
    simp [part, hp i (by simpa [part] using h1)]

/-- A slice's address, of a slice that reads as these values. -/
def Sl (w : World) (A : Option Addr) (xs : List Value) : Prop := ∀ i u, xs[i]? = some u → ∃ a, A = some a ∧ w.cell? (a.add i) = some u
theorem add_block (a : Addr) (n : Nat) : (a.add n).block = a.block := by unfold Addr.add; split <;> rfl
theorem add_add (a : Addr) (i j : Nat) : (a.add i).add j = a.add (i + j) := by
  unfold Addr.add
  by_cases hi : i = 0 <;> by_cases hj : j = 0 <;> simp [hi, hj, Nat.add_assoc]
theorem Sl.below {w w' : World} {A : Option Addr} {xs : List Value} (h : Sl w A xs) (hb : Below w.heap.size w w') : Sl w' A xs := by
  intro i u hu
  obtain ⟨a, e, hc⟩ := h i u hu
  exact ⟨a, e, (hb.cell (block_lt_of_cell hc)).trans hc⟩
theorem Sl.at_ {w : World} {A : Option Addr} {xs : List Value} (h : Sl w A xs) {i : Nat} (hi : i < xs.length) : ∃ a, A = some a ∧ w.cell? (a.add i) = some xs[i] := h i _ (List.getElem?_eq_getElem hi)
theorem Sl.some_ {w : World} {a : Addr} {xs : List Value} (h : Sl w (some a) xs) {i : Nat} (hi : i < xs.length) : w.cell? (a.add i) = some xs[i] := by
  obtain ⟨a', e, hc⟩ := h.at_ hi
  cases e
  exact hc
theorem Sl.sub {w : World} {a : Addr} {xs : List Value} (h : Sl w (some a) xs) (k m : Nat) : Sl w (some (a.add k)) ((xs.drop k).take m) := by
  intro i u hu
  rw [List.getElem?_take] at hu
  split at hu
  · rw [List.getElem?_drop] at hu
    obtain ⟨a', e, hc⟩ := h _ u hu
    cases e
    exact ⟨_, rfl, by rw [add_add]; exact hc⟩
  · cases hu
/-- What the call owns reads as a list. -/
theorem own_sl {w : World} {B n : Nat} {e : TypeId} {v : Value} {xs : List Value} (h : w.ownsRow B e 1 v n xs) : ∃ A cap, v = .slice A n cap ∧ n ≤ cap ∧ cap ≤ maxLen ∧ Sl w A xs ∧ xs.length = n := by
  have hl : xs.length = n := by have := h.1; omega
  rcases h.2 with ⟨rfl, rfl⟩ | ⟨g, cap, cur, rfl, _, _, hnc, hm, _, _⟩
  · refine ⟨none, 0, rfl, Nat.le_refl _, Nat.zero_le _, ?_, hl⟩
    have hx : xs = [] := List.eq_nil_of_length_eq_zero hl
    subst hx
    intro i u hu
    simp at hu
  · exact ⟨_, cap, rfl, hnc, hm, fun i u hu => ⟨_, rfl, h.cells rfl i u hu⟩, hl⟩
theorem own_below {w w' : World} {B C n : Nat} {e : TypeId} {v : Value} {xs : List Value} (h : w.ownsRow B e 1 v n xs) (hb : Below C w w') (hC : ∀ g, v.ownBlock = some g → g < C) : w'.ownsRow B e 1 v n xs := by
  refine ⟨h.1, ?_⟩
  rcases h.2 with h0 | ⟨g, cap, cur, rfl, hg, hh, hr⟩
  · exact .inl h0
  · exact .inr ⟨g, cap, cur, rfl, hg, (hb.block g (hC g rfl)).trans hh, hr⟩
theorem own_keep {w w' : World} {B n : Nat} {e : TypeId} {v : Value} {xs : List Value} (h : w.ownsRow B e 1 v n xs) (hb : Below w.heap.size w w') : w'.ownsRow B e 1 v n xs := own_below h hb fun g hg => (h.lt g hg).2
theorem own_mono {w : World} {B B' n : Nat} {e : TypeId} {v : Value} {xs : List Value} (h : w.ownsRow B e 1 v n xs) (hb : B' ≤ B) : w.ownsRow B' e 1 v n xs := by
  refine ⟨h.1, ?_⟩
  rcases h.2 with h0 | ⟨g, cap, cur, rfl, hg, hr⟩
  · exact .inl h0
  · exact .inr ⟨g, cap, cur, rfl, Nat.le_trans hb hg, hr⟩

theorem wv_ones (l : List Nat) : ∀ u ∈ l.map wv, u.oneCell' = true := by
  intro u hu
  simp only [List.mem_map] at hu
  obtain ⟨n, _, rfl⟩ := hu
  rfl
theorem bv_ones (l : List Nat) : ∀ u ∈ l.map bv, u.oneCell' = true := by
  intro u hu
  simp only [List.mem_map] at hu
  obtain ⟨n, _, rfl⟩ := hu
  rfl

/-- An integer that fits a word is one. -/
theorem wf_nat {a : Int} (h : (Lit.int .u64 a).wf = true) : ∃ n : Nat, a = (n : Int) ∧ n < 18446744073709551616 := by
  simp only [Lit.wf, Bool.and_eq_true, decide_eq_true_eq] at h
  have h1 : (0 : Int) ≤ a := h.1
  have h2 : a ≤ 18446744073709551615 := h.2
  exact ⟨a.toNat, by omega, by omega⟩
/-- What a walk is told of a slice of integers that came in: it is nil, or it leads to a row of its capacity's cells, each of them fit. -/
def InRow (k : IntKind) (w : World) (a : Option Addr) (len cap : Nat) (zs : List Int) : Prop :=
  (a = none ∧ len = 0 ∧ cap = 0 ∧ zs = []) ∨
  ∃ x, a = some x ∧ len ≤ cap ∧ cap ≤ maxLen ∧ zs.length = cap ∧ (∀ i, i < zs.length → w.cell? (x.add i) = some (.int k (zs.getD i 0))) ∧ ∀ n ∈ zs, (Lit.int k n).wf = true
theorem nats_of {k : IntKind} {zs : List Int} {b : Nat} (h : ∀ z ∈ zs, 0 ≤ z ∧ z < (b : Int)) : (zs.map Int.toNat).map (fun n : Nat => Value.int k (n : Int)) = zs.map (Value.int k) ∧ ∀ n ∈ zs.map Int.toNat, n < b := by
  constructor
  · rw [List.map_map]
    apply List.map_congr_left
    intro z hz
    have := h z hz
    show Value.int k ((z.toNat : Nat) : Int) = _
    rw [Int.toNat_of_nonneg this.1]
  · intro n hn
    simp only [List.mem_map] at hn
    obtain ⟨z, hz, rfl⟩ := hn
    have := h z hz
    omega
theorem InRow.read {k : IntKind} {w : World} {a : Option Addr} {len cap : Nat} {zs : List Int} {b : Nat} (h : InRow k w a len cap zs) (hb : ∀ n, (Lit.int k n).wf = true → 0 ≤ n ∧ n < (b : Int)) :
    ∃ l : List Nat, l.length = len ∧ (∀ n ∈ l, n < b) ∧ Sl w a (l.map fun n : Nat => Value.int k (n : Int)) ∧ len ≤ cap ∧ (a = none → len = 0 ∧ cap = 0) := by
  rcases h with ⟨rfl, rfl, rfl, rfl⟩ | ⟨x, rfl, hl, hm, hz, hc, hw⟩
  · exact ⟨[], rfl, (by simp), (by intro i u hu; simp at hu), Nat.le_refl _, fun _ => ⟨rfl, rfl⟩⟩
  · have hn := nats_of (k := k) (zs := zs.take len) (b := b) (fun z hz => hb z (hw z (List.mem_of_mem_take hz)))
    refine ⟨(zs.take len).map Int.toNat, by simp; omega, hn.2, ?_, hl, fun e => by cases e⟩
    rw [hn.1]
    intro i u hu
    rw [List.getElem?_map, List.getElem?_take] at hu
    split at hu
    · have hi : i < zs.length := by omega
      rw [List.getElem?_eq_getElem hi] at hu
      simp only [Option.map_some, Option.some.injEq] at hu
      subst hu
      refine ⟨x, rfl, ?_⟩
      rw [hc i hi, List.getD_eq_getElem?_getD, List.getElem?_eq_getElem hi, Option.getD_some]
    · simp at hu
theorem wf_byte (n : Int) (h : (Lit.int .u8 n).wf = true) : 0 ≤ n ∧ n < ((256 : Nat) : Int) := by
  simp only [Lit.wf, Bool.and_eq_true, decide_eq_true_eq] at h
  have h1 : (0 : Int) ≤ n := h.1
  have h2 : n ≤ 255 := h.2
  omega
theorem wf_word (n : Int) (h : (Lit.int .u64 n).wf = true) : 0 ≤ n ∧ n < ((18446744073709551616 : Nat) : Int) := by
  simp only [Lit.wf, Bool.and_eq_true, decide_eq_true_eq] at h
  have h1 : (0 : Int) ≤ n := h.1
  have h2 : n ≤ 18446744073709551615 := h.2
  omega

theorem sl_lit (w : World) (t : TypeId) (l : List Nat) (f : Nat → Value) : Sl (w.alloc (.cells (l.map f).toArray t)) (some ⟨w.heap.size, 0, none⟩) (l.map f) := by
  intro i u hu
  refine ⟨_, rfl, ?_⟩
  have e : (⟨w.heap.size, 0, none⟩ : Addr).add i = ⟨w.heap.size, i, none⟩ := by unfold Addr.add; split <;> simp_all
  rw [e, cell_of_row _ _ _ _ _ _ (heap_alloc_new w _)]
  simpa using hu
theorem drew_below (w : World) : Below w.heap.size w w.drew := ⟨rfl, rfl, rfl, Nat.le_refl _, fun _ _ => rfl⟩
theorem drewN_below (w : World) (q : Nat) : Below w.heap.size w (w.drewN q) := ⟨rfl, rfl, rfl, Nat.le_refl _, fun _ _ => rfl⟩
theorem alloc_below (w : World) (o : Obj) : Below w.heap.size w (w.alloc o) := (Below.refl _ _).alloc (Nat.le_refl _) _
theorem Below.and {w w1 w2 : World} (h : Below w.heap.size w w1) (h2 : Below w1.heap.size w1 w2) : Below w.heap.size w w2 := h.trans (h2.mono h.size)
theorem own_ne {w : World} {B n g : Nat} {e t : TypeId} {v : Value} {xs : List Value} {cs : Array Value} (h : w.ownsRow B e 1 v n xs) (hr : Row w g t cs) (hne : e ≠ t) : some g ≠ v.ownBlock := by
  rcases h.2 with ⟨rfl, _⟩ | ⟨g', cap, cur, rfl, _, hh, _⟩
  · intro h; cases h
  · intro he
    have : g = g' := by injection he
    subst this
    have hr' : w.heap[g]? = some (.cells cs t (0, 0)) := hr
    rw [hr'] at hh
    injection hh with hh
    injection hh with _ ht
    exact hne ht.symm
theorem Row.grown {w w' : World} {g : Nat} {t : TypeId} {cs : Array Value} {row : Option Nat} (h : Row w g t cs) (hb : w.grownBy w' row) (hne : some g ≠ row) : Row w' g t cs := (hb.block g h.lt hne).trans h
theorem own_from {w : World} {B n : Nat} {e : TypeId} {v : Value} {xs : List Value} (h : w.ownsRow B e 1 v n xs) : ∀ k, v.ownBlock = some k → B ≤ k := fun k hk => (h.lt k hk).1
theorem own_set {w : World} {B n : Nat} {e : TypeId} {v : Value} {xs : List Value} (h : w.ownsRow B e 1 v n xs) {p : Addr} (hne : some p.block ≠ v.ownBlock) (u : Value) : (w.setCell p u).ownsRow B e 1 v n xs := by
  refine ⟨h.1, ?_⟩
  rcases h.2 with h0 | ⟨g, cap, cur, rfl, hg, hh, hr⟩
  · exact .inl h0
  · exact .inr ⟨g, cap, cur, rfl, hg, (heap_setCell_other w p g u (fun e => hne (by rw [← e]; rfl))).trans hh, hr⟩
theorem slc_nil (w : World) : Sl w none [] := by intro i u hu; simp at hu
theorem row_sl {w : World} {g : Nat} {t : TypeId} {l : List Nat} {f : Nat → Value} (h : Row w g t (l.map f).toArray) : Sl w (some ⟨g, 0, none⟩) (l.map f) := by
  intro i u hu
  refine ⟨_, rfl, ?_⟩
  have e : (⟨g, 0, none⟩ : Addr).add i = ⟨g, i, none⟩ := by unfold Addr.add; split <;> simp_all
  rw [e, h.cell]
  simpa using hu
theorem add_lit (g k : Nat) : (⟨g, 0, none⟩ : Addr).add k = ⟨g, k, none⟩ := by unfold Addr.add; split <;> simp_all
theorem own_some {w : World} {B n : Nat} {e : TypeId} {v : Value} {xs : List Value} (h : w.ownsRow B e 1 v n xs) (hn : 0 < n) : ∃ g cap, v = .slice (some ⟨g, 0, none⟩) n cap ∧ n ≤ cap ∧ cap ≤ maxLen ∧ Sl w (some ⟨g, 0, none⟩) xs := by
  rcases h.2 with ⟨_, h0⟩ | ⟨g, cap, cur, rfl, _, _, hnc, hm, _, _⟩
  · omega
  · exact ⟨g, cap, rfl, hnc, hm, fun i u hu => ⟨_, rfl, h.cells rfl i u hu⟩⟩
theorem sl_cells {w : World} {a : Addr} {xs : List Value} (h : Sl w (some a) xs) : ∀ j u, xs[j]? = some u → w.cell? (a.add j) = some u := by
  intro j u hu
  obtain ⟨a', e, hc⟩ := h j u hu
  cases e
  exact hc
/-- The row of a list that fills it. -/
theorem own_row {w : World} {B g n : Nat} {e : TypeId} {xs : List Value} (h : w.ownsRow B e 1 (.slice (some ⟨g, 0, none⟩) n n) n xs) : Row w g e xs.toArray := by
  rcases h.2 with ⟨h0, _⟩ | ⟨g', cap, cur, h0, _, hh, _, _, hsz, htk⟩
  · cases h0
  · simp only [Value.slice.injEq, Option.some.injEq, Addr.mk.injEq, and_true, true_and] at h0
    obtain ⟨rfl, rfl⟩ := h0
    have e1 : cur.toList.take (n * 1) = cur.toList := List.take_of_length_le (by rw [Array.length_toList, hsz]; exact Nat.le_refl _)
    rw [e1] at htk
    have e2 : cur = xs.toArray := by rw [← htk]
    rw [← e2]
    exact hh
theorem add_zero' (a : Addr) : a.add 0 = a := by unfold Addr.add; simp
theorem size_set (w : World) (p : Addr) (u : Value) : (w.setCell p u).heap.size = w.heap.size := by simp [World.setCell]
/-- Nothing has turned but these blocks, and what is new. -/
structure But (w w' : World) (fp : Nat → Prop) : Prop where
  os : w'.os = w.os
  tape : w'.tape = w.tape
  output : w'.output = w.output
  size : w.heap.size ≤ w'.heap.size
  block : ∀ k, k < w.heap.size → ¬ fp k → w'.heap[k]? = w.heap[k]?
theorem But.refl (w : World) (fp : Nat → Prop) : But w w fp := ⟨rfl, rfl, rfl, Nat.le_refl _, fun _ _ _ => rfl⟩
theorem But.mono {w w' : World} {p q : Nat → Prop} (h : But w w' p) (hq : ∀ k, p k → q k) : But w w' q := ⟨h.os, h.tape, h.output, h.size, fun k hk hn => h.block k hk (fun hp => hn (hq k hp))⟩
theorem But.trans {w w1 w2 : World} {p q : Nat → Prop} (h : But w w1 p) (h2 : But w1 w2 q) (hq : ∀ k, q k → p k ∨ w.heap.size ≤ k) : But w w2 p :=
  ⟨h2.os.trans h.os, h2.tape.trans h.tape, h2.output.trans h.output, Nat.le_trans h.size h2.size, fun k hk hn => (h2.block k (Nat.lt_of_lt_of_le hk h.size) (fun hp => by rcases hq k hp with h | h; exact hn h; omega)).trans (h.block k hk hn)⟩
theorem But.of_below {w w' : World} (h : Below w.heap.size w w') (fp : Nat → Prop) : But w w' fp := ⟨h.os, h.tape, h.output, h.size, fun k hk _ => h.block k hk⟩
theorem But.below {w w' : World} {fp : Nat → Prop} (h : But w w' fp) {B : Nat} (hB : B ≤ w.heap.size) (hf : ∀ k, fp k → B ≤ k) : Below B w w' :=
  ⟨h.os, h.tape, h.output, h.size, fun k hk => h.block k (by omega) (fun hp => by have := hf k hp; omega)⟩
theorem But.row {w w' : World} {fp : Nat → Prop} {g : Nat} {t : TypeId} {cs : Array Value} (h : But w w' fp) (hr : Row w g t cs) (hn : ¬ fp g) : Row w' g t cs := (h.block g hr.lt hn).trans hr
theorem But.cell {w w' : World} {fp : Nat → Prop} (h : But w w' fp) {p : Addr} {u : Value} (hc : w.cell? p = some u) (hn : ¬ fp p.block) : w'.cell? p = some u :=
  (World.cell?_of_block (h.block p.block (block_lt_of_cell hc) hn)).trans hc
theorem But.set {w w' : World} {fp : Nat → Prop} (h : But w w' fp) {p : Addr} (hp : fp p.block) (u : Value) : But w (w'.setCell p u) fp :=
  ⟨h.os, h.tape, h.output, by rw [size_set]; exact h.size, fun k h1 h2 => (heap_setCell_other _ _ _ _ (fun e => h2 (by rw [e]; exact hp))).trans (h.block k h1 h2)⟩
theorem But.alloc {w w' : World} {fp : Nat → Prop} (h : But w w' fp) (o : Obj) : But w (w'.alloc o) fp :=
  ⟨h.os, h.tape, h.output, Nat.le_trans h.size (by simp), fun k h1 h2 => (Below.heap_alloc w' o k (Nat.lt_of_lt_of_le h1 h.size)).trans (h.block k h1 h2)⟩
theorem But.drew {w w' : World} {fp : Nat → Prop} (h : But w w' fp) : But w w'.drew fp := ⟨h.os, h.tape, h.output, h.size, h.block⟩
end Go.Proofs.YthibbcokpmckfaaGreatDoor
/- The heap's plain part: a list in which some places are swapped, brought up and brought down; that it stays a permutation, and comes to be a heap. No conditions but those that each sentence names. -/
namespace Go.Proofs.YthibbcokpmckfaaGreatDoor
set_option linter.unusedVariables false

def gd (l : List Nat) (i : Nat) : Nat := l.getD i 0
def swp (l : List Nat) (i j : Nat) : List Nat := (l.set i (gd l j)).set j (gd l i)
theorem gd_eq {l : List Nat} {i : Nat} (h : i < l.length) : l[i]? = some (gd l i) := by simp [gd, h]
theorem gd_mem {l : List Nat} {i : Nat} (h : i < l.length) : gd l i ∈ l := List.mem_of_getElem? (gd_eq h)
theorem swp_length (l : List Nat) (i j : Nat) : (swp l i j).length = l.length := by simp [swp]
theorem gd_set (l : List Nat) (i k x : Nat) (h : i < l.length) : gd (l.set i x) k = if k = i then x else gd l k := by
  unfold gd
  rw [List.getD_eq_getElem?_getD, List.getD_eq_getElem?_getD, List.getElem?_set]
  by_cases e : i = k
  · subst e; simp [h]
  · simp [e, Ne.symm e]
theorem gd_swp {l : List Nat} {i j : Nat} (hi : i < l.length) (hj : j < l.length) (k : Nat) : gd (swp l i j) k = if k = j then gd l i else if k = i then gd l j else gd l k := by
  unfold swp
  rw [gd_set _ _ _ _ (by simpa using hj), gd_set _ _ _ _ hi]
theorem set_perm {l : List Nat} {i : Nat} (h : i < l.length) (x : Nat) : (gd l i :: l.set i x).Perm (x :: l) := by
  induction l generalizing i with
  | nil => simp at h
  | cons a l ih =>
    cases i with
    | zero => simp [gd]; exact List.Perm.swap _ _ _
    | succ i =>
      have h' : i < l.length := by simpa using h
      have e : gd (a :: l) (i + 1) = gd l i := by simp [gd]
      rw [e, List.set_cons_succ]
      exact (List.Perm.swap _ _ _).trans (((ih h').cons a).trans (List.Perm.swap _ _ _))
theorem swp_perm {l : List Nat} {i j : Nat} (hi : i < l.length) (hj : j < l.length) : (swp l i j).Perm l := by
  unfold swp
  by_cases e : i = j
  · subst e
    have h2 : (l.set i (gd l i)).set i (gd l i) = l := by
      apply List.ext_getElem?
      intro k
      by_cases hk : i = k
      · subst hk; rw [List.getElem?_set_self (by simpa using hi), gd_eq hi]
      · rw [List.getElem?_set_ne hk, List.getElem?_set_ne hk]
    rw [h2]
  · have h1 := set_perm hi (gd l j)
    have h2 : (gd (l.set i (gd l j)) j :: (l.set i (gd l j)).set j (gd l i)).Perm (gd l i :: l.set i (gd l j)) := set_perm (by simpa using hj) (gd l i)
    rw [gd_set _ _ _ _ hi, if_neg (Ne.symm e)] at h2
    have h3 := h2.trans h1
    exact (List.perm_cons _).1 h3

/-- All links of the first n places but those that p names are in order. -/
def HeapP (l : List Nat) (n : Nat) : Prop := ∀ i, 0 < i → i < n → gd l ((i - 1) / 2) ≤ gd l i

def upF (l : List Nat) (j : Nat) : List Nat :=
  if h : 0 < j ∧ gd l j < gd l ((j - 1) / 2) then upF (swp l ((j - 1) / 2) j) ((j - 1) / 2) else l
termination_by j
decreasing_by omega

def UpPre (l : List Nat) (j n : Nat) : Prop := (∀ i, 0 < i → i < n → i ≠ j → gd l ((i - 1) / 2) ≤ gd l i) ∧ (∀ i, 0 < i → i < n → (i - 1) / 2 = j → 0 < j → gd l ((j - 1) / 2) ≤ gd l i)
theorem upF_length (l : List Nat) (j : Nat) : (upF l j).length = l.length := by
  induction j using Nat.strongRecOn generalizing l with
  | _ j ih =>
    unfold upF
    split
    · rw [ih _ (by omega), swp_length]
    · rfl
theorem upF_heap {l : List Nat} {j n : Nat} (hn : n ≤ l.length) (hj : j < n) (h : UpPre l j n) : HeapP (upF l j) n ∧ (upF l j).Perm l ∧ ∀ k, n ≤ k → gd (upF l j) k = gd l k := by
  induction j using Nat.strongRecOn generalizing l with
  | _ j ih =>
    unfold upF
    split
    · rename_i hc
      obtain ⟨h0, hlt⟩ := hc
      have hp : (j - 1) / 2 < j := by omega
      have g := gd_swp (l := l) (i := (j - 1) / 2) (j := j) (by omega) (by omega)
      obtain ⟨p, hpe⟩ : ∃ p, p = (j - 1) / 2 := ⟨_, rfl⟩
      rw [← hpe] at g hp hlt ⊢
      have := ih p (by omega) (l := swp l p j) (by rw [swp_length]; omega) (by omega) ⟨?_, ?_⟩
      · refine ⟨this.1, this.2.1.trans (swp_perm (by omega) (by omega)), fun k hk => ?_⟩
        rw [this.2.2 k hk, g, if_neg (by omega), if_neg (by omega)]
      · intro i h1 h2 h3
        rw [g, g]
        by_cases e1 : i = j
        · subst e1
          rw [← hpe, if_pos rfl, if_neg (by omega), if_pos rfl]
          omega
        · rw [if_neg e1, if_neg h3]
          by_cases e2 : (i - 1) / 2 = j
          · rw [if_pos e2]
            have := h.2 i h1 h2 e2 h0
            rw [← hpe] at this; exact this
          · rw [if_neg e2]
            by_cases e3 : (i - 1) / 2 = p
            · rw [if_pos e3]
              have := h.1 i h1 h2 e1
              rw [e3] at this; omega
            · rw [if_neg e3]
              exact h.1 i h1 h2 e1
      · intro i h1 h2 h3 h4
        have hpp := h.1 p h4 (by omega) (by omega)
        rw [g, g, if_neg (by omega), if_neg (by omega)]
        by_cases e1 : i = j
        · rw [if_pos e1]; exact hpp
        · rw [if_neg e1, if_neg (by omega)]
          have := h.1 i h1 h2 e1
          rw [h3] at this
          omega
    · rename_i hc
      refine ⟨fun i h1 h2 => ?_, List.Perm.refl _, fun _ _ => rfl⟩
      by_cases e : i = j
      · subst e; omega
      · exact h.1 i h1 h2 e

def dnJ (l : List Nat) (i n : Nat) : Nat := if 2 * i + 2 < n ∧ gd l (2 * i + 2) < gd l (2 * i + 1) then 2 * i + 2 else 2 * i + 1
def downF (l : List Nat) (i n : Nat) : List Nat × Nat :=
  if h : 2 * i + 1 < n ∧ gd l (dnJ l i n) < gd l i then downF (swp l i (dnJ l i n)) (dnJ l i n) n else (l, i)
termination_by n - i
decreasing_by unfold dnJ; split <;> omega
theorem dnJ_lt {l : List Nat} {i n : Nat} (h : 2 * i + 1 < n) : i < dnJ l i n ∧ dnJ l i n < n ∧ (dnJ l i n - 1) / 2 = i := by
  unfold dnJ; split <;> omega
theorem dnJ_min {l : List Nat} {i n k : Nat} (h : 2 * i + 1 < n) (h0 : 0 < k) (hk : k < n) (hp : (k - 1) / 2 = i) : gd l (dnJ l i n) ≤ gd l k := by
  have e : k = 2 * i + 1 ∨ k = 2 * i + 2 := by omega
  unfold dnJ
  rcases e with rfl | rfl
  · split <;> omega
  · split
    · omega
    · rename_i hc
      have : ¬ gd l (2 * i + 2) < gd l (2 * i + 1) := fun h' => hc ⟨hk, h'⟩
      omega
theorem downF_length (l : List Nat) (i n : Nat) : (downF l i n).1.length = l.length := by
  obtain ⟨m, hm⟩ : ∃ m, m = n - i := ⟨_, rfl⟩
  induction m using Nat.strongRecOn generalizing l i with
  | _ m ih =>
    unfold downF
    split
    · rename_i hc
      have := dnJ_lt (l := l) hc.1
      rw [ih (n - dnJ l i n) (by omega) _ _ rfl, swp_length]
    · rfl
def DownPre (l : List Nat) (i n : Nat) : Prop := (∀ k, 0 < k → k < n → k ≠ i → (k - 1) / 2 ≠ i → gd l ((k - 1) / 2) ≤ gd l k) ∧ (∀ k, 0 < k → k < n → (k - 1) / 2 = i → 0 < i → gd l ((i - 1) / 2) ≤ gd l k)
theorem down_step {l : List Nat} {i n : Nat} (hn : n ≤ l.length) (h : DownPre l i n) (h1 : 2 * i + 1 < n) (hlt : gd l (dnJ l i n) < gd l i) :
    DownPre (swp l i (dnJ l i n)) (dnJ l i n) n ∧ (0 < dnJ l i n → gd (swp l i (dnJ l i n)) ((dnJ l i n - 1) / 2) ≤ gd (swp l i (dnJ l i n)) (dnJ l i n)) := by
  obtain ⟨hj1, hj2, hj3⟩ := dnJ_lt (l := l) h1
  have hmin := fun k => dnJ_min (l := l) (k := k) h1
  generalize dnJ l i n = j at *
  have g := gd_swp (l := l) (i := i) (j := j) (by omega) (by omega)
  refine ⟨⟨fun k k0 kn kj kp => ?_, fun k k0 kn kp j0 => ?_⟩, fun _ => ?_⟩
  · rw [g, g, if_neg kp, if_neg kj]
    by_cases e1 : (k - 1) / 2 = i
    · rw [if_pos e1, if_neg (by omega)]
      exact hmin k k0 kn e1
    · rw [if_neg e1]
      by_cases e2 : k = i
      · subst e2
        rw [if_pos rfl]
        have := h.2 j (by omega) (by omega) hj3 k0
        exact this
      · rw [if_neg e2]
        exact h.1 k k0 kn e2 e1
  · rw [hj3, g, g, if_neg (by omega), if_pos rfl, if_neg (by omega), if_neg (by omega)]
    have := h.1 k k0 kn (by omega) (by omega)
    rw [kp] at this
    exact this
  · rw [hj3, g, g, if_neg (by omega), if_pos rfl, if_pos rfl]
    omega
theorem down_rest {l : List Nat} {i n : Nat} (hn : n ≤ l.length) (hi : i < n ∨ n ≤ i) (h : DownPre l i n) : (downF l i n).1.Perm l ∧ (∀ k, n ≤ k → gd (downF l i n).1 k = gd l k) ∧ i ≤ (downF l i n).2 := by
  obtain ⟨m, hm⟩ : ∃ m, m = n - i := ⟨_, rfl⟩
  induction m using Nat.strongRecOn generalizing l i with
  | _ m ih =>
    unfold downF
    split
    · rename_i hc
      have hj := dnJ_lt (l := l) hc.1
      have hs := down_step hn h hc.1 hc.2
      have g := gd_swp (l := l) (i := i) (j := dnJ l i n) (by omega) (by omega)
      have := ih (n - dnJ l i n) (by omega) (l := swp l i (dnJ l i n)) (i := dnJ l i n) (by rw [swp_length]; omega) (by omega) hs.1 rfl
      refine ⟨this.1.trans (swp_perm (by omega) (by omega)), fun k hk => ?_, by omega⟩
      rw [this.2.1 k hk, g, if_neg (by omega), if_neg (by omega)]
    · exact ⟨List.Perm.refl _, fun _ _ => rfl, Nat.le_refl _⟩
theorem down_heap {l : List Nat} {i n : Nat} (hn : n ≤ l.length) (h : DownPre l i n) (hu : 0 < i → i < n → gd l ((i - 1) / 2) ≤ gd l i) : HeapP (downF l i n).1 n := by
  obtain ⟨m, hm⟩ : ∃ m, m = n - i := ⟨_, rfl⟩
  induction m using Nat.strongRecOn generalizing l i with
  | _ m ih =>
    unfold downF
    split
    · rename_i hc
      have hj := dnJ_lt (l := l) hc.1
      have hs := down_step hn h hc.1 hc.2
      exact ih (n - dnJ l i n) (by omega) (by rw [swp_length]; omega) hs.1 (fun h0 _ => hs.2 h0) rfl
    · rename_i hc
      intro k k0 kn
      by_cases e1 : k = i
      · subst e1; exact hu k0 kn
      · by_cases e2 : (k - 1) / 2 = i
        · have h1 : 2 * i + 1 < n := by omega
          have := dnJ_min (l := l) h1 k0 kn e2
          have h3 : ¬ gd l (dnJ l i n) < gd l i := fun h' => hc ⟨h1, h'⟩
          show gd l ((k - 1) / 2) ≤ gd l k
          rw [e2]; omega
        · exact h.1 k k0 kn e1 e2
/-- Brought down from i: either nothing moved, and only the link of i itself may be out of order; or all links are in order. -/
theorem down_or {l : List Nat} {i n : Nat} (hn : n ≤ l.length) (h : DownPre l i n) : (downF l i n = (l, i) ∧ UpPre l i n) ∨ (i < (downF l i n).2 ∧ HeapP (downF l i n).1 n) := by
  by_cases hc : 2 * i + 1 < n ∧ gd l (dnJ l i n) < gd l i
  · right
    have hj := dnJ_lt (l := l) hc.1
    have hs := down_step hn h hc.1 hc.2
    have e : downF l i n = downF (swp l i (dnJ l i n)) (dnJ l i n) n := by rw [downF, dif_pos hc]
    rw [e]
    refine ⟨?_, down_heap (by rw [swp_length]; omega) hs.1 (fun h0 _ => hs.2 h0)⟩
    have := (down_rest (l := swp l i (dnJ l i n)) (i := dnJ l i n) (n := n) (by rw [swp_length]; omega) (by omega) hs.1).2.2
    omega
  · left
    refine ⟨by rw [downF, dif_neg hc], fun k k0 kn ke => ?_, fun k k0 kn kp i0 => h.2 k k0 kn kp i0⟩
    by_cases e2 : (k - 1) / 2 = i
    · have h1 : 2 * i + 1 < n := by omega
      have := dnJ_min (l := l) h1 k0 kn e2
      have h3 : ¬ gd l (dnJ l i n) < gd l i := fun h' => hc ⟨h1, h'⟩
      rw [e2]; omega
    · exact h.1 k k0 kn ke e2
theorem heap_min {l : List Nat} (h : HeapP l l.length) {i : Nat} (hi : i < l.length) : gd l 0 ≤ gd l i := by
  induction i using Nat.strongRecOn with
  | _ i ih =>
    by_cases e : i = 0
    · subst e; exact Nat.le_refl _
    · have := ih ((i - 1) / 2) (by omega) (by omega)
      have := h i (by omega) hi
      omega
theorem gd_take {l : List Nat} {n k : Nat} (h : k < n) : gd (l.take n) k = gd l k := by
  simp [gd, List.getD_eq_getElem?_getD, List.getElem?_take, h]
theorem heap_take {l : List Nat} {n : Nat} (h : HeapP l n) : HeapP (l.take n) n := by
  intro i h0 hn
  rw [gd_take (by omega), gd_take (by omega)]
  exact h i h0 hn
theorem take_last {l : List Nat} {n : Nat} (h : l.length = n + 1) : l.take n ++ [gd l n] = l := by
  have := List.take_succ_eq_append_getElem (l := l) (i := n) (by omega)
  have e : gd l n = l[n] := by simp [gd, h]
  rw [e, ← this, List.take_of_length_le (by omega)]
theorem perm_take {l l' : List Nat} {n x : Nat} (h : l'.length = n + 1) (hp : l'.Perm l) (hx : gd l' n = x) : (x :: l'.take n).Perm l := by
  have := take_last h
  rw [hx] at this
  have h2 : (x :: l'.take n).Perm (l'.take n ++ [x]) := (List.perm_append_singleton x (l'.take n)).symm
  rw [this] at h2
  exact h2.trans hp
/-- Push: behind, then up. -/
theorem push_heap {l : List Nat} (h : HeapP l l.length) (x : Nat) : HeapP (upF (l ++ [x]) l.length) (l.length + 1) ∧ (upF (l ++ [x]) l.length).Perm (x :: l) ∧ (upF (l ++ [x]) l.length).length = l.length + 1 := by
  have hg : ∀ k, k < l.length → gd (l ++ [x]) k = gd l k := fun k hk => by simp [gd, List.getD_eq_getElem?_getD, List.getElem?_append_left hk]
  have := upF_heap (l := l ++ [x]) (j := l.length) (n := l.length + 1) (by simp) (by omega) ⟨fun i h0 hn hi => by rw [hg _ (by omega), hg _ (by omega)]; exact h i h0 (by omega), fun i h0 hn hp hj => by omega⟩
  exact ⟨this.1, this.2.1.trans (List.perm_append_singleton _ _), by rw [upF_length]; simp⟩
/-- Pop: first and last swapped, then down. -/
def popF (l : List Nat) : List Nat := (downF (swp l 0 (l.length - 1)) 0 (l.length - 1)).1
theorem pop_heap {l : List Nat} (h : HeapP l l.length) (h0 : 0 < l.length) : (popF l).length = l.length ∧ gd (popF l) (l.length - 1) = gd l 0 ∧ HeapP ((popF l).take (l.length - 1)) (l.length - 1) ∧ (gd l 0 :: (popF l).take (l.length - 1)).Perm l := by
  have g := gd_swp (l := l) (i := 0) (j := l.length - 1) h0 (by omega)
  have hpre : DownPre (swp l 0 (l.length - 1)) 0 (l.length - 1) := by
    refine ⟨fun k k0 kn ke kp => ?_, fun k k0 kn kp h' => absurd h' (by omega)⟩
    rw [g, g, if_neg (by omega), if_neg (by omega), if_neg (by omega), if_neg (by omega)]
    exact h k k0 (by omega)
  have hr := down_rest (l := swp l 0 (l.length - 1)) (i := 0) (n := l.length - 1) (by rw [swp_length]; omega) (by omega) hpre
  have hh := down_heap (l := swp l 0 (l.length - 1)) (i := 0) (n := l.length - 1) (by rw [swp_length]; omega) hpre (fun h' => absurd h' (by omega))
  have hl : (popF l).length = l.length := by rw [popF, downF_length, swp_length]
  have hx : gd (popF l) (l.length - 1) = gd l 0 := by rw [popF, hr.2.1 _ (Nat.le_refl _), g, if_pos rfl]
  exact ⟨hl, hx, heap_take hh, perm_take (by omega) (hr.1.trans (swp_perm h0 (by omega))) hx⟩
/-- Remove at i. -/
def remF (l : List Nat) (i : Nat) : List Nat :=
  if i = l.length - 1 then l else
    let r := downF (swp l i (l.length - 1)) i (l.length - 1)
    if i < r.2 then r.1 else upF r.1 i
theorem rem_heap {l : List Nat} (h : HeapP l l.length) {i : Nat} (hi : i < l.length) : (remF l i).length = l.length ∧ gd (remF l i) (l.length - 1) = gd l i ∧ HeapP ((remF l i).take (l.length - 1)) (l.length - 1) ∧ (gd l i :: (remF l i).take (l.length - 1)).Perm l := by
  unfold remF
  by_cases e : i = l.length - 1
  · rw [if_pos e]
    refine ⟨rfl, by rw [← e], heap_take fun k k0 kn => h k k0 (by omega), perm_take (by omega) (List.Perm.refl _) (by rw [← e])⟩
  · rw [if_neg e]
    have g := gd_swp (l := l) (i := i) (j := l.length - 1) hi (by omega)
    have hpre : DownPre (swp l i (l.length - 1)) i (l.length - 1) := by
      refine ⟨fun k k0 kn ke kp => ?_, fun k k0 kn kp h' => ?_⟩
      · rw [g, g, if_neg (by omega), if_neg kp, if_neg (by omega), if_neg ke]
        exact h k k0 (by omega)
      · rw [g, g, if_neg (by omega), if_neg (by omega), if_neg (by omega), if_neg (by omega)]
        have a := h k k0 (by omega)
        have b := h i h' hi
        rw [kp] at a
        omega
    have hr := down_rest (l := swp l i (l.length - 1)) (i := i) (n := l.length - 1) (by rw [swp_length]; omega) (by omega) hpre
    have hP := swp_perm (l := l) (i := i) (j := l.length - 1) hi (by omega)
    simp only
    rcases down_or (l := swp l i (l.length - 1)) (i := i) (n := l.length - 1) (by rw [swp_length]; omega) hpre with ⟨he, hu⟩ | ⟨hm, hh⟩
    · rw [he]
      simp only
      rw [if_neg (by omega)]
      have hup := upF_heap (l := swp l i (l.length - 1)) (j := i) (n := l.length - 1) (by rw [swp_length]; omega) (by omega) hu
      have hl : (upF (swp l i (l.length - 1)) i).length = l.length := by rw [upF_length, swp_length]
      have hx : gd (upF (swp l i (l.length - 1)) i) (l.length - 1) = gd l i := by rw [hup.2.2 _ (Nat.le_refl _), g, if_pos rfl]
      exact ⟨hl, hx, heap_take hup.1, perm_take (by omega) (hup.2.1.trans hP) hx⟩
    · rw [if_pos hm]
      have hl : (downF (swp l i (l.length - 1)) i (l.length - 1)).1.length = l.length := by rw [downF_length, swp_length]
      have hx : gd (downF (swp l i (l.length - 1)) i (l.length - 1)).1 (l.length - 1) = gd l i := by rw [hr.2.1 _ (Nat.le_refl _), g, if_pos rfl]
      exact ⟨hl, hx, heap_take hh, perm_take (by omega) (hr.1.trans hP) hx⟩
end Go.Proofs.YthibbcokpmckfaaGreatDoor
/- Words for a set of free addresses: a slice of addresses that stands in its block from some place on; the struct that holds it; append of one address onto it. For lists of at most 10^9 addresses. -/
namespace Go.Proofs.YthibbcokpmckfaaGreatDoor
open Go.RowKit
set_option linter.unusedVariables false

/-- v is a slice that reads as l, in a block that is known whole. -/
def Adr (w : World) (v : Value) (l : List Nat) : Prop :=
  (v = .slice none 0 0 ∧ l = []) ∨
  ∃ h off cap cur, v = .slice (some ⟨h, off, none⟩) l.length cap ∧ Row w h 24 cur ∧ l.length ≤ cap ∧ cap ≤ maxLen ∧ off + cap ≤ cur.size ∧ (cur.toList.drop off).take l.length = l.map wv
theorem Adr.keep {w w' : World} {v : Value} {l : List Nat} {fp : Nat → Prop} (h : Adr w v l) (hb : But w w' fp) (hn : ∀ k, v.ownBlock = some k → ¬ fp k) : Adr w' v l := by
  rcases h with h | ⟨b, off, cap, cur, rfl, hr, h⟩
  · exact .inl h
  · exact .inr ⟨b, off, cap, cur, rfl, hb.row hr (hn b rfl), h⟩
theorem Adr.below {w w' : World} {v : Value} {l : List Nat} (h : Adr w v l) (hb : Below w.heap.size w w') : Adr w' v l := h.keep (But.of_below hb (fun _ => False)) (fun _ _ h => h)
theorem Adr.lt {w : World} {v : Value} {l : List Nat} (h : Adr w v l) {k : Nat} (hk : v.ownBlock = some k) : k < w.heap.size := by
  rcases h with ⟨rfl, _⟩ | ⟨b, off, cap, cur, rfl, hr, _⟩
  · cases hk
  · cases hk; exact hr.lt
theorem drop_get {cur : List Value} {off n : Nat} {l : List Nat} (h : (cur.drop off).take n = l.map wv) {i : Nat} (hi : i < l.length) (hn : i < n) : cur[off + i]? = some (wv (gd l i)) := by
  have h1 : ((cur.drop off).take n)[i]? = (l.map wv)[i]? := by rw [h]
  rw [List.getElem?_take, if_pos hn, List.getElem?_drop, List.getElem?_map, gd_eq hi] at h1
  exact h1
theorem Adr.cell {w : World} {h off cap n : Nat} {l : List Nat} (ha : Adr w (.slice (some ⟨h, off, none⟩) n cap) l) {i : Nat} (hi : i < l.length) : w.cell? ⟨h, off + i, none⟩ = some (wv (gd l i)) := by
  rcases ha with ⟨h0, _⟩ | ⟨b, o, c, cur, e, hr, _, _, _, ht⟩
  · cases h0
  · cases e
    rw [hr.cell, ← Array.getElem?_toList]
    exact drop_get ht hi hi
theorem Adr.free {w : World} {h off cap n : Nat} {l : List Nat} (ha : Adr w (.slice (some ⟨h, off, none⟩) n cap) l) (i : Nat) : w.frozen? ⟨h, off + i, none⟩ = false := by
  rcases ha with ⟨h0, _⟩ | ⟨b, o, c, cur, e, hr, _, _, _, ht⟩
  · cases h0
  · cases e
    exact hr.free _
theorem Adr.pos {w : World} {v : Value} {l : List Nat} (ha : Adr w v l) (h0 : 0 < l.length) : ∃ h off cap, v = .slice (some ⟨h, off, none⟩) l.length cap ∧ l.length ≤ cap ∧ cap ≤ maxLen := by
  rcases ha with ⟨_, h0'⟩ | ⟨b, o, c, cur, e, hr, h1, h2, _⟩
  · subst h0'; simp at h0
  · exact ⟨b, o, c, e, h1, h2⟩
/-- A store of one address. -/
theorem Adr.set {w : World} {h off cap n : Nat} {l : List Nat} (ha : Adr w (.slice (some ⟨h, off, none⟩) n cap) l) {i : Nat} (hi : i < l.length) (x : Nat) : Adr (w.setCell ⟨h, off + i, none⟩ (wv x)) (.slice (some ⟨h, off, none⟩) n cap) (l.set i x) := by
  rcases ha with ⟨h0, _⟩ | ⟨b, o, c, cur, e, hr, h1, h2, h3, ht⟩
  · cases h0
  · cases e
    refine .inr ⟨h, off, cap, _, by rw [List.length_set], hr.set _ _, by rw [List.length_set]; exact h1, h2, by simpa using h3, ?_⟩
    rw [List.length_set, Array.toList_setIfInBounds]
    apply List.ext_getElem?
    intro k
    rw [List.getElem?_take, List.getElem?_map, List.getElem?_set]
    by_cases hk : k < l.length
    · rw [if_pos hk, List.getElem?_drop, List.getElem?_set]
      by_cases e : i = k
      · subst e
        rw [if_pos rfl, if_pos rfl, if_pos (by rw [Array.length_toList]; omega), if_pos hi]
        rfl
      · rw [if_neg (by omega), if_neg e, drop_get ht hk hk, gd_eq hk]
        rfl
    · rw [if_neg hk, if_neg (by omega), List.getElem?_eq_none (by omega)]
      rfl
/-- The slice cut to its first places. -/
theorem Adr.take {w : World} {h off cap n : Nat} {l : List Nat} (ha : Adr w (.slice (some ⟨h, off, none⟩) n cap) l) {m : Nat} (hm : m ≤ l.length) : Adr w (.slice (some ⟨h, off, none⟩) m cap) (l.take m) := by
  rcases ha with ⟨h0, _⟩ | ⟨b, o, c, cur, e, hr, h1, h2, h3, ht⟩
  · cases h0
  · cases e
    have hl : (l.take m).length = m := by simp [hm]
    refine .inr ⟨h, off, cap, cur, by rw [hl], hr, by omega, h2, h3, ?_⟩
    rw [hl, List.map_take, ← ht, List.take_take, Nat.min_eq_left hm]
/-- An own row is such a slice. -/
theorem Adr.of_own {w : World} {B n : Nat} {v : Value} {l : List Nat} (h : w.ownsRow B 24 1 v n (l.map wv)) : Adr w v l ∧ ∀ k, v.ownBlock = some k → B ≤ k := by
  have hn : l.length = n := by have := h.1; simpa using this
  refine ⟨?_, own_from h⟩
  rcases h.2 with ⟨rfl, h0⟩ | ⟨g, cap, cur, rfl, hb, hh, h1, h2, h3, h4⟩
  · exact .inl ⟨rfl, List.eq_nil_of_length_eq_zero (by omega)⟩
  · refine .inr ⟨g, 0, cap, cur, by rw [hn], hh, by omega, h2, by omega, ?_⟩
    rw [List.drop_zero, hn]
    simpa using h4
theorem infoA : (Tryz.prog.info? 24).map (fun i => (i.zero, i.size, i.bytes)) = some (some (.int .u64 0), 1, 8) := by kernel_rfl

theorem run_append_adr {T ty : TypeId} (hT : Tryz.prog.underlying T = some (.slice 24)) {w : World} {v : Value} {l : List Nat} (x : Nat) (ht : Adr w v l) (hn : l.length ≤ 1000000000) (ad : Addr) (c : Nat) (hnews : w.cell? ad = some (wv x)) :
    ∃ h off cap w', (Builtin.append_ #[T, T] ty #[v, .slice (some ad) 1 c]).run Tryz.prog w = .ok (.slice (some ⟨h, off, none⟩) (l.length + 1) cap) w' ∧ Adr w' (.slice (some ⟨h, off, none⟩) (l.length + 1) cap) (l ++ [x]) ∧ w.grownBy w' v.ownBlock ∧ (v.ownBlock = some h ∨ w.heap.size ≤ h) := by
  obtain ⟨i0, hi, hz0, hz1, hz2⟩ := info_parts infoA
  have hmx : l.length + 1 ≤ maxLen := by unfold maxLen; omega
  have hlen : (l ++ [x]).length = l.length + 1 := by simp
  have hmap : (l ++ [x]).map wv = l.map wv ++ [wv x] := by simp
  have hnews' : ∀ j u, [wv x][j]? = some u → w.cell? (ad.add j) = some u := by
    intro j u hj
    cases j with
    | zero => rw [add_zero']; rw [hnews]; simpa using hj
    | succ j => simp at hj
  have h1 : ∀ u ∈ [wv x], u.oneCell' = true := by intro u hu; simp at hu; subst hu; rfl
  rcases ht with ⟨rfl, rfl⟩ | ⟨h, off, cap, cur, rfl, hr, hlc, hcm, hfit, htk⟩
  · obtain ⟨v', w', hrun, ho, hg, _⟩ := run_append_own (P := Tryz.prog) w w.heap.size T ty 24 i0 _ 1 8 hT hi hz0 hz1 hz2 rfl (by decide) (.slice none 0 0) 0 [] (World.ownsRow_nil w _ _ _) ad 1 c [wv x] rfl hnews' h1 (by unfold maxLen; omega) (by omega) (Nat.le_refl _)
    rcases ho.2 with ⟨_, h0⟩ | ⟨g, cap, cur, rfl, hbg, hh, hnc, hm, hcs, htk⟩
    · omega
    · refine ⟨g, 0, cap, w', hrun, .inr ⟨g, 0, cap, cur, by simp, hh, by simpa using hnc, hm, by omega, ?_⟩, hg, .inr hbg⟩
      rw [List.drop_zero]
      simpa using htk
  · by_cases hroom : l.length + 1 ≤ cap
    · have hc : ∀ j, j < [wv x].length → (w.cell? ⟨h, off + l.length * i0.size + j, none⟩).isSome = true := by
        intro j hj
        have : j = 0 := by simpa using hj
        rw [hr.cell, hz1, Array.getElem?_eq_getElem (by omega)]
        rfl
      have hrun := run_append_room_cells (P := Tryz.prog) w T ty 24 i0 hT hi h off l.length cap ad 1 c [wv x] (by rw [hz1]; rfl) hnews' h1 hroom hc (fun j _ => hr.free _)
      rw [hz1] at hrun
      have hcur : off + l.length < cur.size := by omega
      refine ⟨h, off, cap, _, hrun, .inr ⟨h, off, cap, cur.setIfInBounds (off + l.length) (wv x), by rw [hlen], ?_, by rw [hlen]; exact hroom, hcm, by simpa using hfit, ?_⟩, ?_, .inl rfl⟩
      · show Row (w.setCell ⟨h, off + l.length * 1, none⟩ (wv x)) h 24 _
        rw [Nat.mul_one]
        exact hr.set _ _
      · rw [hlen, hmap, Array.toList_setIfInBounds]
        apply List.ext_getElem?
        intro k
        rw [List.getElem?_take]
        by_cases hk : k < l.length
        · rw [if_pos (by omega), List.getElem?_drop, List.getElem?_set_ne (by omega), drop_get htk hk hk, List.getElem?_append_left (by simpa using hk), List.getElem?_map, gd_eq hk]
          rfl
        · by_cases e : k = l.length
          · subst e
            rw [if_pos (by omega), List.getElem?_drop, List.getElem?_set_self (by rw [Array.length_toList]; exact hcur), List.getElem?_append_right (by simp)]
            simp
          · rw [if_neg (by omega), List.getElem?_eq_none (by simp; omega)]
      · refine ⟨rfl, rfl, rfl, by simp [World.setCells, World.setCell], fun k hk hne => ?_⟩
        have hkh : k ≠ h := fun e => hne (by rw [e]; rfl)
        show (w.setCell _ _).heap[k]? = _
        rw [heap_setCell_other _ _ _ _ hkh]
    · obtain ⟨v', w', hrun, ho, hg⟩ := run_append_arg_grows (P := Tryz.prog) w T ty 24 i0 _ 1 8 hT hi hz0 hz1 hz2 rfl (by decide) ⟨h, off, none⟩ l.length cap (l.map wv) (by simp)
        (by
          intro j u hu
          have e : (⟨h, off, none⟩ : Addr).add j = ⟨h, off + j, none⟩ := by unfold Addr.add; split <;> simp_all
          have hj : j < l.length := by have := (List.getElem?_eq_some_iff.1 hu).1; simpa using this
          rw [e, hr.cell, ← Array.getElem?_toList, drop_get htk hj hj, ← hu, List.getElem?_map, gd_eq hj]
          rfl) ad 1 c [wv x] rfl hnews' (by omega) hmx (by omega)
      rw [← hmap] at ho
      obtain ⟨hA, hB⟩ := Adr.of_own ho
      rcases ho.2 with ⟨_, h0⟩ | ⟨g, cap', cur', rfl, hbg, hh, hnc, hm, hcs, htk'⟩
      · omega
      · exact ⟨g, 0, cap', w', hrun, hA, ⟨hg.os, hg.tape, hg.output, hg.size, fun k hk _ => hg.block k hk (by simp)⟩, .inr hbg⟩
theorem wp_append_adr {T : TypeId} (hT : Tryz.prog.underlying T = some (.slice 24)) {w : World} {o : Oper} {a : Act} {K : Act → World → Prop} {Q : Exit → Act → World → Prop} (s x : Operand)
    (ho : o.op = .call { callee := .builtin .append, args := #[s, x], argTypes := #[T, T] }) (v : Value) (l : List Nat) (p : Nat) (hs : a.eval s = v) (ht : Adr w v l) (hn : l.length ≤ 1000000000)
    (ad : Addr) (c : Nat) (hx : a.eval x = .slice (some ad) 1 c) (hnews : w.cell? ad = some (wv p))
    (h : ∀ h off cap w', Adr w' (.slice (some ⟨h, off, none⟩) (l.length + 1) cap) (l ++ [p]) → w.grownBy w' v.ownBlock → (v.ownBlock = some h ∨ w.heap.size ≤ h) → K (a.put o.dst (.slice (some ⟨h, off, none⟩) (l.length + 1) cap)) w') : o.wp Tryz.prog a w K Q := by
  obtain ⟨g, off, cap, w', hr, h2, h3, h4⟩ := run_append_adr (ty := o.type) hT p ht hn ad c hnews
  unfold Oper.wp execOp
  simp only [ho, resolve, invoke, builtin, Sem.run_bind, Sem.run_pure, Result.andThen_ok, List.map_toArray, List.map_cons, List.map_nil, hs, hx, hr]
  exact h g off cap w' h2 h3 h4

/-- g is a set whose list, in v, reads as l. -/
def FreeAt (w : World) (g : Nat) (v : Value) (l : List Nat) : Prop := Row w g 153 #[v] ∧ Adr w v l ∧ v.ownBlock ≠ some g
/-- The blocks that a set takes. -/
def ffp (g : Nat) (v : Value) (k : Nat) : Prop := k = g ∨ v.ownBlock = some k
theorem FreeAt.keep {w w' : World} {g : Nat} {v : Value} {l : List Nat} {fp : Nat → Prop} (h : FreeAt w g v l) (hb : But w w' fp) (hn : ∀ k, ffp g v k → ¬ fp k) : FreeAt w' g v l :=
  ⟨hb.row h.1 (hn g (.inl rfl)), h.2.1.keep hb (fun k hk => hn k (.inr hk)), h.2.2⟩
theorem FreeAt.below {w w' : World} {g : Nat} {v : Value} {l : List Nat} (h : FreeAt w g v l) (hb : Below w.heap.size w w') : FreeAt w' g v l := h.keep (But.of_below hb (fun _ => False)) (fun _ _ h => h)
/-- What a call makes of a set: all else is as it was; its list lies where it lay, or in what is new. -/
def FTurn (w w' : World) (g : Nat) (v v' : Value) : Prop := But w w' (ffp g v) ∧ ∀ k, v'.ownBlock = some k → v.ownBlock = some k ∨ w.heap.size ≤ k
theorem FTurn.refl (w : World) (g : Nat) (v : Value) : FTurn w w g v v := ⟨But.refl _ _, fun _ h => .inl h⟩
theorem FTurn.of_below {w w' : World} (g : Nat) (v : Value) (h : Below w.heap.size w w') : FTurn w w' g v v := ⟨But.of_below h _, fun _ h => .inl h⟩
theorem FTurn.trans {w w1 w2 : World} {g : Nat} {v v1 v2 : Value} (h : FTurn w w1 g v v1) (h2 : FTurn w1 w2 g v1 v2) : FTurn w w2 g v v2 := by
  refine ⟨h.1.trans h2.1 fun k hk => ?_, fun k hk => ?_⟩
  · rcases hk with rfl | hk
    · exact .inl (.inl rfl)
    · rcases h.2 k hk with h3 | h3
      · exact .inl (.inr h3)
      · exact .inr h3
  · rcases h2.2 k hk with h3 | h3
    · exact h.2 k h3
    · exact .inr (Nat.le_trans h.1.size h3)
end Go.Proofs.YthibbcokpmckfaaGreatDoor
