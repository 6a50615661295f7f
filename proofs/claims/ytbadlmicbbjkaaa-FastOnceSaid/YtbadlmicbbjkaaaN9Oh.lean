/- A law that keeps the words of all that a node has been: what it holds in memory; no conditions. -/
import Derived.Test.YtbadlmicbbjkaaaN9Oc
import Derived.Test.YtbadlmicbbjkaaaN8WordR
import Derived.Great.BuildSlice
import Derived.Great.FillDense
import Derived.Deep.AppendLies
namespace Go.Proofs.Ytbadlmicbbjkaaa
open Go.RowKit
set_option linter.unusedVariables false
set_option linter.unusedSimpArgs false
/-- Words, as they lie. -/
def uws (W : List Int) : List Value := W.map uw
theorem uws_len (W : List Int) : (uws W).length = W.length := by simp [uws]
theorem uws_one (W : List Int) : ∀ v ∈ uws W, v.oneCell' = true := by
  intro v hv
  obtain ⟨x, _, rfl⟩ := List.mem_map.1 hv
  rfl
theorem words_wo9 {n : Nd} (h : n.may 0 false = true) : wordsL n = uws (wo9 n) := by
  have h2 := (may_fit h).1.lv
  unfold wordsL
  rw [if_pos (by unfold isLv; simp [h2.1, h2.2])]
  rfl
/-- The words of all that a node has been, one behind the other. -/
def sq (base : Int) (n : Nd) (l : List (Int × Int)) (i : Nat) : List Value := (List.range (i + 1)).flatMap fun k => uws (wsAt base (wo9 n) (l.take k))
theorem sq_succ (base : Int) (n : Nd) (l : List (Int × Int)) (i : Nat) : sq base n l (i + 1) = sq base n l i ++ uws (wsAt base (wo9 n) (l.take (i + 1))) := by
  unfold sq
  rw [List.range_succ (n := i + 1), List.flatMap_append]
  simp
theorem sq_len (base : Int) (n : Nd) (l : List (Int × Int)) : ∀ i, (sq base n l i).length = (i + 1) * 24
  | 0 => by simp [sq, uws_len, wsAt_len, wo9_len]
  | i + 1 => by
    rw [sq_succ, List.length_append, sq_len base n l i, uws_len, wsAt_len, wo9_len]
    omega
theorem sq_at (base : Int) (n : Nd) (l : List (Int × Int)) : ∀ i k j, k ≤ i → j < 24 → (sq base n l i)[k * 24 + j]? = some (uw ((wsAt base (wo9 n) (l.take k)).getD j 0))
  | 0, k, j, hk, hj => by
    obtain rfl : k = 0 := by omega
    have hlen := wsAt_len base (l.take 0) (wo9 n)
    rw [wo9_len] at hlen
    simp only [sq, List.range_succ, List.range_zero, List.nil_append, List.flatMap_cons, List.flatMap_nil, List.append_nil, Nat.zero_mul, Nat.zero_add]
    generalize wsAt base (wo9 n) (l.take 0) = V at hlen
    unfold uws
    rw [List.getElem?_map, List.getD_eq_getElem?_getD, List.getElem?_eq_getElem (show j < V.length by omega)]
    rfl
  | i + 1, k, j, hk, hj => by
    rw [sq_succ]
    by_cases h : k ≤ i
    · rw [List.getElem?_append_left (by rw [sq_len]; have : k * 24 ≤ i * 24 := Nat.mul_le_mul_right _ h; omega)]
      exact sq_at base n l i k j h hj
    · obtain rfl : k = i + 1 := by omega
      rw [List.getElem?_append_right (by rw [sq_len]; omega), sq_len, show (i + 1) * 24 + j - (i + 1) * 24 = j by omega]
      have hlen := wsAt_len base (l.take (i + 1)) (wo9 n)
      rw [wo9_len] at hlen
      generalize wsAt base (wo9 n) (l.take (i + 1)) = V at hlen
      unfold uws
      rw [List.getElem?_map, List.getD_eq_getElem?_getD, List.getElem?_eq_getElem (show j < V.length by omega)]
      rfl
/-- A list of words that the law keeps: in a block of its own behind B. -/
structure Seen (B : Nat) (W : World) (v : Value) (xs : List Value) (c : Nat) : Prop where
  own : W.ownsRow B 51 24 v c xs
  pos : 0 < c
theorem Seen.below {B : Nat} {W W' : World} {v : Value} {xs : List Value} {c : Nat} (h : Seen B W v xs c) (hb : Below W.heap.size W W') : Seen B W' v xs c := ⟨ownS_low h.own hb, h.pos⟩
theorem Seen.set {B b : Nat} {W : World} {v : Value} {xs : List Value} {c : Nat} (h : Seen B W v xs c) (hb : b < B) (vs : List Value) : Seen B (W.setCells b 0 vs) v xs c := by
  refine ⟨?_, h.pos⟩
  obtain ⟨h2, h3⟩ := h.own
  refine ⟨h2, ?_⟩
  rcases h3 with h3 | ⟨g, cap, cur, e, hg, hh, r⟩
  · exact .inl h3
  · exact .inr ⟨g, cap, cur, e, hg, (World.heap_setCells_other _ _ _ _ (Array.getElem?_eq_some_iff.1 hh).1 (by omega)).trans hh, r⟩
theorem Seen.shape {B : Nat} {W : World} {v : Value} {xs : List Value} {c : Nat} (h : Seen B W v xs c) : ∃ g cap, v = .slice (some ⟨g, 0, none⟩) c cap ∧ B ≤ g ∧ g < W.heap.size ∧ (∀ j u, xs[j]? = some u → W.cell? ⟨g, j, none⟩ = some u) := by
  obtain ⟨h1, h2⟩ := h.own
  have hp := h.pos
  rcases h2 with ⟨_, h0⟩ | ⟨g, cap, cur, rfl, hb, hh, h2, h3, h4, h5⟩
  · omega
  · refine ⟨g, cap, rfl, hb, (Array.getElem?_eq_some_iff.1 hh).1, fun j u hu => ?_⟩
    have := h.own.cells rfl j u hu
    rw [Addr.add_lit, Nat.zero_add] at this
    exact this
theorem LA9.grown {w wr W : World} {base : Int} {n : Nd} {k key ptr : Int} {l : List (Int × Int)} {g i : Nat} {m : Nd} {row : Option Nat} {B : Nat} (h : LA9 w wr base n k key ptr l g i m) (hg : wr.grownBy W row) (hr : ∀ q, row = some q → B ≤ q) (hB : g < B) : LA9 w W base n k key ptr l g i m := by
  have h1 := h.gge
  have h2 := h.nd.lt
  have h3 := h.ask.lt
  have h4 := h.glt
  have hw := h.low.size
  have hb : ∀ q, q < B → q < wr.heap.size → W.heap[q]? = wr.heap[q]? := fun q hq hq2 => hg.block q hq2 (fun e => by have := hr q e.symm; omega)
  refine ⟨(hb _ (by omega) h2).trans h.nd, h.apd, (hb _ (by omega) h3).trans h.ask, fun j u hu => ?_, h.gge, Nat.lt_of_lt_of_le h4 hg.size, ⟨hg.os.trans h.low.os, hg.tape.trans h.low.tape, hg.output.trans h.low.output, Nat.le_trans h.low.size hg.size, fun q hq => (hb q (by omega) (by omega)).trans (h.low.block q hq)⟩⟩
  rw [World.cell?_of_block (a := ⟨g, j, none⟩) (hb g hB h4)]
  exact h.cells j u hu
theorem ownB {B : Nat} {W : World} {v : Value} {xs : List Value} {c : Nat} {e : TypeId} {s : Nat} (h : W.ownsRow B e s v c xs) : ∀ q, v.ownBlock = some q → B ≤ q := by
  intro q hq
  rcases h.2 with ⟨rfl, _⟩ | ⟨g, cap, cur, rfl, hb, _⟩
  · cases hq
  · have : g = q := by simpa [Value.ownBlock] using hq
    omega
theorem store_w51 (w1 : World) (vs : List Value) (hl : vs.length = 24) : ∃ W2, W2 = (w1.alloc (.cells #[.int .u64 0, .int .u64 0, .int .u64 0, .int .u64 0, .int .u64 0, .int .u64 0, .int .u64 0, .int .u64 0, .int .u64 0, .int .u64 0, .int .u64 0, .int .u64 0, .int .u64 0, .int .u64 0, .int .u64 0, .int .u64 0, .int .u64 0, .int .u64 0, .int .u64 0, .int .u64 0, .int .u64 0, .int .u64 0, .int .u64 0, .int .u64 0] 51)).setCells w1.heap.size 0 vs ∧ Row W2 w1.heap.size 51 vs.toArray ∧ Below w1.heap.size w1 W2 :=
  ⟨_, rfl, row_setCells (Row.new w1 51 zeroW.toArray) hl, setCells_low _ (Nat.le_refl _) (alloc_low _ _)⟩
/-- A slice of one row of words is built. -/
theorem build51 {ops : Array Oper} {rest : List Oper} {o : Oper} {a : Act} {w : World} {Q : Exit → Act → World → Prop} (hg : o.guard = none) (x : Operand) (ho : o.op = .buildSlice 50 1 #[(0, x)]) (vs : List Value) (hl : vs.length = 24) (hx : a.eval x = .agg vs.toArray)
    (h : wpList Try.prog ops Q rest (a.put o.dst (.slice (some ⟨w.heap.size, 0, none⟩) 1 1)) (w.alloc (.cells vs.toArray 51))) : wpList Try.prog ops Q (o :: rest) a w := by
  obtain ⟨ie, hie⟩ : ∃ ie, Try.prog.info? 51 = some ie := by
    cases hie : Try.prog.info? 51 with
    | none => have := w24I; rw [hie] at this; cases this
    | some ie => exact ⟨ie, rfl⟩
  have hs : ie.size = 24 := by have := w24I; rw [hie] at this; simpa using this
  refine wpList_buildSlice hg 50 51 1 _ ho vs.toArray ie (.agg zeroW.toArray) Try.underlying50 hie ?_ (by rw [hs]; decide) (by rw [hs]; decide) ?_ h
  · have : (Try.prog.info? 51).bind (·.zero) = some (.agg zeroW.toArray) := by kernel_rfl
    rw [hie] at this
    exact this
  · rw [hs]
    have := Go.Great.fill_whole (s := 24) (by decide) [.agg vs.toArray] ((Array.range (1 * 24)).map ((Value.agg zeroW.toArray).cells[· % (Value.agg zeroW.toArray).cells.size]!)) (by intro v hv; simp only [List.mem_singleton] at hv; subst hv; simpa [Value.cells] using hl) (by simp)
    simp only [List.map_cons, List.map_nil, List.zipIdx_cons, List.zipIdx_nil, List.flatMap_cons, List.flatMap_nil, List.append_nil] at this
    simpa [hx, Value.cells] using this
theorem sq_zero (base : Int) (n : Nd) (l : List (Int × Int)) : sq base n l 0 = uws (wo9 n) := by simp [sq, wsAt]
theorem infoW51 : (Try.prog.info? 51).map (fun i => (i.zero, i.size, i.bytes)) = some (some (.agg zeroW.toArray), 24, 192) := by kernel_rfl
/-- A row of words is appended. -/
theorem app51 {ops : Array Oper} {rest : List Oper} {o : Oper} {a : Act} {w : World} {Q : Exit → Act → World → Prop} (hgd : o.guard = none) (s x : Operand) (ho : o.op = .call { callee := .builtin .append, args := #[s, x], argTypes := #[50, 50] })
    (B : Nat) (v : Value) (n : Nat) (xs : List Value) (hs : a.eval s = v) (hown : w.ownsRow B 51 24 v n xs) (b : Nat) (vs : List Value) (hl : vs.length = 24) (h1 : ∀ u ∈ vs, u.oneCell' = true) (hx : a.eval x = .slice (some ⟨b, 0, none⟩) 1 1)
    (hr : Row w b 51 vs.toArray) (hn : n ≤ 1000) (hB : B ≤ w.heap.size) (h : ∀ v' w', Seen B w' v' (xs ++ vs) (n + 1) → w.grownBy w' v.ownBlock → wpList Try.prog ops Q rest (a.put o.dst v') w') : wpList Try.prog ops Q (o :: rest) a w := by
  obtain ⟨i0, hi, hz0, hz1, hz2⟩ := info_parts infoW51
  refine wpList_append_lies _ hgd s x 50 ho B 51 i0 (.agg zeroW.toArray) 24 192 Try.underlying50 hi hz0 hz1 hz2 rfl (by decide) v n xs hs hown ⟨b, 0, none⟩ 1 1 vs hx (by omega) ?_ h1 (by decide) (by unfold maxLen; omega) (by omega) hB _ rfl ?_
  · intro j u hu
    rw [Addr.add_lit, Nat.zero_add, hr.cell, List.getElem?_toArray]
    exact hu
  · intro g cap w' ho' hg' _ _
    exact h _ _ ⟨ho', by omega⟩ hg'
theorem show_load51 {P : Program} {ops : Array Oper} {rest : List Oper} {Q : Exit → Act → World → Prop} {d : Option Nat} {t2 : TypeId} {x : Operand} {ps : String} {af : Array Edge} {g : Option (Nat × Bool)} {a : Act} {w : World} (h : wpList P ops Q (⟨d, .load 51 x, t2, ps, af, g⟩ :: rest) a w) : wpList P ops Q (⟨d, .load 51 x, t2, ps, af, g⟩ :: rest) a w := h
theorem show_store51 {P : Program} {ops : Array Oper} {rest : List Oper} {Q : Exit → Act → World → Prop} {d : Option Nat} {t2 : TypeId} {x y : Operand} {ps : String} {af : Array Edge} {a : Act} {w : World} (h : wpList P ops Q (⟨d, .store 51 x y, t2, ps, af, none⟩ :: rest) a w) : wpList P ops Q (⟨d, .store 51 x y, t2, ps, af, none⟩ :: rest) a w := h
theorem show_build51 {P : Program} {ops : Array Oper} {rest : List Oper} {Q : Exit → Act → World → Prop} {d : Option Nat} {t2 : TypeId} {x : Operand} {ps : String} {af : Array Edge} {a : Act} {w : World} (h : wpList P ops Q (⟨d, .buildSlice 50 1 #[(0, x)], t2, ps, af, none⟩ :: rest) a w) : wpList P ops Q (⟨d, .buildSlice 50 1 #[(0, x)], t2, ps, af, none⟩ :: rest) a w := h
end Go.Proofs.Ytbadlmicbbjkaaa
