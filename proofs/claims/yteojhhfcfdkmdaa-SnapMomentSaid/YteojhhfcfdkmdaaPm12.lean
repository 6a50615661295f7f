/- Texts of this claim, packed: SnBl. -/
import Derived.Test.YteojhhfcfdkmdaaPm11
import Derived.Great.BuildSlice
import Derived.Great.FillDense
import Derived.Deep.AppendLies
set_option linter.unusedSimpArgs false
set_option linter.unusedVariables false
/- A slice of nodes: one is built, one is appended; conditions: it is one's own. -/
namespace Go.Proofs.Yteojhhfcfdkmdaa
open Go.RowKit
set_option linter.unusedVariables false
set_option linter.unusedSimpArgs false
theorem infoNs : (Try.prog.info? 27).map (fun i => (i.zero, i.size, i.bytes)) = some (some (.agg zeroNd.cl.toArray), 21, 168) := by kernel_rfl
/-- A slice of one node is built. -/
theorem buildN {ops : Array Oper} {rest : List Oper} {o : Oper} {a : Act} {w : World} {Q : Exit → Act → World → Prop} (hg : o.guard = none) (x : Operand) (ho : o.op = .buildSlice 45 1 #[(0, x)]) (n : Nd) (hx : a.eval x = n.V)
    (h : wpList Try.prog ops Q rest (a.put o.dst (.slice (some ⟨w.heap.size, 0, none⟩) 1 1)) (w.alloc (.cells n.cl.toArray 27))) : wpList Try.prog ops Q (o :: rest) a w := by
  obtain ⟨ie, hie, hz, hs, hy⟩ := info_parts infoNs
  refine wpList_buildSlice hg 45 27 1 _ ho n.cl.toArray ie (.agg zeroNd.cl.toArray) Try.underlying45 hie hz (by rw [hs]; decide) (by rw [hs]; decide) ?_ h
  rw [hs]
  have := Go.Great.fill_whole (s := 21) (by decide) [.agg n.cl.toArray] ((Array.range (1 * 21)).map ((Value.agg zeroNd.cl.toArray).cells[· % (Value.agg zeroNd.cl.toArray).cells.size]!)) (by intro v hv; simp only [List.mem_singleton] at hv; subst hv; rfl) (by simp)
  simp only [List.map_cons, List.map_nil, List.zipIdx_cons, List.zipIdx_nil, List.flatMap_cons, List.flatMap_nil, List.append_nil] at this
  refine Eq.trans (congrArg _ ?_) this
  simp [hx, Nd.V]
theorem nodes_new (w : World) (B : Nat) (hB : B ≤ w.heap.size) (n : Nd) : (w.alloc (.cells n.cl.toArray 27)).ownsRow B 27 21 (.slice (some ⟨w.heap.size, 0, none⟩) 1 1) 1 n.cl := by
  refine ⟨rfl, .inr ⟨_, _, n.cl.toArray, rfl, hB, ?_, Nat.le_refl _, by decide, rfl, ?_⟩⟩
  · exact Row.new w 27 n.cl.toArray
  · show (n.cl.toArray).toList.take (1 * 21) = n.cl
    simp [List.take_of_length_le (Nat.le_of_eq n.size)]
/-- A node is appended. -/
theorem appN {ops : Array Oper} {rest : List Oper} {o : Oper} {a : Act} {w : World} {Q : Exit → Act → World → Prop} (hgd : o.guard = none) (s x : Operand) (ho : o.op = .call { callee := .builtin .append, args := #[s, x], argTypes := #[45, 45] })
    (B : Nat) (v : Value) (n : Nat) (xs : List Value) (hs : a.eval s = v) (hown : w.ownsRow B 27 21 v n xs) (b : Nat) (m : Nd) (hx : a.eval x = .slice (some ⟨b, 0, none⟩) 1 1)
    (hr : Row w b 27 m.cl.toArray) (hn : n ≤ 1000) (hB : B ≤ w.heap.size) (h : ∀ v' w', w'.ownsRow B 27 21 v' (n + 1) (xs ++ m.cl) → w.grownBy w' v.ownBlock → (∀ k, v'.ownBlock = some k → v.ownBlock = some k ∨ w.heap.size ≤ k) → wpList Try.prog ops Q rest (a.put o.dst v') w') : wpList Try.prog ops Q (o :: rest) a w := by
  obtain ⟨i0, hi, hz0, hz1, hz2⟩ := info_parts infoNs
  refine wpList_append_lies _ hgd s x 45 ho B 27 i0 (.agg zeroNd.cl.toArray) 21 168 Try.underlying45 hi hz0 hz1 hz2 rfl (by decide) v n xs hs hown ⟨b, 0, none⟩ 1 1 m.cl hx (by rw [m.size]) ?_ (cl_one _) (by decide) (by unfold maxLen; omega) (by omega) hB _ rfl ?_
  · intro j u hu
    rw [Addr.add_lit, Nat.zero_add, hr.cell, List.getElem?_toArray]
    exact hu
  · intro g cap w' ho' hg' h1 h2
    refine h _ _ ho' hg' fun k hk => ?_
    have : g = k := by simpa [Value.ownBlock] using hk
    subst this
    rcases h1 with h1 | h1
    · exact .inl h1
    · exact .inr (Nat.le_of_eq h1.symm)
theorem show_buildN {P : Program} {ops : Array Oper} {rest : List Oper} {Q : Exit → Act → World → Prop} {d : Option Nat} {t2 : TypeId} {x : Operand} {ps : String} {af : Array Edge} {a : Act} {w : World} (h : wpList P ops Q (⟨d, .buildSlice 45 1 #[(0, x)], t2, ps, af, none⟩ :: rest) a w) : wpList P ops Q (⟨d, .buildSlice 45 1 #[(0, x)], t2, ps, af, none⟩ :: rest) a w := h
end Go.Proofs.Yteojhhfcfdkmdaa
