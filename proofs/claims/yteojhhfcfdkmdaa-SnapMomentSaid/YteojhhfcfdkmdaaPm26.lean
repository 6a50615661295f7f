/- Texts of this claim, packed: AnyTwo. -/
import Derived.Test.YteojhhfcfdkmdaaPm09
import Derived.Deep.RegionHeld
set_option linter.unusedSimpArgs false
set_option linter.unusedVariables false
/- Two calls of a region that draws its order, either of which may come first: one way behind both; no conditions. -/
namespace Go.Proofs.Yteojhhfcfdkmdaa
open Go.RowKit
set_option linter.unusedVariables false
theorem put_comm (a : Act) {d e : Nat} (h : d ≠ e) (u v : Value) : (a.put (some e) v).put (some d) u = (a.put (some d) u).put (some e) v := by
  simp only [Act.put]
  rw [Array.setIfInBounds_comm _ _ (Ne.symm h)]
/-- Two operations, both ready and nothing else is: whichever comes first, what is behind both is one. -/
theorem wpAnyH_two {P : Program} {md : Region.Mode} {ops : Array Oper} {Q : Exit → Act → World → Prop} {S : World → Prop} {fuel : Nat} {listed : Array Bool} {a : Act} {w : World} {i j d e : Nat} {oi oj : Oper} (R1 R2 : Value → World → Prop)
    (hi : ops[i]? = some oi) (hj : ops[j]? = some oj) (hdi : oi.dst = some d) (hdj : oj.dst = some e) (hde : d ≠ e)
    (hr : Region.ready md ops listed = [i, j]) (hr1 : Region.ready md ops (listed.setIfInBounds i true) = [j]) (hr2 : Region.ready md ops (listed.setIfInBounds j true) = [i])
    (st1 : ∀ v w w', R1 v w → Below w.heap.size w w' → R1 v w') (st2 : ∀ v w w', R2 v w → Below w.heap.size w w' → R2 v w') (hS : S w)
    (h1 : ∀ a' w, (a' = a ∨ ∃ v, a' = a.put (some e) v) → S w → ∀ K : Act → World → Prop, (∀ v w', R1 v w' → Below w.heap.size w w' → S w' → K (a'.put (some d) v) w') → if Region.wanted oi (yielded ops a'.tmps) = true then Oper.wp P oi a' w K Q else K (a'.put oi.dst undef) w)
    (h2 : ∀ a' w, (a' = a ∨ ∃ v, a' = a.put (some d) v) → S w → ∀ K : Act → World → Prop, (∀ v w', R2 v w' → Below w.heap.size w w' → S w' → K (a'.put (some e) v) w') → if Region.wanted oj (yielded ops a'.tmps) = true then Oper.wp P oj a' w K Q else K (a'.put oj.dst undef) w)
    (h : ∀ v1 v2 w', R1 v1 w' → R2 v2 w' → S w' → wpAnyH P md ops Q S fuel ((listed.setIfInBounds i true).setIfInBounds j true) ((a.put (some d) v1).put (some e) v2) w') :
    wpAnyH P md ops Q S (fuel + 2) listed a w := by
  have hij : i ≠ j := by
    intro e1
    subst e1
    rw [hi] at hj
    cases hj
    rw [hdi] at hdj
    cases hdj
    exact hde rfl
  refine wpAnyH_ready hr (by simp) (AllReadyH.cons hi (fun K hK => ?_) (AllReadyH.cons hj (fun K hK => ?_) AllReadyH.nil))
  · refine h1 a w (.inl rfl) hS K (fun v w1 hv hb hS1 => hK.out _ _ hS1 (fun _ => ?_))
    refine wpAnyH_ready hr1 (by simp) (AllReadyH.cons hj (fun K2 hK2 => ?_) AllReadyH.nil)
    exact h2 _ w1 (.inr ⟨v, rfl⟩) hS1 K2 (fun u w2 hu hb2 hS2 => hK2.out _ _ hS2 (fun _ => h v u w2 (st1 _ _ _ hv hb2) hu hS2))
  · refine h2 a w (.inl rfl) hS K (fun u w1 hu hb hS1 => hK.out _ _ hS1 (fun _ => ?_))
    refine wpAnyH_ready hr2 (by simp) (AllReadyH.cons hi (fun K2 hK2 => ?_) AllReadyH.nil)
    refine h1 _ w1 (.inr ⟨u, rfl⟩) hS1 K2 (fun v w2 hv hb2 hS2 => hK2.out _ _ hS2 (fun _ => ?_))
    have := h v u w2 hv (st2 _ _ _ hu hb2) hS2
    rw [put_comm a hde]
    rw [Array.setIfInBounds_comm _ _ hij] at this
    exact this
/-- One operation, alone ready. -/
theorem wpAnyH_one {P : Program} {md : Region.Mode} {ops : Array Oper} {Q : Exit → Act → World → Prop} {S : World → Prop} {fuel : Nat} {listed : Array Bool} {a : Act} {w : World} {i : Nat} {oi : Oper}
    (hi : ops[i]? = some oi) (hr : Region.ready md ops listed = [i])
    (h1 : ∀ K : Act → World → Prop, (∀ a' w', S w' → (S w' → wpAnyH P md ops Q S fuel (listed.setIfInBounds i true) a' w') → K a' w') → if Region.wanted oi (yielded ops a.tmps) = true then Oper.wp P oi a w K Q else K (a.put oi.dst undef) w) :
    wpAnyH P md ops Q S (fuel + 1) listed a w :=
  wpAnyH_ready hr (by simp) (AllReadyH.cons hi (fun K hK => h1 K fun a' w' hS' hW => hK.out a' w' hS' hW) AllReadyH.nil)
/-- A call of a Go function is a step of such a region. -/
theorem step_calls {P : Program} {ops : Array Oper} {o : Oper} {a : Act} {w : World} {K : Act → World → Prop} {Q : Exit → Act → World → Prop} {E : Prop} (hw : Region.wanted o (yielded ops a.tmps) = true) (f : FuncId) (eg : ∀ args w, (callFunc f args).run P w = .ok (.enter f args) w) (xs : List Operand) (ts : Array TypeId)
    (ho : o.op = .call { callee := .value (.func f), args := xs.toArray, argTypes := ts }) (vs : List Value) (h1 : xs.map a.eval = vs) {post : Ending → World → Prop} (h : Calls P f vs.toArray w post)
    (hK : ∀ e w', post e w' → ∃ v, e = .returned v ∧ K (a.put o.dst v) w') : if Region.wanted o (yielded ops a.tmps) = true then Oper.wp P o a w K Q else E := by
  rw [if_pos hw]
  unfold Oper.wp
  have e0 : a.eval (.func f) = .func (.func f) #[] #[] := rfl
  have : (execOp a.eval o).run P w = .ok (.enter f vs.toArray) w := by
    simp [execOp, ho, resolve, invoke, e0, Deferred.ofValue, eg, ← h1]
  rw [this, Oper.upon_enter]
  refine h.mono ?_
  intro e w' he
  obtain ⟨v, rfl, hk⟩ := hK e w' he
  exact hk
end Go.Proofs.Yteojhhfcfdkmdaa
