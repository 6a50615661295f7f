/- Texts of this claim, packed: AnyTwo. -/
import Derived.Test.YtkbklooocdfcfaaGreatDoorPz03
import Derived.Deep.RegionHeld
set_option linter.unusedVariables false
set_option maxRecDepth 100000
set_option maxHeartbeats 6400000
namespace Go.Proofs.YtkbklooocdfcfaaGreatDoor
open Go.RowKit
theorem wpAnyH_one {P : Program} {md : Region.Mode} {ops : Array Oper} {Q : Exit -> Act -> World -> Prop} {S : World -> Prop} {fuel : Nat} {listed : Array Bool} {a : Act} {w : World} {i : Nat} {oi : Oper}
  (hi : ops[i]? = some oi) (hr : Region.ready md ops listed = [i])
  (h1 : ∀ K : Act -> World -> Prop, (∀ a' w', S w' -> (S w' -> wpAnyH P md ops Q S fuel (listed.setIfInBounds i true) a' w') -> K a' w') -> if Region.wanted oi (yielded ops a.tmps) = true then Oper.wp P oi a w K Q else K (a.put oi.dst undef) w) :
  wpAnyH P md ops Q S (fuel + 1) listed a w :=
 wpAnyH_ready hr (by simp) (AllReadyH.cons hi (fun K hK => h1 K fun a' w' hS' hW => hK.out a' w' hS' hW) AllReadyH.nil)
theorem step_calls {P : Program} {ops : Array Oper} {o : Oper} {a : Act} {w : World} {K : Act -> World -> Prop} {Q : Exit -> Act -> World -> Prop} {E : Prop} (hw : Region.wanted o (yielded ops a.tmps) = true) (f : FuncId) (eg : ∀ args w, (callFunc f args).run P w = .ok (.enter f args) w) (xs : List Operand) (ts : Array TypeId)
  (ho : o.op = .call { callee := .value (.func f), args := xs.toArray, argTypes := ts }) (vs : List Value) (h1 : xs.map a.eval = vs) {post : Ending -> World -> Prop} (h : Calls P f vs.toArray w post)
  (hK : ∀ e w', post e w' -> ∃ v, e = .returned v /\ K (a.put o.dst v) w') : if Region.wanted o (yielded ops a.tmps) = true then Oper.wp P o a w K Q else E := by
 rw [if_pos hw]
 unfold Oper.wp
 have e0 : a.eval (.func f) = .func (.func f) #[] #[] := rfl
 have : (execOp a.eval o).run P w = .ok (.enter f vs.toArray) w := by
  simp [execOp, ho, resolve, invoke, e0, Deferred.ofValue, eg, <- h1]
 rw [this, Oper.upon_enter]
 refine h.mono ?_
 intro e w' he
 obtain ⟨v, rfl, hk⟩ := hK e w' he
 exact hk
end Go.Proofs.YtkbklooocdfcfaaGreatDoor
