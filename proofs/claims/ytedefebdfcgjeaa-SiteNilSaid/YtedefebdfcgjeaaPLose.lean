/- lose: a line is what has lasted of it, with nothing pending, or marked; for lines that there are. -/
import Derived.Test.YtedefebdfcgjeaaPFenSt
import Derived.Test.YtedefebdfcgjeaaPBytes
import Derived.Deep.RegionHeld3
namespace Go.Proofs.Ytedefebdfcgjeaa
open Go.RowKit
set_option linter.unusedVariables false
attribute [local go_sem ↓] Go.wp_at_zero Go.wp_at_succ

theorem size29 : (Try.prog.info? 29).map (·.size) = some 1 := by kernel_rfl
/-- copy into a row that is known whole, at a step of a region that draws its order. -/
theorem step_copy_set {ops : Array Oper} {o : Oper} {a : Act} {w : World} {K : Act → World → Prop} {Q : Exit → Act → World → Prop} {E : Prop} (hgd : o.guard = none) (d s : Operand) (dT sT : TypeId)
    (ho : o.op = .call { callee := .builtin .copy, args := #[d, s], argTypes := #[dT, sT] }) (elem : TypeId) (hu : Try.prog.underlying dT = some (.slice elem)) (hsz : (Try.prog.info? elem).map (·.size) = some 1)
    (ad : Addr) (dLen dCap sLen sCap : Nat) (g off : Nat) (hd : a.eval d = .slice (some ⟨g, off, none⟩) dLen dCap) (hs : a.eval s = .slice (some ad) sLen sCap)
    (cur : List Value) (t : TypeId) (hg : w.heap[g]? = some (.cells cur.toArray t (0, 0))) (cs : List Value) (hn : cs.length = Nat.min sLen dLen) (h0 : 0 < cs.length)
    (hsrc : ∀ j v, cs[j]? = some v → w.cell? (ad.add j) = some v) (hfit : off + cs.length ≤ cur.length) (h1 : ∀ v ∈ cs, v.oneCell' = true)
    (h : ∀ w', w'.heap[g]? = some (.cells (splice cur off cs).toArray t (0, 0)) → But w w' (fun k => k = g) → K (a.put o.dst (goInt cs.length)) w') :
    if Region.wanted o (yielded ops a.tmps) = true then Oper.wp Try.prog o a w K Q else E := by
  have hw : Region.wanted o (yielded ops a.tmps) = true := by simp [Region.wanted, hgd]
  rw [if_pos hw]
  have hrun := run_copy_row (P := Try.prog) w dT sT o.type elem g off dLen dCap ad sLen sCap cur.toArray t cs hu hsz hg hn hsrc (by simpa using hfit) h1
  unfold Oper.wp
  simp [execOp, ho, resolve, invoke, builtin, hd, hs, hrun, Result.andThen]
  exact h _ (show _ = _ by simpa [splice] using setRow_heap w g _ _ t _ hg) ⟨rfl, rfl, rfl, by simp, fun k hk hn => setRow_other w g k _ hn⟩

/-- The state behind it. -/
def loseV (las vie : List Nat) (i : Nat) : List Nat := vie.mapIdx fun k x => if k / 8 = i then las.getD k 0 else x
def St.lose (s : St) (i : Nat) : St := { s with view := loseV s.lasted s.view i, pend := s.pend.set i [], mm := upd s.mm i fun _ => 0 }
theorem loseV_splice {las vie : List Nat} {nl i : Nat} (h1 : las.length = 8 * nl) (h2 : vie.length = 8 * nl) (hi : i < nl) : loseV las vie i = splice vie (8 * i) ((las.drop (8 * i)).take 8) := by
  have hL : ((las.drop (8 * i)).take 8).length = 8 := by rw [List.length_take, List.length_drop]; omega
  apply List.ext_getElem?
  intro k
  unfold loseV splice
  rw [List.getElem?_mapIdx]
  by_cases a1 : k < 8 * i
  · rw [List.getElem?_append_left (by rw [List.length_take]; omega), List.getElem?_take_of_lt a1, List.getElem?_eq_getElem (by omega)]
    simp only [Option.map_some]
    rw [if_neg (by omega)]
  · have e1 : (vie.take (8 * i)).length = 8 * i := by rw [List.length_take]; omega
    rw [List.getElem?_append_right (by omega), e1]
    by_cases a2 : k < 8 * i + 8
    · rw [List.getElem?_append_left (by omega), List.getElem?_take_of_lt (by omega), List.getElem?_drop, show 8 * i + (k - 8 * i) = k from by omega, List.getElem?_eq_getElem (show k < vie.length by omega), List.getElem?_eq_getElem (show k < las.length by omega)]
      simp only [Option.map_some]
      rw [if_pos (by omega), getD_at (by omega)]
    · rw [List.getElem?_append_right (by omega), hL, List.getElem?_drop, show 8 * i + 8 + (k - 8 * i - 8) = k from by omega]
      by_cases a3 : k < vie.length
      · rw [List.getElem?_eq_getElem a3]
        simp only [Option.map_some]
        rw [if_neg (by omega)]
      · rw [List.getElem?_eq_none (by omega)]
        rfl
theorem splice_take {α : Type} {cur : List α} {n off : Nat} {xs cs : List α} (h : cur.take n = xs) (hf : off + cs.length ≤ n) (hn : n ≤ cur.length) : (splice cur off cs).take n = splice xs off cs := by
  subst h
  unfold splice
  rw [List.take_append, List.take_append, List.take_take, List.length_take, Nat.min_eq_left (show off ≤ cur.length by omega), Nat.min_eq_right (show off ≤ n by omega), List.take_take, Nat.min_eq_left (show off ≤ n by omega), List.take_of_length_le (show cs.length ≤ n - off by omega), List.drop_take]
  congr 3
  omega
theorem splice_map {α β : Type} (f : α → β) (l cs : List α) (off : Nat) : (splice l off cs).map f = splice (l.map f) off (cs.map f) := by simp [splice, List.map_take, List.map_drop]
end Go.Proofs.Ytedefebdfcgjeaa
