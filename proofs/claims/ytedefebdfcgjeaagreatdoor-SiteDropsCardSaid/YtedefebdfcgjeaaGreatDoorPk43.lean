/- Texts of this claim, packed: 7Run, 7Runs, 7Known. -/
import Derived.Test.YtedefebdfcgjeaaGreatDoorPk37
import Derived.Deep.LoopGhost
import Derived.WalkMore
/- least, Runs: on whom a client's going on hangs; for any table. -/
namespace Go.Proofs.YtedefebdfcgjeaaGreatDoor
open Go.RowKit
set_option linter.unusedVariables false
def LeastInv (s : Lk) (c m k : Nat) (v5 v6 : Value) : Prop := ∃ j l a : Nat, 1 ≤ j ∧ j + k = m ∧ it s c j = some a ∧ a < s.n ∧ v5 = .int .i64 (l : Int) ∧ v6 = .int .i64 (a : Int) ∧ l < s.n ∧ (∃ i, i < j ∧ it s c i = some l) ∧ ∀ i y, i < j → it s c i = some y → l ≤ y
def IntPost (w : World) (P : Nat → Prop) (e : Ending) (w' : World) : Prop := ∃ r : Nat, P r ∧ e = .returned (.int .i64 (r : Int)) ∧ w = w'
theorem hV_of {s : Lk} {c d : Nat} (h : nx s c = some d) : hV (s.hm (s.wt c)) = .int .i64 (d : Int) ∧ (s.hm (s.wt c)).isSome = true := by
  have h' : s.hm (s.wt c) = some d := h
  rw [h']
  exact ⟨rfl, rfl⟩
end Go.Proofs.YtedefebdfcgjeaaGreatDoor
/- Runs: on whom a client's going on hangs; for any table and client. -/
namespace Go.Proofs.YtedefebdfcgjeaaGreatDoor
open Go.RowKit
set_option linter.unusedVariables false
/-- Who was met, as cells. -/
def barr (V : List Nat) : Array Value := Array.ofFn fun i : Fin 64 => .bool (decide (i.val ∈ V))
theorem barr_get (V : List Nat) {i : Nat} (h : i < 64) : (barr V)[i]? = some (.bool (decide (i ∈ V))) := by simp [barr, h]
theorem barr_size (V : List Nat) : (barr V).size = 64 := by simp [barr]
theorem barr_set (V : List Nat) (c : Nat) : (barr V).setIfInBounds c (.bool true) = barr (c :: V) := by
  apply Array.ext_getElem?
  intro j
  rw [Array.getElem?_setIfInBounds]
  by_cases hj : j < 64
  · by_cases e : c = j
    · subst e
      have hm : c ∈ c :: V := List.mem_cons_self
      rw [if_pos rfl, if_pos (by rw [barr_size]; exact hj), barr_get _ hj, decide_eq_true hm]
    · have hn : ¬ j = c := fun h => e h.symm
      have hd : decide (j ∈ c :: V) = decide (j ∈ V) := by simp [hn]
      rw [if_neg e, barr_get V hj, barr_get (c :: V) hj, hd]
  · have h1 : (barr (c :: V))[j]? = none := Array.getElem?_eq_none (by rw [barr_size]; omega)
    have h2 : (barr V)[j]? = none := Array.getElem?_eq_none (by rw [barr_size]; omega)
    rw [h1, h2]
    by_cases e : c = j
    · subst e
      rw [if_pos rfl, if_neg (by rw [barr_size]; omega)]
    · rw [if_neg e]
def RunsPost (w : World) (s : Lk) (c0 : Nat) (e : Ending) (w' : World) : Prop := ∃ r : Nat, RunsIs s c0 r ∧ e = .returned (.int .i64 (r : Int)) ∧ Below w.heap.size w w'
end Go.Proofs.YtedefebdfcgjeaaGreatDoor
/- The chapter's row on locks; without conditions. -/
namespace Go.Proofs.YtedefebdfcgjeaaGreatDoor
open Go.RowKit
set_option linter.unusedVariables false
/-- A table in memory that is new since w0, in a world in which nothing older has turned. -/
structure OwnK (w0 w : World) (g b : Nat) (s : Lk) : Prop where
  at_ : KAt w g b s
  lg : w0.heap.size ≤ g
  lb : w0.heap.size ≤ b
  bel : Below w0.heap.size w0 w
theorem OwnK.below {w0 w w' : World} {g b : Nat} {s : Lk} (h : OwnK w0 w g b s) (hb : Below w.heap.size w w') : OwnK w0 w' g b s :=
  ⟨h.at_.below hb, h.lg, h.lb, h.bel.trans (hb.mono h.bel.size)⟩
theorem OwnK.turn {w0 w w' : World} {g b : Nat} {s s' : Lk} (h : OwnK w0 w g b s) (hk : KAt w' g b s') (hb : But w w' (kfp g b)) : OwnK w0 w' g b s' :=
  ⟨hk, h.lg, h.lb, h.bel.trans (hb.below h.bel.size (fun k hk => by have h1 := h.lg; have h2 := h.lb; rcases hk with rfl | rfl <;> omega))⟩
theorem runsPost_is {w : World} {s : Lk} {c r : Nat} (hr : RunsIs s c r) {e : Ending} {w' : World} (h : RunsPost w s c e w') : e = .returned (.int .i64 (r : Int)) ∧ Below w.heap.size w w' := by
  obtain ⟨r', h1, h2, h3⟩ := h
  rw [runs_one hr h1]
  exact ⟨h2, h3⟩
def kk1 : Lk := tryS (lk0 3) 0 64
def kk2 : Lk := tryS kk1 1 64
def kk3 : Lk := relS kk2 0 64
theorem k2_runs : RunsIs kk2 1 0 := .inl ⟨1, rfl, rfl⟩
theorem k3_runs : RunsIs kk3 1 1 := .inl ⟨0, rfl, rfl⟩
end Go.Proofs.YtedefebdfcgjeaaGreatDoor
