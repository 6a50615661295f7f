/- A whole variable stored over a block; a result read from a block; no conditions. -/
import Derived.Test.YtaegaeljakdffaaDoorN8St
import Derived.Laws.ResultCell
namespace Go.Proofs.YtaegaeljakdffaaDoor
open Go.RowKit
set_option linter.unusedVariables false
def setL (cs : Array Value) : Nat → List Value → Array Value
  | _, [] => cs
  | o, v :: r => setL (cs.setIfInBounds o v) (o + 1) r
theorem row_setCellsAux {t : TypeId} {b : Nat} : ∀ (vs : List Value) (o : Nat) (w : World) (cs : Array Value), Row w b t cs → Row (w.setCells b o vs) b t (setL cs o vs)
  | [], _, _, _, h => h
  | v :: r, o, w, cs, h => row_setCellsAux r (o + 1) _ _ (h.set o v)
theorem setL_get : ∀ (vs : List Value) (o : Nat) (cs : Array Value), o + vs.length ≤ cs.size → (setL cs o vs).size = cs.size ∧ ∀ i, (setL cs o vs)[i]? = if o ≤ i ∧ i < o + vs.length then vs[i - o]? else cs[i]?
  | [], o, cs, _ => ⟨rfl, fun i => by simp [setL]; omega⟩
  | v :: r, o, cs, h => by
    rw [List.length_cons] at h
    obtain ⟨h1, h2⟩ := setL_get r (o + 1) (cs.setIfInBounds o v) (by rw [Array.size_setIfInBounds]; omega)
    refine ⟨by rw [setL, h1, Array.size_setIfInBounds], fun i => ?_⟩
    rw [setL, h2, List.length_cons]
    by_cases e : i = o
    · subst e
      rw [if_neg (by omega), if_pos (by omega), Nat.sub_self, List.getElem?_cons_zero, Array.getElem?_setIfInBounds_self]
      simp
      omega
    · by_cases h3 : o + 1 ≤ i ∧ i < o + 1 + r.length
      · rw [if_pos h3, if_pos (by omega), show i - o = (i - (o + 1)) + 1 by omega, List.getElem?_cons_succ]
      · rw [if_neg h3, if_neg (by omega), Array.getElem?_setIfInBounds_ne (by omega)]
theorem row_setCells {w : World} {b : Nat} {t : TypeId} {cs : Array Value} (h : Row w b t cs) {vs : List Value} (hl : vs.length = cs.size) : Row (w.setCells b 0 vs) b t vs.toArray := by
  have h1 := row_setCellsAux vs 0 w cs h
  have h2 := setL_get vs 0 cs (by omega)
  have : setL cs 0 vs = vs.toArray := by
    apply Array.ext_getElem?
    intro i
    rw [h2.2 i, Nat.sub_zero]
    by_cases hi : i < vs.length
    · rw [if_pos (by omega), List.getElem?_toArray]
    · rw [if_neg (by omega)]
      rw [show cs[i]? = none from Array.getElem?_eq_none (by omega), List.getElem?_toArray]
      exact (List.getElem?_eq_none (by omega)).symm
  rwa [this] at h1
theorem row_there {w : World} {b : Nat} {t : TypeId} {cs : Array Value} (h : Row w b t cs) {n : Nat} (hn : n ≤ cs.size) : w.there b 0 n := fun j hj => by
  rw [Nat.zero_add]
  exact ⟨by rw [h.cell, Array.getElem?_eq_getElem (by omega)]; rfl, h.free j⟩
theorem setCells_low {w W : World} {b : Nat} (vs : List Value) (hb : w.heap.size ≤ b) (h : Below w.heap.size w W) : Below w.heap.size w (W.setCells b 0 vs) := by
  suffices H : ∀ (vs : List Value) (o : Nat) (W : World), Below w.heap.size w W → Below w.heap.size w (W.setCells b o vs) from H vs 0 W h
  intro vs
  induction vs with
  | nil => exact fun o W h => h
  | cons v r ih => exact fun o W h => ih (o + 1) _ (h.setCell (p := ⟨b, o, none⟩) hb v)
/-- A whole variable is stored, wherever the list of operations stands. -/
theorem wpList_store_row {P : Program} {ops : Array Oper} {rest : List Oper} {op : Oper} {a : Act} {w : World} {Q : Exit → Act → World → Prop} (hgd : op.guard = none) (ty : TypeId) (x y : Operand) (ho : op.op = .store ty x y)
    (b : Nat) (vs : List Value) (hx : a.eval x = .pointer (some ⟨b, 0, none⟩)) (hy : a.eval y = .agg vs.toArray) {t : TypeId} {cs : Array Value} (hr : Row w b t cs) (hl : vs.length = cs.size)
    (hi : (P.info? ty).map (·.size) = some vs.length) (h1 : ∀ v ∈ vs, v.oneCell' = true) (h : wpList P ops Q rest (a.put op.dst undef) (w.setCells b 0 vs)) : wpList P ops Q (op :: rest) a w :=
  wpList_store_mid hgd ty x y ho b 0 vs.toArray hx hy (row_there hr (by simp [hl])) (by simpa using hi) (all_oneCell_toArray h1) (by simpa using h)
theorem cl_one (n : Nd) : ∀ v ∈ n.cl, v.oneCell' = true := by
  intro v hv
  simp only [Nd.cl, List.mem_cons, List.not_mem_nil, or_false] at hv
  rcases hv with rfl | rfl | rfl | rfl | rfl | rfl | rfl | rfl | rfl | rfl | rfl | rfl | rfl | rfl | rfl | rfl | rfl | rfl | rfl | rfl | rfl <;> rfl
theorem results_node_tmp {fn : Func} {p u : Tmp} (h : fn.results = #[.cell p 27, .tmp u]) (tmps : Array Value) (w : World) (g : Nat) (n : Nd)
    (hp : tmps.getD p undef = .pointer (some ⟨g, 0, none⟩)) (hg : NdAt w g n) :
    (results fn tmps).run Tryd.prog w = .ok (.tuple #[n.V, tmps.getD u undef]) w := by
  have hv := run_loadVar_mid w g 0 27 n.cl _ (ndR hg) Tryd.underlying27 rfl ndI
  rw [results_cell_tmp h tmps Tryd.prog w, hp]
  simp [asAddr, hv]
/-- The zero node. -/
def zeroNd : Nd := ⟨0, 0, 0, 0, 0, 0, 0, 0, 0, 0, 0, 0, 0, 0, 0, 0, 0, 0, 0, 0, 0⟩
def Nd.put (n : Nd) (k : Nat) (e : Int × Int) : Nd :=
  match k with
  | 0 => { n with k0 := e.1, p0 := e.2 }
  | 1 => { n with k1 := e.1, p1 := e.2 }
  | 2 => { n with k2 := e.1, p2 := e.2 }
  | 3 => { n with k3 := e.1, p3 := e.2 }
  | 4 => { n with k4 := e.1, p4 := e.2 }
  | 5 => { n with k5 := e.1, p5 := e.2 }
  | 6 => { n with k6 := e.1, p6 := e.2 }
  | 7 => { n with k7 := e.1, p7 := e.2 }
  | _ => n
theorem put_cl (n : Nd) {k : Nat} (hk : k < 8) (e : Int × Int) : ((n.cl.toArray.setIfInBounds (5 + k) (uw e.1)).setIfInBounds (13 + k) (uw e.2)) = (n.put k e).cl.toArray := by
  rcases lt8 hk with rfl | rfl | rfl | rfl | rfl | rfl | rfl | rfl <;> rfl
/-- A node with so many of these entries at its first places. -/
def mkN (n0 : Nd) (l : List (Int × Int)) : Nat → Nd
  | 0 => n0
  | k + 1 => (mkN n0 l k).put k (l.getD k (0, 0))
end Go.Proofs.YtaegaeljakdffaaDoor
