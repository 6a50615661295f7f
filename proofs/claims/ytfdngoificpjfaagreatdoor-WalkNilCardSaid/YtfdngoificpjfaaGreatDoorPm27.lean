/- Texts of this claim, packed: N8Act, N8Same, N8Eq, SnTr, N8RefF, N8May, N8Rise, N8Unl, N8MayN, N8Inv, N9P, N8RefI. -/
import Derived.Test.YtfdngoificpjfaaGreatDoorPm26
import Derived.Test.YtfdngoificpjfaaGreatDoorPm24
import Derived.Test.YtfdngoificpjfaaGreatDoorPm23
import Derived.Test.YtfdngoificpjfaaGreatDoorPm06
import Derived.Test.YtfdngoificpjfaaGreatDoorPm21
import Derived.Laws.StructEq
import Derived.Laws.Rows
/- Active, Valid: a node's valid entries below a bound, in new memory; of any node, any bound; without conditions. -/
namespace Go.Proofs.YtfdngoificpjfaaGreatDoor
open Go.RowKit Go.Shelf
set_option linter.unusedVariables false
attribute [local go_sem] Oper.semAt_some

theorem ownS_cells {w : World} {B s n g : Nat} {e : TypeId} {v : Value} {xs : List Value} (h : w.ownsRow B e s v n xs) (hg : v.ownBlock = some g) : ∃ cs t, w.heap[g]? = some (.cells cs t (0, 0)) := by
  rcases h.2 with ⟨rfl, _⟩ | ⟨g', cap, cur, rfl, _, hh, _⟩
  · cases hg
  · have : g' = g := by injection hg
    subst this
    exact ⟨_, _, hh⟩
theorem ownS_grown {w w' : World} {B s n : Nat} {e : TypeId} {v : Value} {xs : List Value} {row : Option Nat} (h : w.ownsRow B e s v n xs) (hg : w.grownBy w' row) (hr : ∀ q, row = some q → ∃ o : Obj, w.heap[q]? = some o ∧ o.isCells = false) : w'.ownsRow B e s v n xs := by
  refine ⟨h.1, ?_⟩
  rcases h.2 with h0 | ⟨g, cap, cur, rfl, hb, hh, hrest⟩
  · exact .inl h0
  · refine .inr ⟨g, cap, cur, rfl, hb, (hg.block g (Array.getElem?_eq_some_iff.1 hh).1 ?_).trans hh, hrest⟩
    intro e
    obtain ⟨o, ho, hc⟩ := hr g e.symm
    rw [hh] at ho
    cases ho
    cases hc
theorem ownS_from {w : World} {B s n : Nat} {e : TypeId} {v : Value} {xs : List Value} (h : w.ownsRow B e s v n xs) : ∀ k, v.ownBlock = some k → B ≤ k ∧ k < w.heap.size := by
  intro k hk
  rcases h.2 with ⟨rfl, _⟩ | ⟨g', cap, cur, rfl, hb, hh, _⟩
  · cases hk
  · have : g' = k := by injection hk
    subst this
    exact ⟨hb, (Array.getElem?_eq_some_iff.1 hh).1⟩
theorem ownS_set {w : World} {B s n : Nat} {e : TypeId} {v : Value} {xs : List Value} (h : w.ownsRow B e s v n xs) {p : Addr} (hne : ∀ g, v.ownBlock = some g → g ≠ p.block) (u : Value) : (w.setCell p u).ownsRow B e s v n xs := by
  refine ⟨h.1, ?_⟩
  rcases h.2 with h0 | ⟨g, cap, cur, rfl, hg, hh, hr⟩
  · exact .inl h0
  · exact .inr ⟨g, cap, cur, rfl, hg, (heap_setCell_other w p g u (hne g rfl)).trans hh, hr⟩
theorem ownS_mono {w : World} {B B' s n : Nat} {e : TypeId} {v : Value} {xs : List Value} (h : w.ownsRow B e s v n xs) (hb : B' ≤ B) : w.ownsRow B' e s v n xs := by
  refine ⟨h.1, ?_⟩
  rcases h.2 with h0 | ⟨g, cap, cur, rfl, hg, hr⟩
  · exact .inl h0
  · exact .inr ⟨g, cap, cur, rfl, Nat.le_trans hb hg, hr⟩
theorem ownS_low {w w' : World} {B s n : Nat} {e : TypeId} {v : Value} {xs : List Value} (h : w.ownsRow B e s v n xs) (hb : Below w.heap.size w w') : w'.ownsRow B e s v n xs := ownS_grown h (low_grown hb) (fun q e => by cases e)
/-- Entries, as they lie. -/
def flatE (l : List (Int × Int)) : List Value := l.flatMap fun e => [uw e.1, uw e.2]
theorem flatE_len (l : List (Int × Int)) : (flatE l).length = 2 * l.length := by
  induction l with
  | nil => rfl
  | cons a t ih =>
    have : flatE (a :: t) = uw a.1 :: uw a.2 :: flatE t := rfl
    rw [this, List.length_cons, List.length_cons, List.length_cons, ih]
    omega
theorem flatE_snoc (l : List (Int × Int)) (e : Int × Int) : flatE (l ++ [e]) = flatE l ++ [uw e.1, uw e.2] := by simp [flatE]
theorem flatE_at : ∀ (l : List (Int × Int)) (i : Nat) (e : Int × Int), l[i]? = some e → (flatE l)[i * 2]? = some (uw e.1) ∧ (flatE l)[i * 2 + 1]? = some (uw e.2)
  | [], i, e, h => by simp at h
  | a :: t, 0, e, h => by
    simp only [List.getElem?_cons_zero, Option.some.injEq] at h
    subst h
    exact ⟨rfl, rfl⟩
  | a :: t, i + 1, e, h => by
    simp only [List.getElem?_cons_succ] at h
    have := flatE_at t i e h
    rw [show (i + 1) * 2 = i * 2 + 2 by omega]
    exact this
/-- The valid entries below a bound. -/
def Nd.ent (n : Nd) (p : Nat) : Int × Int := (n.key p, n.ptr p)
def Nd.inB (n : Nd) (high : Int) (has : Bool) (p : Nat) : Bool := !has || decide (n.key p < high)
def actL (n : Nd) (high : Int) (has : Bool) (l : List Nat) : List (Int × Int) := (l.filter (n.inB high has)).map n.ent
theorem actL_yes {n : Nd} {high : Int} {has : Bool} {l : List Nat} {x : Nat} (h : n.inB high has x = true) : actL n high has (l ++ [x]) = actL n high has l ++ [n.ent x] := by simp [actL, h]
theorem actL_no {n : Nd} {high : Int} {has : Bool} {l : List Nat} {x : Nat} (h : n.inB high has x = false) : actL n high has (l ++ [x]) = actL n high has l := by simp [actL, h]
theorem actL_len (n : Nd) (high : Int) (has : Bool) (l : List Nat) : (actL n high has l).length ≤ l.length := by
  unfold actL
  rw [List.length_map]
  exact List.length_filter_le _ _
def Nd.act (n : Nd) (high : Int) (has : Bool) : List (Int × Int) := actL n high has n.vp
/-- All valid entries. -/
def Nd.es (n : Nd) : List (Int × Int) := n.vp.map n.ent
theorem act_all (n : Nd) (high : Int) : n.act high false = n.es := by
  unfold Nd.act actL Nd.es
  congr 1
  exact List.filter_eq_self.2 fun p _ => rfl
theorem Nd.es_len (n : Nd) : n.es.length ≤ 8 := by unfold Nd.es; rw [List.length_map]; exact n.vp_length
theorem Nd.act_len (n : Nd) (high : Int) (has : Bool) : (n.act high has).length ≤ 8 := Nat.le_trans (actL_len _ _ _ _) n.vp_length
def ActI (w : World) (n : Nd) (high : Int) (has : Bool) (q : Nat) (pre : List Nat) (W : World) : Prop :=
  w.heap.size + 5 ≤ q ∧ w.heap.size + 5 ≤ W.heap.size ∧ Row W (w.heap.size + 1) 25 #[.int .u64 high] ∧ Row W (w.heap.size + 1 + 1) 4 #[.bool has] ∧ Below w.heap.size w W ∧
  ∃ v, Row W (w.heap.size + 1 + 1 + 1) 101 #[v] ∧ W.ownsRow (w.heap.size + 5) 105 2 v (actL n high has pre).length (flatE (actL n high has pre)) ∧ ∀ g, v.ownBlock = some g → g < q
theorem infoEntry : (Tryz.prog.info? 105).map (fun i => (i.zero, i.size, i.bytes)) = some (some (.agg #[.int .u64 0, .int .u64 0]), 2, 16) := by kernel_rfl
end Go.Proofs.YtfdngoificpjfaaGreatDoor
/- Lists of entries, as they lie; the document's Same; of any two lists; no conditions but on memory. -/
namespace Go.Proofs.YtfdngoificpjfaaGreatDoor
open Go.RowKit
set_option linter.unusedVariables false
/-- A slice of entries that reads as a list. -/
def EntAt (w : World) (v : Value) (l : List (Int × Int)) : Prop :=
  ∃ A cap, v = .slice A l.length cap ∧ (0 < l.length → ∃ g o, A = some ⟨g, o, none⟩ ∧ ∀ i e, l[i]? = some e → w.cell? ⟨g, o + i * 2, none⟩ = some (uw e.1) ∧ w.cell? ⟨g, o + i * 2 + 1, none⟩ = some (uw e.2))
theorem EntAt.low {w w' : World} {v : Value} {l : List (Int × Int)} (h : EntAt w v l) (hb : Below w.heap.size w w') : EntAt w' v l := by
  obtain ⟨A, cap, rfl, h⟩ := h
  refine ⟨A, cap, rfl, fun h0 => ?_⟩
  obtain ⟨g, o, rfl, hc⟩ := h h0
  refine ⟨g, o, rfl, fun i e he => ?_⟩
  obtain ⟨c1, c2⟩ := hc i e he
  exact ⟨(hb.cell (p := ⟨g, o + i * 2, none⟩) (w.block_lt_of_cell? _ c1)).trans c1, (hb.cell (p := ⟨g, o + i * 2 + 1, none⟩) (w.block_lt_of_cell? _ c2)).trans c2⟩
theorem ent_own {w : World} {B : Nat} {v : Value} {l : List (Int × Int)} (h : w.ownsRow B 105 2 v l.length (flatE l)) : EntAt w v l := by
  rcases h.2 with ⟨rfl, h0⟩ | ⟨g, cap, cur, rfl, _, _, _⟩
  · exact ⟨none, 0, by rw [h0], fun h1 => by omega⟩
  · refine ⟨_, cap, rfl, fun h0 => ⟨g, 0, rfl, fun i e he => ?_⟩⟩
    obtain ⟨f1, f2⟩ := flatE_at l i e he
    have c1 := h.cells (g := g) rfl _ _ f1
    have c2 := h.cells (g := g) rfl _ _ f2
    rw [Addr.add_mid] at c1 c2
    exact ⟨c1, by rw [Nat.add_assoc]; exact c2⟩
set_option maxRecDepth 100000 in
theorem eqEnt (a b c d : Int) (w : World) : (Op.equalIn 10000 105 (.agg #[.int .u64 a, .int .u64 b]) (.agg #[.int .u64 c, .int .u64 d])).run Tryz.prog w = .ok (a == c && b == d) w := by
  have u3 := Tryz.underlying25
  have a3 := Tryz.isAgg25
  have z3 := Tryz.sizeOf25
  have u4 := Tryz.underlying39
  have a4 := Tryz.isAgg39
  have z4 := Tryz.sizeOf39
  have hS : Tryz.prog.underlying 105 = some (.struct (Tryz.prog.fieldsOf 105)) := by kernel_rfl
  have hp : Tryz.prog.stoodInHeld 105 = false := by kernel_rfl
  rw [show (10000 : Nat) = 9999 + 1 from rfl, run_equalIn_agg w 9999 105 _ _ hS hp]
  simp only [Program.fieldsOf, Tryz.underlying105]
  go_simp
  by_cases h1 : a = c <;> by_cases h2 : b = d <;> simp [h1, h2]
theorem ext_ent {l m : List (Int × Int)} (hl : l.length = m.length) (h : ∀ j, j < l.length → l.getD j (0, 0) = m.getD j (0, 0)) : l = m := by
  apply List.ext_getElem hl
  intro i h1 h2
  have := h i h1
  rw [List.getD_eq_getElem?_getD, List.getD_eq_getElem?_getD, List.getElem?_eq_getElem h1, List.getElem?_eq_getElem h2] at this
  exact this
theorem getD_ent {l : List (Int × Int)} {k : Nat} (h : k < l.length) : l[k]? = some (l.getD k (0, 0)) := by
  rw [List.getD_eq_getElem?_getD, List.getElem?_eq_getElem h]
  rfl
end Go.Proofs.YtfdngoificpjfaaGreatDoor
/- A node is equal to itself, and so are twenty-four words; no conditions. -/
namespace Go.Proofs.YtfdngoificpjfaaGreatDoor
open Go.RowKit
set_option linter.unusedVariables false
set_option linter.unusedSimpArgs false
theorem infU : (Tryz.prog.info? 25).map (fun i => (i.zero, i.size, i.bytes)) = some (some (.int .u64 0), 1, 8) := by kernel_rfl
theorem infA : (Tryz.prog.info? 39).map (fun i => (i.zero, i.size, i.bytes)) = some (some (.int .u64 0), 1, 8) := by kernel_rfl
theorem celU : Tryz.prog.cellsOf 25 = 1 := by kernel_rfl
theorem celA : Tryz.prog.cellsOf 39 = 1 := by kernel_rfl
theorem plnU : Tryz.prog.plainKey 25 = true := by kernel_rfl
theorem plnA : Tryz.prog.plainKey 39 = true := by kernel_rfl
theorem itemsG (dd : Nat) {e : TypeId} (he : Tryz.prog.plainKey e = true) (hu : Tryz.prog.underlying e = some (.int .u64)) (xs : Array Value) (w : World) : ∀ is : List Nat, (∀ i ∈ is, ∃ x, xs[i]? = some (.int .u64 x)) → (Op.eqItems (dd + 1) e 1 xs xs is).run Tryz.prog w = .ok true w
  | [], _ => by simp [Op.eqItems]
  | i :: is, h => by
    obtain ⟨x, hx⟩ := h i (by simp)
    have hp := run_part_plain (P := Tryz.prog) w he (xs := xs) (off := i) hx
    have hq := run_equalIn_int (P := Tryz.prog) w dd e .u64 .u64 x x hu
    simp only [beq_self_eq_true] at hq
    have hi := itemsG dd he hu xs w is (fun j hj => h j (by simp [hj]))
    simp only [Op.eqItems, Sem.run_bind, Nat.mul_one, hp, Result.andThen_ok, hq, Bool.not_true, Bool.false_eq_true, if_false, hi]
theorem eqArr (dd : Nat) {t e : TypeId} {n : Nat} (ht : Tryz.prog.underlying t = some (.array n e)) (hi : (Tryz.prog.info? e).map (fun i => (i.zero, i.size, i.bytes)) = some (some (.int .u64 0), 1, 8)) (hc : Tryz.prog.cellsOf e = 1) (he : Tryz.prog.plainKey e = true) (hu : Tryz.prog.underlying e = some (.int .u64))
    (xs : Array Value) (h : ∀ i, i < n → ∃ x, xs[i]? = some (.int .u64 x)) (w : World) : (Op.equalIn (dd + 2) t (.agg xs) (.agg xs)).run Tryz.prog w = .ok true w := by
  obtain ⟨i0, hi0, hz0, hz1, hz2⟩ := info_parts hi
  rw [run_equalIn_array (P := Tryz.prog) w (dd + 1) xs xs ht hi0, hc]
  exact itemsG dd he hu xs w _ (fun i hi => h i (List.mem_range.1 hi))
theorem eqK (n : Nd) (w : World) : (Op.equalIn 9999 43 (.agg (List.take 8 (List.drop 5 n.cl)).toArray) (.agg (List.take 8 (List.drop 5 n.cl)).toArray)).run Tryz.prog w = .ok true w :=
  eqArr 9997 Tryz.underlying43 infU celU plnU Tryz.underlying25 _ (fun i hi => by rcases lt8 hi with rfl | rfl | rfl | rfl | rfl | rfl | rfl | rfl <;> exact ⟨_, rfl⟩) w
theorem eqP (n : Nd) (w : World) : (Op.equalIn 9999 44 (.agg (List.take 8 (List.drop 13 n.cl)).toArray) (.agg (List.take 8 (List.drop 13 n.cl)).toArray)).run Tryz.prog w = .ok true w :=
  eqArr 9997 Tryz.underlying44 infA celA plnA Tryz.underlying39 _ (fun i hi => by rcases lt8 hi with rfl | rfl | rfl | rfl | rfl | rfl | rfl | rfl <;> exact ⟨_, rfl⟩) w
set_option maxRecDepth 100000 in
theorem eqNd (n : Nd) (w : World) : (Op.equalIn 10000 46 n.V n.V).run Tryz.prog w = .ok true w := by
  have hS : Tryz.prog.underlying 46 = some (.struct (Tryz.prog.fieldsOf 46)) := by kernel_rfl
  have hp : Tryz.prog.stoodInHeld 46 = false := by kernel_rfl
  have g0 : n.cl[0]? = some (.int .i64 n.l) := rfl
  have g1 : n.cl[1]? = some (.int .u64 n.lo) := rfl
  have g2 : n.cl[2]? = some (.int .u64 n.nx) := rfl
  have g3 : n.cl[3]? = some (.int .u64 n.ct) := rfl
  have g4 : n.cl[4]? = some (.int .u64 n.fi) := rfl
  have e0 := fun W => run_equalIn_int (P := Tryz.prog) W 9998 3 .i64 .i64 n.l n.l Tryz.underlying3
  have e1 := fun W (x : Int) => run_equalIn_int (P := Tryz.prog) W 9998 25 .u64 .u64 x x Tryz.underlying25
  have e2 := fun W (x : Int) => run_equalIn_int (P := Tryz.prog) W 9998 39 .u64 .u64 x x Tryz.underlying39
  have e3 := fun W => eqK n W
  have e4 := fun W => eqP n W
  unfold Nd.V
  rw [show (10000 : Nat) = 9999 + 1 from rfl, run_equalIn_agg w 9999 46 _ _ hS hp]
  simp only [Program.fieldsOf, Tryz.underlying46]
  go_simp
theorem eq_node (n : Nd) (w : World) : (binOp .eql 46 n.V n.V).run Tryz.prog w = .ok (.bool true) w := by
  unfold Nd.V
  rw [run_eql_struct]
  have := eqNd n w
  unfold Nd.V at this
  rw [this]
  rfl
theorem neq_node (n : Nd) (w : World) : (binOp .neq 46 n.V n.V).run Tryz.prog w = .ok (.bool false) w := by
  unfold Nd.V
  rw [run_neq_struct]
  have := eqNd n w
  unfold Nd.V at this
  rw [this]
  rfl
theorem eqW (l : List Int) (hl : l.length = 24) (w : World) : (Op.equalIn 10000 149 (.agg (l.map uw).toArray) (.agg (l.map uw).toArray)).run Tryz.prog w = .ok true w :=
  eqArr 9998 Tryz.underlying149 infU celU plnU Tryz.underlying25 _ (fun i hi => ⟨wAt l i, by rw [List.getElem?_toArray]; exact wAt_get hl hi⟩) w
theorem eq_w24 (l : List Int) (hl : l.length = 24) (w : World) : (binOp .eql 149 (.agg (l.map uw).toArray) (.agg (l.map uw).toArray)).run Tryz.prog w = .ok (.bool true) w := by
  rw [run_eql_struct, eqW l hl]
  rfl
theorem neq_w24 (l : List Int) (hl : l.length = 24) (w : World) : (binOp .neq 149 (.agg (l.map uw).toArray) (.agg (l.map uw).toArray)).run Tryz.prog w = .ok (.bool false) w := by
  rw [run_neq_struct, eqW l hl]
  rfl
/-- A node's words, as integers. -/
def wi (n : Nd) : List Int := if isLv n = true then [5495893775785918464 + n.l, n.lo, n.nx, n.ct, n.fi, 0, 0, 0, n.k0, n.p0, n.k1, n.p1, n.k2, n.p2, n.k3, n.p3, n.k4, n.p4, n.k5, n.p5, n.k6, n.p6, n.k7, n.p7]
  else [0, 0, 0, 0, 0, 0, 0, 0, 0, 0, 0, 0, 0, 0, 0, 0, 0, 0, 0, 0, 0, 0, 0, 0]
theorem wi_len (n : Nd) : (wi n).length = 24 := by unfold wi; split <;> rfl
theorem wi_words (n : Nd) : wordsL n = (wi n).map uw := by unfold wordsL wi; split <;> rfl
theorem wi_of (n : Nd) : (0 ≤ wAt (wi n) 0 ∧ wAt (wi n) 0 < 18446744073709551616) ∧ ofR (wi n) = if isLv n = true then (n, 0) else (zeroNd, 11) := by
  by_cases h : isLv n = true
  · have hb : 0 ≤ n.l ∧ n.l ≤ 15 := by simpa [isLv] using h
    have e : wi n = [5495893775785918464 + n.l, n.lo, n.nx, n.ct, n.fi, 0, 0, 0, n.k0, n.p0, n.k1, n.p1, n.k2, n.p2, n.k3, n.p3, n.k4, n.p4, n.k5, n.p5, n.k6, n.p6, n.k7, n.p7] := by unfold wi; rw [if_pos h]
    have e0 : wAt (wi n) 0 = 5495893775785918464 + n.l := by rw [e]; rfl
    refine ⟨by rw [e0]; omega, ?_⟩
    unfold ofR
    rw [e0, if_pos (by omega), if_pos h, show 5495893775785918464 + n.l - 5495893775785918464 = n.l by omega, e]
    cases n
    simp [ofN, Nd.put, wAt]
  · have e : wi n = [0, 0, 0, 0, 0, 0, 0, 0, 0, 0, 0, 0, 0, 0, 0, 0, 0, 0, 0, 0, 0, 0, 0, 0] := by unfold wi; rw [if_neg h]
    have e0 : wAt (wi n) 0 = 0 := by rw [e]; rfl
    refine ⟨by rw [e0]; omega, ?_⟩
    unfold ofR
    rw [e0, if_neg (by omega), if_neg h]
end Go.Proofs.YtfdngoificpjfaaGreatDoor
/- A node without what stands behind its entries: Trim of the document, and of the law; no conditions. -/
namespace Go.Proofs.YtfdngoificpjfaaGreatDoor
open Go.RowKit
set_option linter.unusedVariables false
attribute [local go_sem] Oper.semAt_some
/-- A node that has the first a keys and the first b pointers, noughts behind. -/
def Nd.tr (n : Nd) (a b : Nat) : Nd := ⟨n.l, n.lo, n.nx, n.ct, n.fi, if 0 < a then n.k0 else 0, if 1 < a then n.k1 else 0, if 2 < a then n.k2 else 0, if 3 < a then n.k3 else 0, if 4 < a then n.k4 else 0, if 5 < a then n.k5 else 0, if 6 < a then n.k6 else 0, if 7 < a then n.k7 else 0, if 0 < b then n.p0 else 0, if 1 < b then n.p1 else 0, if 2 < b then n.p2 else 0, if 3 < b then n.p3 else 0, if 4 < b then n.p4 else 0, if 5 < b then n.p5 else 0, if 6 < b then n.p6 else 0, if 7 < b then n.p7 else 0⟩
theorem Nd.tr_key (n : Nd) (a b : Nat) {i : Nat} (hi : i < 8) : (n.tr a b).key i = if i < a then n.key i else 0 := by
  rcases lt8 hi with rfl | rfl | rfl | rfl | rfl | rfl | rfl | rfl <;> rfl
theorem Nd.tr_ptr (n : Nd) (a b : Nat) {i : Nat} (hi : i < 8) : (n.tr a b).ptr i = if i < b then n.ptr i else 0 := by
  rcases lt8 hi with rfl | rfl | rfl | rfl | rfl | rfl | rfl | rfl <;> rfl
/-- The words ahead of the entries. -/
def Nd.hd (n : Nd) : Int × Int × Int × Int × Int := (n.l, n.lo, n.nx, n.ct, n.fi)
theorem Nd.ext_of {n m : Nd} (h : n.hd = m.hd) (hk : ∀ i, i < 8 → n.key i = m.key i) (hp : ∀ i, i < 8 → n.ptr i = m.ptr i) : n = m := by
  obtain ⟨l, lo, nx, ct, fi, k0, k1, k2, k3, k4, k5, k6, k7, p0, p1, p2, p3, p4, p5, p6, p7⟩ := n
  obtain ⟨l', lo', nx', ct', fi', k0', k1', k2', k3', k4', k5', k6', k7', p0', p1', p2', p3', p4', p5', p6', p7'⟩ := m
  simp only [Nd.hd, Prod.mk.injEq] at h
  obtain ⟨rfl, rfl, rfl, rfl, rfl⟩ := h
  have a0 : k0 = k0' := hk 0 (by omega)
  have a1 : k1 = k1' := hk 1 (by omega)
  have a2 : k2 = k2' := hk 2 (by omega)
  have a3 : k3 = k3' := hk 3 (by omega)
  have a4 : k4 = k4' := hk 4 (by omega)
  have a5 : k5 = k5' := hk 5 (by omega)
  have a6 : k6 = k6' := hk 6 (by omega)
  have a7 : k7 = k7' := hk 7 (by omega)
  have b0 : p0 = p0' := hp 0 (by omega)
  have b1 : p1 = p1' := hp 1 (by omega)
  have b2 : p2 = p2' := hp 2 (by omega)
  have b3 : p3 = p3' := hp 3 (by omega)
  have b4 : p4 = p4' := hp 4 (by omega)
  have b5 : p5 = p5' := hp 5 (by omega)
  have b6 : p6 = p6' := hp 6 (by omega)
  have b7 : p7 = p7' := hp 7 (by omega)
  subst a0 a1 a2 a3 a4 a5 a6 a7 b0 b1 b2 b3 b4 b5 b6 b7
  rfl
/-- A key put. -/
def Nd.sk (n : Nd) (k : Nat) (v : Int) : Nd := match k with
  | 0 => { n with k0 := v } | 1 => { n with k1 := v } | 2 => { n with k2 := v } | 3 => { n with k3 := v } | 4 => { n with k4 := v } | 5 => { n with k5 := v } | 6 => { n with k6 := v } | _ => { n with k7 := v }
/-- A pointer put. -/
def Nd.sp (n : Nd) (k : Nat) (v : Int) : Nd := match k with
  | 0 => { n with p0 := v } | 1 => { n with p1 := v } | 2 => { n with p2 := v } | 3 => { n with p3 := v } | 4 => { n with p4 := v } | 5 => { n with p5 := v } | 6 => { n with p6 := v } | _ => { n with p7 := v }
theorem Nd.sk_cl (n : Nd) {k : Nat} (hk : k < 8) (v : Int) : n.cl.toArray.setIfInBounds (5 + k) (uw v) = (n.sk k v).cl.toArray := by
  rcases lt8 hk with rfl | rfl | rfl | rfl | rfl | rfl | rfl | rfl <;> rfl
theorem Nd.sp_cl (n : Nd) {k : Nat} (hk : k < 8) (v : Int) : n.cl.toArray.setIfInBounds (13 + k) (uw v) = (n.sp k v).cl.toArray := by
  rcases lt8 hk with rfl | rfl | rfl | rfl | rfl | rfl | rfl | rfl <;> rfl
theorem Nd.sk_hd (n : Nd) {k : Nat} (hk : k < 8) (v : Int) : (n.sk k v).hd = n.hd := by
  rcases lt8 hk with rfl | rfl | rfl | rfl | rfl | rfl | rfl | rfl <;> rfl
theorem Nd.sp_hd (n : Nd) {k : Nat} (hk : k < 8) (v : Int) : (n.sp k v).hd = n.hd := by
  rcases lt8 hk with rfl | rfl | rfl | rfl | rfl | rfl | rfl | rfl <;> rfl
theorem Nd.sk_key (n : Nd) {k i : Nat} (hk : k < 8) (hi : i < 8) (v : Int) : (n.sk k v).key i = if i = k then v else n.key i := by
  rcases lt8 hk with rfl | rfl | rfl | rfl | rfl | rfl | rfl | rfl <;> rcases lt8 hi with rfl | rfl | rfl | rfl | rfl | rfl | rfl | rfl <;> rfl
theorem Nd.sk_ptr (n : Nd) {k i : Nat} (hk : k < 8) (v : Int) : (n.sk k v).ptr i = n.ptr i := by
  rcases lt8 hk with rfl | rfl | rfl | rfl | rfl | rfl | rfl | rfl <;> rfl
theorem Nd.sp_ptr (n : Nd) {k i : Nat} (hk : k < 8) (hi : i < 8) (v : Int) : (n.sp k v).ptr i = if i = k then v else n.ptr i := by
  rcases lt8 hk with rfl | rfl | rfl | rfl | rfl | rfl | rfl | rfl <;> rcases lt8 hi with rfl | rfl | rfl | rfl | rfl | rfl | rfl | rfl <;> rfl
theorem Nd.sp_key (n : Nd) {k i : Nat} (hk : k < 8) (v : Int) : (n.sp k v).key i = n.key i := by
  rcases lt8 hk with rfl | rfl | rfl | rfl | rfl | rfl | rfl | rfl <;> rfl
theorem results_node1 {fn : Func} {p : Tmp} (h : fn.results = #[.cell p 46]) (tmps : Array Value) (w : World) (g : Nat) (n : Nd)
    (hp : tmps.getD p undef = .pointer (some ⟨g, 0, none⟩)) (hg : NdAt w g n) :
    (results fn tmps).run Tryz.prog w = .ok n.V w :=
  results_cell_row h tmps w g 46 n.cl.toArray _ _ hp hg Tryz.underlying46 rfl ndI
/-- What a trim's loop has done: of the keys from a place on, and of the pointers. -/
def TrK (n m : Nd) (i : Nat) : Prop := m.hd = n.hd ∧ (∀ j, j < 8 → m.ptr j = n.ptr j) ∧ ∀ j, j < 8 → m.key j = if n.len ≤ j ∧ j < i then 0 else n.key j
def TrP (n m : Nd) (i : Nat) : Prop := m.hd = n.hd ∧ (∀ j, j < 8 → m.key j = n.key j) ∧ ∀ j, j < 8 → m.ptr j = if n.len ≤ j ∧ j < i then 0 else n.ptr j
def TrB (n m : Nd) (i : Nat) : Prop := m.hd = n.hd ∧ (∀ j, j < 8 → m.key j = if n.len < j ∧ j < i then 0 else n.key j) ∧ ∀ j, j < 8 → m.ptr j = if n.len ≤ j then 0 else n.ptr j
theorem TrK.step {n m : Nd} {i : Nat} (h : TrK n m i) (hi : i < 8) (hl : n.len ≤ i) : TrK n (m.sk i 0) (i + 1) := by
  refine ⟨(m.sk_hd hi 0).trans h.1, fun j hj => (m.sk_ptr hi 0).trans (h.2.1 j hj), fun j hj => ?_⟩
  rw [m.sk_key hi hj, h.2.2 j hj]
  by_cases e : j = i
  · subst e; rw [if_pos rfl, if_pos ⟨hl, by omega⟩]
  · rw [if_neg e]
    by_cases h1 : n.len ≤ j ∧ j < i
    · rw [if_pos h1, if_pos ⟨h1.1, by omega⟩]
    · rw [if_neg h1, if_neg (by omega)]
theorem TrP.step {n m : Nd} {i : Nat} (h : TrP n m i) (hi : i < 8) (hl : n.len ≤ i) : TrP n (m.sp i 0) (i + 1) := by
  refine ⟨(m.sp_hd hi 0).trans h.1, fun j hj => (m.sp_key hi 0).trans (h.2.1 j hj), fun j hj => ?_⟩
  rw [m.sp_ptr hi hj, h.2.2 j hj]
  by_cases e : j = i
  · subst e; rw [if_pos rfl, if_pos ⟨hl, by omega⟩]
  · rw [if_neg e]
    by_cases h1 : n.len ≤ j ∧ j < i
    · rw [if_pos h1, if_pos ⟨h1.1, by omega⟩]
    · rw [if_neg h1, if_neg (by omega)]
theorem TrB.step {n m : Nd} {i : Nat} (h : TrB n m i) (hi : i < 8) (hl : n.len ≤ i) : TrB n (if n.len < i then (m.sp i 0).sk i 0 else m.sp i 0) (i + 1) := by
  have hp : ∀ j, j < 8 → (m.sp i 0).ptr j = if n.len ≤ j then 0 else n.ptr j := fun j hj => by
    rw [m.sp_ptr hi hj, h.2.2 j hj]
    by_cases e : j = i
    · subst e; rw [if_pos rfl, if_pos hl]
    · rw [if_neg e]
  by_cases hlt : n.len < i
  · rw [if_pos hlt]
    refine ⟨((m.sp i 0).sk_hd hi 0).trans ((m.sp_hd hi 0).trans h.1), fun j hj => ?_, fun j hj => ((m.sp i 0).sk_ptr hi 0).trans (hp j hj)⟩
    rw [(m.sp i 0).sk_key hi hj, m.sp_key hi, h.2.1 j hj]
    by_cases e : j = i
    · subst e; rw [if_pos rfl, if_pos ⟨hlt, by omega⟩]
    · rw [if_neg e]
      by_cases h1 : n.len < j ∧ j < i
      · rw [if_pos h1, if_pos ⟨h1.1, by omega⟩]
      · rw [if_neg h1, if_neg (by omega)]
  · rw [if_neg hlt]
    refine ⟨(m.sp_hd hi 0).trans h.1, fun j hj => ?_, hp⟩
    rw [m.sp_key hi, h.2.1 j hj]
    by_cases h1 : n.len < j ∧ j < i
    · omega
    · rw [if_neg h1, if_neg (by omega)]
/-- Behind the stores the node has as many entries as it had. -/
theorem len_same {n m : Nd} (h : ∀ j, j < 8 → m.ptr j = if n.len ≤ j then 0 else n.ptr j) : m.len = n.len := by
  refine m.len_eq n.len_le (fun i hi => ?_) (fun h8 => ?_)
  · have := n.len_le
    rw [h i (by omega), if_neg (by omega)]
    exact n.len_before hi
  · rw [h _ h8, if_pos (Nat.le_refl _)]
theorem TrP.len {n m : Nd} {i : Nat} (h : TrP n m i) : m.len = n.len := by
  refine m.len_eq n.len_le (fun j hj => ?_) (fun h8 => ?_)
  · have := n.len_le
    rw [h.2.2 j (by omega), if_neg (by omega)]
    exact n.len_before hj
  · rw [h.2.2 _ h8]
    split
    · rfl
    · exact n.len_at h8
theorem TrP.zero {n m : Nd} {i : Nat} (h : TrP n m i) (hi : i < 8) (hl : n.len < i) : m.ptr (i - 1) = 0 := by rw [h.2.2 _ (by omega), if_pos (by omega)]
end Go.Proofs.YtfdngoificpjfaaGreatDoor
/- The document's Find and Last: of any node, any key; without conditions. -/
namespace Go.Proofs.YtfdngoificpjfaaGreatDoor
open Go.RowKit
set_option linter.unusedVariables false
theorem vp_full (n : Nd) : n.vpTo n.len = n.vp := rfl
/-- The first of these places with a key; below nought: none. -/
def fndL (n : Nd) (key : Int) (l : List Nat) : Int := match l.find? (fun p => n.key p == key) with | some p => (p : Int) | none => -1
theorem fnd_hit {n : Nd} {key : Int} {i : Nat} (hi : i < n.len) (ho : n.ok i = true) (hk : n.key i = key) (h : ∀ p ∈ n.vpTo i, n.key p ≠ key) : fndL n key n.vp = (i : Int) := by
  obtain ⟨r, hr⟩ := n.vpTo_pre (show i + 1 ≤ n.len from hi)
  unfold fndL
  rw [← vp_full, ← hr, n.vpTo_yes ho, List.find?_append, List.find?_append, List.find?_eq_none.2 (fun y hy => by simpa using h y hy)]
  simp [hk]
theorem fnd_none {n : Nd} {key : Int} (h : ∀ p ∈ n.vp, n.key p ≠ key) : fndL n key n.vp = -1 := by
  unfold fndL
  rw [List.find?_eq_none.2 (fun y hy => by simpa using h y hy)]
end Go.Proofs.YtfdngoificpjfaaGreatDoor
/- slices.Contains of addresses; rise, unlike, May: of any node; without conditions. -/
namespace Go.Proofs.YtfdngoificpjfaaGreatDoor
open Go.RowKit
set_option linter.unusedVariables false
/-- A slice of addresses that reads as a list. -/
def AdsAt (w : World) (v : Value) (l : List Int) : Prop :=
  ∃ A cap, v = .slice A l.length cap ∧ (0 < l.length → ∃ g o, A = some ⟨g, o, none⟩ ∧ ∀ i x, l[i]? = some x → w.cell? ⟨g, o + i, none⟩ = some (uw x))
end Go.Proofs.YtfdngoificpjfaaGreatDoor
/- rise, unlike: of any node and any list of entries, few; without conditions else. -/
namespace Go.Proofs.YtfdngoificpjfaaGreatDoor
open Go.RowKit
set_option linter.unusedVariables false
/-- Do keys rise, from a least one on? -/
def riseB : Int → Bool → List (Int × Int) → Bool
  | _, _, [] => true
  | a, c, e :: t => if e.1 < a ∨ (e.1 = a ∧ c = false) then false else riseB e.1 false t
/-- The least key and whether it may be met itself, behind so many entries. -/
def riseS (a : Int) (c : Bool) (l : List (Int × Int)) (k : Nat) : Int × Bool := if k = 0 then (a, c) else ((l.getD (k - 1) (0, 0)).1, false)
theorem rise_drop (l : List (Int × Int)) : ∀ (k : Nat) (a : Int) (c : Bool), k < l.length →
    riseB a c (l.drop k) = if (l.getD k (0, 0)).1 < a ∨ ((l.getD k (0, 0)).1 = a ∧ c = false) then false else riseB (l.getD k (0, 0)).1 false (l.drop (k + 1)) := by
  intro k a c hk
  rw [List.drop_eq_getElem_cons hk, List.getD_eq_getElem?_getD, List.getElem?_eq_getElem hk]
  rfl
/-- Are a First and the pointers of entries all unlike? -/
def unlB (f : Int) (l : List (Int × Int)) : Bool := decide (f :: l.map (·.2)).Nodup
theorem unl_no {f : Int} {l : List (Int × Int)} {k : Nat} (hk : k < l.length) (h : (l.getD k (0, 0)).2 ∈ f :: (l.take k).map (·.2)) : unlB f l = false := by
  unfold unlB
  rw [decide_eq_false_iff_not]
  intro hn
  have hs : l = l.take k ++ l.getD k (0, 0) :: l.drop (k + 1) := by
    rw [List.getD_eq_getElem?_getD, List.getElem?_eq_getElem hk]
    exact (List.take_append_drop k l).symm.trans (by rw [List.drop_eq_getElem_cons hk]; rfl)
  rw [hs, List.map_append, List.map_cons, ← List.cons_append, List.nodup_append] at hn
  exact hn.2.2 _ h _ (by simp) rfl
theorem unl_step {f : Int} {l : List (Int × Int)} {k : Nat} (hk : k < l.length) (h0 : (f :: (l.take k).map (·.2)).Nodup) (h : ¬ (l.getD k (0, 0)).2 ∈ f :: (l.take k).map (·.2)) : (f :: (l.take (k + 1)).map (·.2)).Nodup := by
  have : l.take (k + 1) = l.take k ++ [l.getD k (0, 0)] := by
    rw [List.take_succ_eq_append_getElem hk, List.getD_eq_getElem?_getD, List.getElem?_eq_getElem hk]
    rfl
  rw [this, List.map_append, ← List.cons_append, List.nodup_append]
  refine ⟨h0, by simp, fun a ha b hb e => ?_⟩
  simp at hb
  subst hb e
  exact h ha
end Go.Proofs.YtfdngoificpjfaaGreatDoor
/- unlike: are a node's First and the pointers of entries all unlike; of any node, few entries; without conditions else. -/
namespace Go.Proofs.YtfdngoificpjfaaGreatDoor
open Go.RowKit
set_option linter.unusedVariables false
theorem infoAddr8 : (Tryz.prog.info? 39).map (fun i => (i.zero, i.size, i.bytes)) = some (some (.int .u64 0), 1, 8) := by kernel_rfl
def metL (f : Int) (l : List (Int × Int)) (k : Nat) : List Int := f :: (l.take k).map (·.2)
theorem metL_len (f : Int) (l : List (Int × Int)) {k : Nat} (hk : k ≤ l.length) : (metL f l k).length = k + 1 := by simp [metL]; omega
theorem metL_succ (f : Int) (l : List (Int × Int)) {k : Nat} (hk : k < l.length) : metL f l (k + 1) = metL f l k ++ [(l.getD k (0, 0)).2] := by
  have : l.take (k + 1) = l.take k ++ [l.getD k (0, 0)] := by
    rw [List.take_succ_eq_append_getElem hk, List.getD_eq_getElem?_getD, List.getElem?_eq_getElem hk]
    rfl
  unfold metL
  rw [this, List.map_append]
  rfl
end Go.Proofs.YtfdngoificpjfaaGreatDoor
/- May: may a node be, by any bound; of any node; without conditions. -/
namespace Go.Proofs.YtfdngoificpjfaaGreatDoor
open Go.RowKit
set_option linter.unusedVariables false
/-- May a node be? -/
def Nd.may (n : Nd) (high : Int) (has : Bool) : Bool :=
  (decide (0 ≤ n.l) && decide (n.l ≤ 15)) && (n.fi != 0) && !(has && decide (high ≤ n.lo)) && decide (n.len ≤ n.es.length + 1) && riseB n.lo (decide (n.l = 0)) n.es && unlB n.fi n.es
end Go.Proofs.YtfdngoificpjfaaGreatDoor
/- Invalid: the first place of an entry that is not valid; of any node; without conditions. -/
namespace Go.Proofs.YtfdngoificpjfaaGreatDoor
open Go.RowKit Go.Shelf
set_option linter.unusedVariables false
attribute [local go_sem] Oper.semAt_some

/-- The first place of an entry that is not valid. -/
def Nd.inv (n : Nd) : Int := match (List.range n.len).find? (fun i => !n.ok i) with | some i => (i : Int) | none => -1
theorem Nd.inv_at (n : Nd) {m : Nat} (hm : m < n.len) (hno : n.ok m = false) (hall : ∀ i, i < m → n.ok i = true) : n.inv = (m : Int) := by
  have : (List.range n.len).find? (fun i => !n.ok i) = some m := by
    rw [List.find?_range_eq_some]
    exact ⟨by simp [hno], by simpa using hm, fun j hj => by simp [hall j hj]⟩
  unfold Nd.inv
  rw [this]
theorem Nd.inv_none (n : Nd) (hall : ∀ i, i < n.len → n.ok i = true) : n.inv = -1 := by
  have : (List.range n.len).find? (fun i => !n.ok i) = none := by
    rw [List.find?_range_eq_none]
    exact fun j hj => by simp [hall j hj]
  unfold Nd.inv
  rw [this]
theorem Nd.vp_sorted (n : Nd) : n.vp.Pairwise (· < ·) := List.pairwise_lt_range.filter _
theorem Nd.mem_vp (n : Nd) {p : Nat} : p ∈ n.vp ↔ p < n.len ∧ n.ok p = true := by simp [Nd.vp, Nd.vpTo]
theorem inv_stop {n : Nd} {m p : Nat} (h : List.range m ++ [p] <+: n.vp) (hp : p ≠ m) : n.inv = (m : Int) := by
  obtain ⟨r, hr⟩ := h
  have hs := n.vp_sorted
  rw [← hr, List.append_assoc, List.pairwise_append] at hs
  obtain ⟨_, hs2, hs3⟩ := hs
  have hpv := (n.mem_vp (p := p)).1 (by rw [← hr]; simp)
  have hall : ∀ i, i < m → n.ok i = true := fun i hi => ((n.mem_vp (p := i)).1 (by rw [← hr]; simp [hi])).2
  have hpm : m < p := by
    by_cases e : p < m
    · exact absurd (hs3 p (by simpa using e) p (by simp)) (by omega)
    · omega
  refine n.inv_at (by omega) ?_ hall
  by_cases e : n.ok m = true
  · have hm : m ∈ n.vp := n.mem_vp.2 ⟨by omega, e⟩
    rw [← hr, List.append_assoc, List.mem_append] at hm
    rcases hm with hm | hm
    · simp at hm
    · rcases List.mem_cons.1 hm with hm | hm
      · omega
      · have := (List.pairwise_cons.1 hs2).1 m hm
        omega
  · simpa using e
theorem inv_done {n : Nd} {m : Nat} (h : n.vp = List.range m) : (m < n.len → n.inv = (m : Int)) ∧ (n.len ≤ m → n.inv = -1) := by
  have hm : ∀ i, i < m ↔ (i < n.len ∧ n.ok i = true) := fun i => by rw [← n.mem_vp, h]; simp
  constructor
  · intro hl
    refine n.inv_at hl ?_ fun i hi => ((hm i).1 hi).2
    by_cases e : n.ok m = true
    · exact absurd ((hm m).2 ⟨hl, e⟩) (by omega)
    · simpa using e
  · intro hl
    exact n.inv_none fun i hi => ((hm i).1 (by omega)).2
end Go.Proofs.YtfdngoificpjfaaGreatDoor
/- Nodes as lists of places; what single stores do to them; plain facts, without conditions. -/
namespace Go.Proofs.YtfdngoificpjfaaGreatDoor
open Go.RowKit
set_option linter.unusedVariables false
def ll : List (Int × Int) → Nat
  | [] => 0
  | e :: t => if e.2 = 0 then 0 else ll t + 1
def vl : Int → List (Int × Int) → List (Int × Int)
  | _, [] => []
  | a, e :: t => if e.2 = 0 then [] else if e.2 = a then vl e.2 t else e :: vl e.2 t
/-- The pointer ahead of a place of a list. -/
def ahL (a : Int) (l : List (Int × Int)) (i : Nat) : Int := if i = 0 then a else (l.getD (i - 1) (0, 0)).2
theorem ll_le : ∀ l : List (Int × Int), ll l ≤ l.length
  | [] => Nat.le_refl _
  | e :: t => by
    unfold ll
    have := ll_le t
    split <;> simp <;> omega
theorem ll_before : ∀ (l : List (Int × Int)) (i : Nat), i < ll l → (l.getD i (0, 0)).2 ≠ 0
  | [], i, h => by simp [ll] at h
  | e :: t, i, h => by
    unfold ll at h
    split at h
    · omega
    · cases i with
      | zero => simpa using by assumption
      | succ i => simpa using ll_before t i (by omega)
theorem ll_at : ∀ (l : List (Int × Int)), ll l < l.length → (l.getD (ll l) (0, 0)).2 = 0
  | [], h => by simp at h
  | e :: t, h => by
    unfold ll at h ⊢
    split
    · simpa using by assumption
    · rename_i hne
      rw [if_neg hne] at h
      simpa using ll_at t (by simpa using h)
theorem vl_range : ∀ (l : List (Int × Int)) (a : Int), vl a l = ((List.range (ll l)).filter (fun i => (l.getD i (0, 0)).2 != ahL a l i)).map (fun i => l.getD i (0, 0))
  | [], a => rfl
  | e :: t, a => by
    unfold vl ll
    by_cases h0 : e.2 = 0
    · rw [if_pos h0, if_pos h0]; rfl
    · rw [if_neg h0, if_neg h0, List.range_succ_eq_map, List.filter_cons]
      have hs : ((List.map Nat.succ (List.range (ll t))).filter (fun i => ((e :: t).getD i (0, 0)).2 != ahL a (e :: t) i)).map (fun i => (e :: t).getD i (0, 0)) = vl e.2 t := by
        rw [vl_range t e.2, List.filter_map, List.map_map]
        have : ((fun i => ((e :: t).getD i (0, 0)).2 != ahL a (e :: t) i) ∘ Nat.succ) = (fun i => (t.getD i (0, 0)).2 != ahL e.2 t i) := by
          funext i
          simp only [Function.comp]
          cases i with
          | zero => simp [ahL]
          | succ i => simp [ahL]
        rw [this]
        rfl
      by_cases h1 : e.2 = a
      · rw [if_pos h1, if_neg (by simp [ahL, h1])]
        exact hs.symm
      · rw [if_neg h1, if_pos (by simp [ahL, h1]), List.map_cons, hs]
        rfl
/-- A beginning of a node's places is its entries: none is nought, and behind them is the end. -/
def Zok (Z : List (Int × Int)) : Prop := Z = [] ∨ ∃ k t, Z = (k, 0) :: t
def lastP (a : Int) (l : List (Int × Int)) : Int := match l.getLast? with | some e => e.2 | none => a
theorem lastP_nil (a : Int) : lastP a [] = a := rfl
theorem lastP_cons (a : Int) (e : Int × Int) (t : List (Int × Int)) : lastP a (e :: t) = lastP e.2 t := by
  cases t with
  | nil => rfl
  | cons b t => unfold lastP; rw [List.getLast?_cons_cons]; simp [List.getLast?_cons]
theorem lastP_append (a : Int) (l m : List (Int × Int)) : lastP a (l ++ m) = lastP (lastP a l) m := by
  induction l generalizing a with
  | nil => rfl
  | cons e t ih => rw [List.cons_append, lastP_cons, lastP_cons, ih]
/-- No pointer is nought, none is as the one ahead. -/
def Good : Int → List (Int × Int) → Prop
  | _, [] => True
  | a, e :: t => e.2 ≠ 0 ∧ e.2 ≠ a ∧ Good e.2 t
theorem good_append (a : Int) (l m : List (Int × Int)) : Good a (l ++ m) ↔ Good a l ∧ Good (lastP a l) m := by
  induction l generalizing a with
  | nil => simp [Good, lastP_nil]
  | cons e t ih => simp [Good, lastP_cons, ih, and_assoc]
theorem vl_z {Z : List (Int × Int)} (h : Zok Z) (a : Int) : vl a Z = [] ∧ ll Z = 0 := by
  rcases h with rfl | ⟨k, t, rfl⟩ <;> simp [vl, ll]
theorem vl_good {l Z : List (Int × Int)} (hz : Zok Z) : ∀ a, Good a l → vl a (l ++ Z) = l ∧ ll (l ++ Z) = l.length := by
  induction l with
  | nil => intro a _; simpa using vl_z hz a
  | cons e t ih =>
    intro a h
    obtain ⟨h0, h1, h2⟩ := h
    obtain ⟨i1, i2⟩ := ih e.2 h2
    simp [vl, ll, h0, h1, i1, i2]
/-- With one that is not valid between them. -/
theorem vl_gap {A B Z : List (Int × Int)} {x : Int} (hz : Zok Z) : ∀ a, a ≠ 0 → Good a (A ++ B) → vl a (A ++ (x, lastP a A) :: (B ++ Z)) = A ++ B ∧ ll (A ++ (x, lastP a A) :: (B ++ Z)) = A.length + B.length + 1 := by
  induction A with
  | nil =>
    intro a ha h
    obtain ⟨i1, i2⟩ := vl_good hz a h
    simp only [List.nil_append] at i1 i2
    simp only [List.nil_append, lastP_nil, vl, ll, ha, if_false, if_true, i1, i2]
    simp
  | cons e t ih =>
    intro a ha h
    obtain ⟨h0, h1, h2⟩ := h
    obtain ⟨i1, i2⟩ := ih e.2 h0 h2
    simp only [List.cons_append, lastP_cons, vl, ll, h0, h1, if_false, i1, i2, List.length_cons]
    refine ⟨trivial, by omega⟩
/-- A node's places. -/
def Nd.sl (n : Nd) : List (Int × Int) := [(n.k0, n.p0), (n.k1, n.p1), (n.k2, n.p2), (n.k3, n.p3), (n.k4, n.p4), (n.k5, n.p5), (n.k6, n.p6), (n.k7, n.p7)]
theorem Nd.sl_at (n : Nd) {i : Nat} (hi : i < 8) : n.sl.getD i (0, 0) = n.ent i := by
  rcases lt8 hi with rfl | rfl | rfl | rfl | rfl | rfl | rfl | rfl <;> rfl
theorem Nd.sl_len (n : Nd) : n.sl.length = 8 := rfl
theorem Nd.len_ll (n : Nd) : n.len = ll n.sl := by
  have h8 : ll n.sl ≤ 8 := ll_le n.sl
  refine n.len_eq h8 (fun i hi => ?_) (fun h => ?_)
  · have := ll_before n.sl i hi
    rw [n.sl_at (by omega)] at this
    exact this
  · have := ll_at n.sl h
    rw [n.sl_at h] at this
    exact this
theorem Nd.ok_sl (n : Nd) {i : Nat} (hi : i < 8) : n.ok i = ((n.sl.getD i (0, 0)).2 != ahL n.fi n.sl i) := by
  unfold Nd.ok Nd.ahd ahL
  rw [n.sl_at hi]
  cases i with
  | zero => rfl
  | succ i => rw [if_neg (by omega), if_neg (by omega), Nat.add_sub_cancel, n.sl_at (show i < 8 by omega)]; rfl
theorem Nd.es_vl (n : Nd) : n.es = vl n.fi n.sl := by
  rw [vl_range, ← n.len_ll]
  unfold Nd.es Nd.vp Nd.vpTo
  have h8 := n.len_le
  rw [List.filter_congr (fun i hi => n.ok_sl (i := i) (by rw [List.mem_range] at hi; omega))]
  apply List.map_congr_left
  intro i hi
  rw [List.mem_filter, List.mem_range] at hi
  exact (n.sl_at (by omega)).symm
/-- A node that is whole: its entries, and what stands behind them. -/
structure SW (n : Nd) (E Z : List (Int × Int)) : Prop where
  sl : n.sl = E ++ Z
  z : Zok Z
  good : Good n.fi E
theorem SW.es {n : Nd} {E Z : List (Int × Int)} (h : SW n E Z) : n.es = E := by rw [n.es_vl, h.sl]; exact (vl_good h.z _ h.good).1
theorem SW.len {n : Nd} {E Z : List (Int × Int)} (h : SW n E Z) : n.len = E.length := by rw [n.len_ll, h.sl]; exact (vl_good h.z _ h.good).2
/-- A node with one entry that is not valid. -/
structure SG (n : Nd) (A B Z : List (Int × Int)) (x : Int) : Prop where
  sl : n.sl = A ++ (x, lastP n.fi A) :: (B ++ Z)
  z : Zok Z
  good : Good n.fi (A ++ B)
  fi : n.fi ≠ 0
theorem SG.es {n : Nd} {A B Z : List (Int × Int)} {x : Int} (h : SG n A B Z x) : n.es = A ++ B := by rw [n.es_vl, h.sl]; exact (vl_gap h.z _ h.fi h.good).1
theorem SG.len {n : Nd} {A B Z : List (Int × Int)} {x : Int} (h : SG n A B Z x) : n.len = A.length + B.length + 1 := by rw [n.len_ll, h.sl]; exact (vl_gap h.z _ h.fi h.good).2
theorem good_nz {a : Int} : ∀ {l : List (Int × Int)}, Good a l → ∀ e ∈ l, e.2 ≠ 0
  | [], _, e, h => by cases h
  | b :: t, h, e, he => by
    rcases List.mem_cons.1 he with rfl | he
    · exact h.1
    · exact good_nz h.2.2 e he
/-- A list whose first places are all valid. -/
theorem good_of : ∀ (l : List (Int × Int)) (a : Int), (∀ i, i < ll l → (l.getD i (0, 0)).2 ≠ ahL a l i) → ∃ E Z, l = E ++ Z ∧ Zok Z ∧ Good a E
  | [], a, _ => ⟨[], [], rfl, Or.inl rfl, trivial⟩
  | e :: t, a, h => by
    by_cases h0 : e.2 = 0
    · refine ⟨[], e :: t, rfl, Or.inr ⟨e.1, t, ?_⟩, trivial⟩
      rw [← h0]
    · have hll : ll (e :: t) = ll t + 1 := by rw [ll, if_neg h0]
      obtain ⟨E, Z, h1, h2, h3⟩ := good_of t e.2 (fun i hi => by
        have := h (i + 1) (by omega)
        cases i with
        | zero => simpa [ahL] using this
        | succ i => simpa [ahL] using this)
      refine ⟨e :: E, Z, by rw [h1]; rfl, h2, h0, ?_, h3⟩
      have := h 0 (by omega)
      simpa [ahL] using this
theorem Nd.inv_neg (n : Nd) (h : n.inv = -1) : ∀ i, i < n.len → n.ok i = true := by
  intro i hi
  unfold Nd.inv at h
  split at h
  · rename_i j hj
    omega
  · rename_i hn
    rw [List.find?_range_eq_none] at hn
    simpa using hn i hi
theorem Nd.whole (n : Nd) (h : n.inv = -1) : ∃ E Z, SW n E Z := by
  have h8 := n.len_le
  obtain ⟨E, Z, h1, h2, h3⟩ := good_of n.sl n.fi (fun i hi => by
    rw [← n.len_ll] at hi
    have := n.inv_neg h i hi
    rw [n.ok_sl (by omega)] at this
    simpa using this)
  exact ⟨E, Z, h1, h2, h3⟩
def Nd.setK (n : Nd) (i : Nat) (x : Int) : Nd := match i with
  | 0 => { n with k0 := x } | 1 => { n with k1 := x } | 2 => { n with k2 := x } | 3 => { n with k3 := x } | 4 => { n with k4 := x } | 5 => { n with k5 := x } | 6 => { n with k6 := x } | _ => { n with k7 := x }
def Nd.setP (n : Nd) (i : Nat) (x : Int) : Nd := match i with
  | 0 => { n with p0 := x } | 1 => { n with p1 := x } | 2 => { n with p2 := x } | 3 => { n with p3 := x } | 4 => { n with p4 := x } | 5 => { n with p5 := x } | 6 => { n with p6 := x } | _ => { n with p7 := x }
theorem Nd.setK_sl (n : Nd) {i : Nat} (hi : i < 8) (x : Int) : (n.setK i x).sl = n.sl.set i (x, (n.sl.getD i (0, 0)).2) := by
  rcases lt8 hi with rfl | rfl | rfl | rfl | rfl | rfl | rfl | rfl <;> rfl
theorem Nd.setP_sl (n : Nd) {i : Nat} (hi : i < 8) (x : Int) : (n.setP i x).sl = n.sl.set i ((n.sl.getD i (0, 0)).1, x) := by
  rcases lt8 hi with rfl | rfl | rfl | rfl | rfl | rfl | rfl | rfl <;> rfl
theorem Nd.setK_other (n : Nd) (i : Nat) (x : Int) : (n.setK i x).l = n.l ∧ (n.setK i x).lo = n.lo ∧ (n.setK i x).nx = n.nx ∧ (n.setK i x).ct = n.ct ∧ (n.setK i x).fi = n.fi := by
  unfold Nd.setK; split <;> exact ⟨rfl, rfl, rfl, rfl, rfl⟩
theorem Nd.setP_other (n : Nd) (i : Nat) (x : Int) : (n.setP i x).l = n.l ∧ (n.setP i x).lo = n.lo ∧ (n.setP i x).nx = n.nx ∧ (n.setP i x).ct = n.ct ∧ (n.setP i x).fi = n.fi := by
  unfold Nd.setP; split <;> exact ⟨rfl, rfl, rfl, rfl, rfl⟩
/-- A node behind a store. -/
def ap (base : Int) (n : Nd) (s : Int × Int) : Option Nd :=
  if s.1 = base + 8 then some { n with lo := s.2 } else if s.1 = base + 16 then some { n with nx := s.2 } else if s.1 = base + 24 then some { n with ct := s.2 } else if s.1 = base + 32 then some { n with fi := s.2 }
  else if 64 ≤ s.1 - base ∧ s.1 - base < 192 ∧ (s.1 - base) % 8 = 0 then (if (s.1 - base) % 16 = 0 then some (n.setK ((s.1 - base - 64) / 16).toNat s.2) else some (n.setP ((s.1 - base - 64) / 16).toNat s.2)) else none
/-- Where a place's key stands, and its pointer. -/
def kA (base : Int) (i : Nat) : Int := base + 64 + 16 * i
def pA (base : Int) (i : Nat) : Int := base + 72 + 16 * i
theorem ap_k (base : Int) (n : Nd) {i : Nat} (hi : i < 8) (x : Int) : ap base n (kA base i, x) = some (n.setK i x) := by
  unfold ap kA
  dsimp only
  rw [if_neg (by omega), if_neg (by omega), if_neg (by omega), if_neg (by omega), if_pos (by omega), if_pos (by omega), show ((base + 64 + 16 * (i : Int) - base - 64) / 16).toNat = i by omega]
theorem ap_p (base : Int) (n : Nd) {i : Nat} (hi : i < 8) (x : Int) : ap base n (pA base i, x) = some (n.setP i x) := by
  unfold ap pA
  dsimp only
  rw [if_neg (by omega), if_neg (by omega), if_neg (by omega), if_neg (by omega), if_pos (by omega), if_neg (by omega), show ((base + 72 + 16 * (i : Int) - base - 64) / 16).toNat = i by omega]
theorem ap_ct (base : Int) (n : Nd) (x : Int) : ap base n (base + 24, x) = some { n with ct := x } := by
  unfold ap
  dsimp only
  rw [if_neg (by omega), if_neg (by omega), if_pos rfl]
theorem ap_nx (base : Int) (n : Nd) (x : Int) : ap base n (base + 16, x) = some { n with nx := x } := by
  unfold ap
  dsimp only
  rw [if_neg (by omega), if_pos rfl]
/-- Stores one behind the other; of each node on the way something is true. -/
def Steps (base : Int) (P : Nd → Prop) : Nd → List (Int × Int) → Nd → Prop
  | n, [], m => P n ∧ m = n
  | n, s :: l, m => P n ∧ ∃ n', ap base n s = some n' ∧ Steps base P n' l m
theorem Steps.append {base : Int} {P : Nd → Prop} : ∀ {l1 : List (Int × Int)} {n m k : Nd} {l2 : List (Int × Int)}, Steps base P n l1 m → Steps base P m l2 k → Steps base P n (l1 ++ l2) k
  | [], n, m, k, l2, h1, h2 => by obtain ⟨_, rfl⟩ := h1; exact h2
  | s :: l1, n, m, k, l2, h1, h2 => by
    obtain ⟨hp, n', ha, h1⟩ := h1
    exact ⟨hp, n', ha, Steps.append h1 h2⟩
theorem Steps.first {base : Int} {P : Nd → Prop} {l : List (Int × Int)} {n m : Nd} (h : Steps base P n l m) : P n := by cases l <;> exact h.1
theorem Steps.last {base : Int} {P : Nd → Prop} : ∀ {l : List (Int × Int)} {n m : Nd}, Steps base P n l m → P m
  | [], n, m, h => by obtain ⟨h, rfl⟩ := h; exact h
  | s :: l, n, m, h => by obtain ⟨_, n', _, h⟩ := h; exact h.last
theorem Steps.mono {base : Int} {P P' : Nd → Prop} (hP : ∀ n, P n → P' n) : ∀ {l : List (Int × Int)} {n m : Nd}, Steps base P n l m → Steps base P' n l m
  | [], n, m, h => ⟨hP _ h.1, h.2⟩
  | s :: l, n, m, h => ⟨hP _ h.1, by obtain ⟨_, n', ha, h⟩ := h; exact ⟨n', ha, Steps.mono hP h⟩⟩
/-- What a change leaves. -/
structure Kept (n m : Nd) : Prop where
  l : m.l = n.l
  lo : m.lo = n.lo
  fi : m.fi = n.fi
theorem Kept.refl (n : Nd) : Kept n n := ⟨rfl, rfl, rfl⟩
theorem Kept.trans {a b c : Nd} (h : Kept a b) (k : Kept b c) : Kept a c := ⟨k.l.trans h.l, k.lo.trans h.lo, k.fi.trans h.fi⟩
theorem kept_k (n : Nd) (i : Nat) (x : Int) : Kept n (n.setK i x) := by obtain ⟨a, b, _, _, e⟩ := n.setK_other i x; exact ⟨a, b, e⟩
theorem kept_p (n : Nd) (i : Nat) (x : Int) : Kept n (n.setP i x) := by obtain ⟨a, b, _, _, e⟩ := n.setP_other i x; exact ⟨a, b, e⟩
theorem set_mid {α : Type} (A : List α) (z y : α) (T : List α) : (A ++ z :: T).set A.length y = A ++ y :: T := by simp
theorem getD_mid (A : List (Int × Int)) (z : Int × Int) (T : List (Int × Int)) : (A ++ z :: T).getD A.length (0, 0) = z := by simp
/-- A place's pointer, or key, is stored. -/
theorem sl_p {n : Nd} {A T : List (Int × Int)} {z : Int × Int} (h : n.sl = A ++ z :: T) (x : Int) : A.length < 8 ∧ (n.setP A.length x).sl = A ++ (z.1, x) :: T := by
  have hl : A.length < 8 := by have := congrArg List.length h; rw [n.sl_len] at this; simp at this; omega
  exact ⟨hl, by rw [n.setP_sl hl, h, getD_mid, set_mid]⟩
theorem sl_k {n : Nd} {A T : List (Int × Int)} {z : Int × Int} (h : n.sl = A ++ z :: T) (x : Int) : A.length < 8 ∧ (n.setK A.length x).sl = A ++ (x, z.2) :: T := by
  have hl : A.length < 8 := by have := congrArg List.length h; rw [n.sl_len] at this; simp at this; omega
  exact ⟨hl, by rw [n.setK_sl hl, h, getD_mid, set_mid]⟩
/-- What a node must be besides its places, with these entries. -/
structure Fit (n : Nd) (E : List (Int × Int)) : Prop where
  lv : 0 ≤ n.l ∧ n.l ≤ 15
  fi : n.fi ≠ 0
  rise : riseB n.lo (decide (n.l = 0)) E = true
  unl : unlB n.fi E = true
theorem Fit.kept {n m : Nd} {E : List (Int × Int)} (h : Fit n E) (k : Kept n m) : Fit m E := by
  obtain ⟨a, b, c, d⟩ := h
  obtain ⟨k1, k2, k3⟩ := k
  exact ⟨by rw [k1]; exact a, by rw [k3]; exact b, by rw [k2, k1]; exact c, by rw [k3]; exact d⟩
theorem Fit.may {n : Nd} {E : List (Int × Int)} (h : Fit n E) (he : n.es = E) (hl : n.len ≤ E.length + 1) : n.may 0 false = true := by
  unfold Nd.may
  rw [he]
  simp [h.lv.1, h.lv.2, h.fi, h.rise, h.unl, hl]
theorem may_fit {n : Nd} (h : n.may 0 false = true) : Fit n n.es ∧ n.len ≤ n.es.length + 1 := by
  unfold Nd.may at h
  simp at h
  obtain ⟨⟨⟨⟨⟨a, b⟩, c⟩, d⟩, e⟩, f⟩ := h
  exact ⟨⟨⟨a, b⟩, c, e, f⟩, d⟩
/-- A node that may be, and has just these entries. -/
def Has (E : List (Int × Int)) (n : Nd) : Prop := n.may 0 false = true ∧ n.es = E
theorem SW.has {n : Nd} {E Z : List (Int × Int)} (h : SW n E Z) (f : Fit n E) : Has E n := ⟨f.may h.es (by rw [h.len]; omega), h.es⟩
theorem SG.has {n : Nd} {A B Z : List (Int × Int)} {x : Int} (h : SG n A B Z x) (f : Fit n (A ++ B)) : Has (A ++ B) n := ⟨f.may h.es (by rw [h.len]; simp), h.es⟩
/-- The stores that close a gap at a place, ahead of these entries. -/
def downL (base : Int) : Nat → List (Int × Int) → List (Int × Int)
  | i, [] => [(pA base i, 0)]
  | i, b :: B => (kA base i, b.1) :: (pA base i, b.2) :: downL base (i + 1) B
theorem lastP_snoc (a : Int) (A : List (Int × Int)) (b : Int × Int) : lastP a (A ++ [b]) = b.2 := by rw [lastP_append]; rfl
theorem down_steps (base : Int) : ∀ (B A : List (Int × Int)) (n : Nd) (x : Int) (Z : List (Int × Int)), SG n A B Z x → Fit n (A ++ B) →
    ∃ m Z', Steps base (Has (A ++ B)) n (downL base A.length B) m ∧ SW m (A ++ B) Z' ∧ Kept n m ∧ m.ct = n.ct ∧ m.nx = n.nx
  | [], A, n, x, Z, h, f => by
    obtain ⟨hl, hs⟩ := sl_p h.sl 0
    have hk := kept_p n A.length 0
    have hw : SW (n.setP A.length 0) (A ++ []) ((x, 0) :: Z) := ⟨by rw [hs]; simp, Or.inr ⟨x, Z, rfl⟩, by rw [hk.fi]; exact h.good⟩
    obtain ⟨_, _, o1, o2, _⟩ := n.setP_other A.length 0
    exact ⟨n.setP A.length 0, (x, 0) :: Z, ⟨h.has f, _, ap_p base n hl 0, hw.has (f.kept hk), rfl⟩, hw, hk, o2, o1⟩
  | b :: B, A, n, x, Z, h, f => by
    obtain ⟨hl, hs1⟩ := sl_k h.sl b.1
    have hk1 := kept_k n A.length b.1
    have h1 : SG (n.setK A.length b.1) A (b :: B) Z b.1 := ⟨by rw [hs1, hk1.fi], h.z, by rw [hk1.fi]; exact h.good, by rw [hk1.fi]; exact h.fi⟩
    obtain ⟨_, hs2⟩ := sl_p h1.sl b.2
    have hk2 := kept_p (n.setK A.length b.1) A.length b.2
    have hab : A ++ b :: B = (A ++ [b]) ++ B := by simp
    have h2 : SG ((n.setK A.length b.1).setP A.length b.2) (A ++ [b]) B Z b.1 :=
      ⟨by rw [hs2, lastP_snoc]; simp, h.z, by rw [hk2.fi, hk1.fi, ← hab]; exact h.good, by rw [hk2.fi, hk1.fi]; exact h.fi⟩
    have f1 := f.kept hk1
    have f2 := f1.kept hk2
    rw [hab] at f2
    obtain ⟨m, Z', hst, hw, hk, hct, hnx⟩ := down_steps base B (A ++ [b]) _ _ _ h2 f2
    obtain ⟨_, _, o1, o2, _⟩ := n.setK_other A.length b.1
    obtain ⟨_, _, o3, o4, _⟩ := (n.setK A.length b.1).setP_other A.length b.2
    rw [List.length_append, List.length_singleton] at hst
    rw [hab]
    refine ⟨m, Z', ⟨by rw [← hab]; exact h.has f, _, ap_k base n hl b.1, by rw [← hab]; exact h1.has f1, _, ap_p base _ hl b.2, hst⟩, hw, (hk1.trans hk2).trans hk, by rw [hct, o4, o2], by rw [hnx, o3, o1]⟩
/-- The stores that make room: the entries at p + c - 1 down to p go one place further. -/
def upL (base : Int) (E : List (Int × Int)) (p : Nat) : Nat → List (Int × Int)
  | 0 => []
  | c + 1 => (pA base (p + c + 1), (E.getD (p + c) (0, 0)).2) :: (kA base (p + c + 1), (E.getD (p + c) (0, 0)).1) :: upL base E p c
theorem lastP_take (a : Int) (E : List (Int × Int)) {i : Nat} (hi : i < E.length) : lastP a (E.take (i + 1)) = (E.getD i (0, 0)).2 := by
  rw [List.take_succ_eq_append_getElem hi, lastP_snoc, List.getD_eq_getElem?_getD, List.getElem?_eq_getElem hi]
  rfl
theorem up_steps (base : Int) (E : List (Int × Int)) (p : Nat) : ∀ (c : Nat) (n : Nd) (z : Int × Int) (Z : List (Int × Int)), p + c ≤ E.length → n.sl = E.take (p + c) ++ z :: (E.drop (p + c) ++ Z) → Zok Z → Good n.fi E → Fit n E → Has E n →
    ∃ m z', Steps base (Has E) n (upL base E p c) m ∧ m.sl = E.take p ++ z' :: (E.drop p ++ Z) ∧ Kept n m ∧ m.ct = n.ct ∧ m.nx = n.nx
  | 0, n, z, Z, hc, hs, hz, hg, f, hh => ⟨n, z, ⟨hh, rfl⟩, hs, Kept.refl n, rfl, rfl⟩
  | c + 1, n, z, Z, hc, hs, hz, hg, f, hh => by
    have hlt : (E.take (p + c + 1)).length = p + c + 1 := by rw [List.length_take]; omega
    have hpc : p + (c + 1) = p + c + 1 := by omega
    rw [hpc] at hs
    obtain ⟨hl, hs1⟩ := sl_p hs (E.getD (p + c) (0, 0)).2
    rw [hlt] at hl hs1
    have hk1 := kept_p n (p + c + 1) (E.getD (p + c) (0, 0)).2
    have htd : E.take (p + c + 1) ++ E.drop (p + c + 1) = E := List.take_append_drop _ _
    have h1 : SG (n.setP (p + c + 1) (E.getD (p + c) (0, 0)).2) (E.take (p + c + 1)) (E.drop (p + c + 1)) Z z.1 :=
      ⟨by rw [hs1, lastP_take _ _ (by omega)], hz, by rw [hk1.fi, htd]; exact hg, by rw [hk1.fi]; exact f.fi⟩
    have f1 := f.kept hk1
    have hh1 := h1.has (by rw [htd]; exact f1)
    rw [htd] at hh1
    obtain ⟨_, hs2⟩ := sl_k h1.sl (E.getD (p + c) (0, 0)).1
    rw [hlt] at hs2
    have hk2 := kept_k (n.setP (p + c + 1) (E.getD (p + c) (0, 0)).2) (p + c + 1) (E.getD (p + c) (0, 0)).1
    have h2 : SG ((n.setP (p + c + 1) (E.getD (p + c) (0, 0)).2).setK (p + c + 1) (E.getD (p + c) (0, 0)).1) (E.take (p + c + 1)) (E.drop (p + c + 1)) Z (E.getD (p + c) (0, 0)).1 :=
      ⟨by rw [hs2, hk2.fi], hz, by rw [hk2.fi, hk1.fi, htd]; exact hg, by rw [hk2.fi, hk1.fi]; exact f.fi⟩
    have f2 := f1.kept hk2
    have hh2 := h2.has (by rw [htd]; exact f2)
    rw [htd] at hh2
    have hs3 : ((n.setP (p + c + 1) (E.getD (p + c) (0, 0)).2).setK (p + c + 1) (E.getD (p + c) (0, 0)).1).sl = E.take (p + c) ++ E.getD (p + c) (0, 0) :: (E.drop (p + c) ++ Z) := by
      rw [h2.sl, hk2.fi, hk1.fi, lastP_take _ _ (by omega)]
      have hlt2 : p + c < E.length := by omega
      have hge : E.getD (p + c) (0, 0) = E[p + c] := by rw [List.getD_eq_getElem?_getD, List.getElem?_eq_getElem hlt2]; rfl
      rw [List.take_succ_eq_append_getElem hlt2, List.drop_eq_getElem_cons hlt2, hge, List.append_assoc]
      rfl
    obtain ⟨m, z', hst, hsm, hk, hct, hnx⟩ := up_steps base E p c _ _ Z (by omega) hs3 hz (by rw [hk2.fi, hk1.fi]; exact hg) f2 hh2
    obtain ⟨_, _, o1, o2, _⟩ := n.setP_other (p + c + 1) (E.getD (p + c) (0, 0)).2
    obtain ⟨_, _, o3, o4, _⟩ := (n.setP (p + c + 1) (E.getD (p + c) (0, 0)).2).setK_other (p + c + 1) (E.getD (p + c) (0, 0)).1
    exact ⟨m, z', ⟨hh, _, ap_p base n hl _, hh1, _, ap_k base _ hl _, hst⟩, hsm, (hk1.trans hk2).trans hk, by rw [hct, o4, o2], by rw [hnx, o3, o1]⟩
theorem riseB_iff (a : Int) (c : Bool) (l : List (Int × Int)) : riseB a c l = true ↔ (∀ e ∈ l, a < e.1 ∨ (a = e.1 ∧ c = true)) ∧ (l.map (·.1)).Pairwise (· < ·) := by
  induction l generalizing a c with
  | nil => simp [riseB]
  | cons e t ih =>
    unfold riseB
    by_cases h : e.1 < a ∨ (e.1 = a ∧ c = false)
    · rw [if_pos h]
      refine ⟨fun h => by simp at h, fun hh => ?_⟩
      have := hh.1 e (by simp)
      rcases h with h | ⟨h1, h2⟩
      · omega
      · subst h2
        simp at this
        omega
    · rw [if_neg h, ih]
      simp only [not_or, not_and, Bool.not_eq_false] at h
      obtain ⟨h1, h2⟩ := h
      constructor
      · rintro ⟨i1, i2⟩
        refine ⟨fun x hx => ?_, ?_⟩
        · rcases List.mem_cons.1 hx with rfl | hx
          · by_cases e1 : x.1 = a
            · exact Or.inr ⟨e1.symm, h2 e1⟩
            · exact Or.inl (by omega)
          · have := i1 x hx
            simp at this
            exact Or.inl (by omega)
        · rw [List.map_cons, List.pairwise_cons]
          refine ⟨fun y hy => ?_, i2⟩
          obtain ⟨x, hx, rfl⟩ := List.mem_map.1 hy
          have := i1 x hx
          simp at this
          exact this
      · rintro ⟨i1, i2⟩
        rw [List.map_cons, List.pairwise_cons] at i2
        exact ⟨fun x hx => Or.inl (i2.1 x.1 (List.mem_map.2 ⟨x, hx, rfl⟩)), i2.2⟩
theorem riseB_sub {a : Int} {c : Bool} {l m : List (Int × Int)} (h : riseB a c m = true) (hs : l.Sublist m) : riseB a c l = true := by
  rw [riseB_iff] at h ⊢
  exact ⟨fun e he => h.1 e (hs.subset he), h.2.sublist (hs.map _)⟩
theorem unlB_iff (f : Int) (l : List (Int × Int)) : unlB f l = true ↔ (f :: l.map (·.2)).Nodup := by simp [unlB]
theorem unlB_sub {f : Int} {l m : List (Int × Int)} (h : unlB f m = true) (hs : l.Sublist m) : unlB f l = true := by
  rw [unlB_iff] at h ⊢
  exact h.sublist ((hs.map _).cons_cons _)
theorem Fit.sub {n : Nd} {l m : List (Int × Int)} (h : Fit n m) (hs : l.Sublist m) : Fit n l := ⟨h.lv, h.fi, riseB_sub h.rise hs, unlB_sub h.unl hs⟩
theorem good_of_unl {a : Int} : ∀ {l : List (Int × Int)}, (a :: l.map (·.2)).Nodup → (∀ e ∈ l, e.2 ≠ 0) → Good a l
  | [], _, _ => trivial
  | e :: t, h, hz => by
    rw [List.map_cons, List.nodup_cons, List.mem_cons] at h
    exact ⟨hz e (by simp), fun hh => h.1 (Or.inl hh.symm), good_of_unl h.2 (fun x hx => hz x (by simp [hx]))⟩
theorem Fit.good {n : Nd} {E : List (Int × Int)} (h : Fit n E) (hz : ∀ e ∈ E, e.2 ≠ 0) : Good n.fi E := good_of_unl ((unlB_iff _ _).1 h.unl) hz
/-- A key and a pointer that are new, between those below and those above it. -/
theorem fit_ins {n : Nd} {A B : List (Int × Int)} {k p : Int} (h : Fit n (A ++ B)) (hA : ∀ e ∈ A, e.1 < k) (hB : ∀ e ∈ B, k < e.1) (hk : n.lo < k ∨ (n.lo = k ∧ n.l = 0)) (hp : p ≠ n.fi) (hpE : ∀ e ∈ A ++ B, p ≠ e.2) : Fit n (A ++ (k, p) :: B) := by
  refine ⟨h.lv, h.fi, ?_, ?_⟩
  · have := (riseB_iff _ _ _).1 h.rise
    refine (riseB_iff _ _ _).2 ⟨fun e he => ?_, ?_⟩
    · rcases List.mem_append.1 he with he | he
      · exact this.1 e (List.mem_append_left _ he)
      · rcases List.mem_cons.1 he with rfl | he
        · rcases hk with hk | hk
          · exact Or.inl hk
          · exact Or.inr ⟨hk.1, by simp [hk.2]⟩
        · exact this.1 e (List.mem_append_right _ he)
    · have h2 := this.2
      rw [List.map_append, List.pairwise_append] at h2
      rw [List.map_append, List.map_cons, List.pairwise_append, List.pairwise_cons]
      refine ⟨h2.1, ⟨fun y hy => ?_, h2.2.1⟩, fun x hx y hy => ?_⟩
      · obtain ⟨e, he, rfl⟩ := List.mem_map.1 hy
        exact hB e he
      · rcases List.mem_cons.1 hy with rfl | hy
        · obtain ⟨e, he, rfl⟩ := List.mem_map.1 hx
          exact hA e he
        · exact h2.2.2 x hx y hy
  · have := (unlB_iff _ _).1 h.unl
    refine (unlB_iff _ _).2 ?_
    have hperm : (n.fi :: (A ++ (k, p) :: B).map (·.2)).Perm (p :: n.fi :: (A ++ B).map (·.2)) := by
      rw [List.map_append, List.map_cons, List.map_append]
      exact (List.Perm.cons _ List.perm_middle).trans (List.Perm.swap _ _ _)
    rw [hperm.nodup_iff, List.nodup_cons]
    refine ⟨fun hm => ?_, this⟩
    rcases List.mem_cons.1 hm with hm | hm
    · exact hp hm
    · obtain ⟨e, he, h3⟩ := List.mem_map.1 hm
      exact hpE e he h3.symm
/-- Another pointer, that is new. -/
theorem fit_swap {n : Nd} {A B : List (Int × Int)} {k o p : Int} (h : Fit n (A ++ (k, o) :: B)) (hp : p ≠ n.fi) (hpE : ∀ e ∈ A ++ B, p ≠ e.2) : Fit n (A ++ (k, p) :: B) := by
  refine ⟨h.lv, h.fi, ?_, ?_⟩
  · have := (riseB_iff _ _ _).1 h.rise
    refine (riseB_iff _ _ _).2 ⟨fun e he => ?_, ?_⟩
    · rcases List.mem_append.1 he with he | he
      · exact this.1 e (List.mem_append_left _ he)
      · rcases List.mem_cons.1 he with rfl | he
        · exact this.1 (k, o) (by simp)
        · exact this.1 e (by simp [he])
    · simpa using this.2
  · have := (unlB_iff _ _).1 (unlB_sub h.unl (show (A ++ B).Sublist (A ++ (k, o) :: B) from (List.Sublist.refl A).append (List.sublist_cons_self _ _)))
    refine (unlB_iff _ _).2 ?_
    have hperm : (n.fi :: (A ++ (k, p) :: B).map (·.2)).Perm (p :: n.fi :: (A ++ B).map (·.2)) := by
      rw [List.map_append, List.map_cons, List.map_append]
      exact (List.Perm.cons _ List.perm_middle).trans (List.Perm.swap _ _ _)
    rw [hperm.nodup_iff, List.nodup_cons]
    refine ⟨fun hm => ?_, this⟩
    rcases List.mem_cons.1 hm with hm | hm
    · exact hp hm
    · obtain ⟨e, he, h3⟩ := List.mem_map.1 hm
      exact hpE e he h3.symm
end Go.Proofs.YtfdngoificpjfaaGreatDoor
/- The document's Invalid: of any node; without conditions. -/
namespace Go.Proofs.YtfdngoificpjfaaGreatDoor
open Go.RowKit
set_option linter.unusedVariables false
end Go.Proofs.YtfdngoificpjfaaGreatDoor
