/- Texts of this claim, packed: QTail, Gr, Low, GTab, GeoS, GeoA, GeoB, GeoC. -/
import Derived.Test.YthibbcokpmckfaaGreatDoorRows
import Derived.WalkKit
import Derived.StillTail
import Derived.BigQuiet
import Derived.Deep.QuietTactic
import Derived.Shelf.SlSorted.Search
import Derived.WalkSpells
import Derived.WalkLawsBesides
import Derived.IntWalk
import Derived.Lib.Hide
import Derived.Laws.Rows
import Derived.Laws.Tables
import Derived.Outline
import Derived.Lib.LaidTab
import Derived.Lib.SmallJoins
import Derived.Shelf.SlSortCmp.QuietGrown
/- A region that draws its order, whose operations but the last few only read or call what stays within a class of worlds; the last ones in their one order: one walk in the order of the text; no conditions. -/
namespace Go.Proofs.YthibbcokpmckfaaGreatDoor
open Go.RowKit
set_option linter.unusedVariables false
section
variable {P : Program} {md : Region.Mode} {ops : Array Oper} {C : World → Prop}
def wpAnyLQ (P : Program) (md : Region.Mode) (ops : Array Oper) (C : World → Prop) (n : Nat) (L : Array Bool → Act → Prop) : Nat → Array Bool → Act → Prop
  | 0, listed, a => L listed a
  | f + 1, listed, a =>
    Region.ready md ops listed ≠ [] ∧ ∀ i ∈ Region.ready md ops listed, i < n ∧ qOp P ops C i (wpAnyLQ P md ops C n L f (listed.setIfInBounds i true)) a
theorem wpAny_of_headQ {n g : Nat} {L : Array Bool → Act → Prop} {Q' : Exit → Act → World → Prop} (hL : ∀ listed a w, C w → L listed a → wpAny P md ops Q' g listed a w) :
    ∀ (f : Nat) (listed : Array Bool) (a : Act) (w : World), C w → wpAnyLQ P md ops C n L f listed a → wpAny P md ops Q' (f + g) listed a w
  | 0, listed, a, w, hC, h => by rw [Nat.zero_add]; exact hL _ _ _ hC h
  | f + 1, listed, a, w, hC, h => by
    rw [show f + 1 + g = (f + g) + 1 by omega]
    exact ⟨fun h0 => absurd h0 h.1, fun i hi => wpOp_of_qOp hC (fun a' w' hw' h' => wpAny_of_headQ hL f _ a' w' hw' h') (h.2 i hi).2⟩
theorem wpAnyLQ_first {n i : Nat} {oi : Oper} {v : Value} {L : Array Bool → Act → Prop} (hi : ops[i]? = some oi) (hsel : ∀ (j : Nat) (o : Oper) cs b, ops[j]? = some o → o.op ≠ .select cs b)
    (hs : Region.sinkB md ops n = true) (hc : Region.chainB md ops n = true) (hn : n < ops.size) (hin : i < n)
    (hdone : ∀ listed a, L listed a → ∀ j ∈ Region.ready md ops listed, n ≤ j) :
    ∀ (f : Nat) (listed : Array Bool) (a : Act), HeadInv md ops n listed →
      (∀ j oj, ops[j]? = some oj → j ≠ i → listed.getD j true = false → (∀ e ∈ oj.after, Region.binds md e = true → e.on ≠ i) → oi.apart ops oj = true) →
      i ∈ Region.ready md ops listed → YieldsIn P ops C oi v a →
      wpAnyLQ P md ops C n L f (listed.setIfInBounds i true) (a.put oi.dst v) → wpAnyLQ P md ops C n L (f + 1) listed a := by
  intro f
  induction f with
  | zero =>
    intro listed a inv _ hr hy H
    have hun := (mem_ready.1 hr).1
    refine ⟨fun h => (by rw [h] at hr; cases hr), fun j hj => ?_⟩
    have hjn : j < n := by
      rcases Nat.lt_or_ge j n with h | h
      · exact h
      · exact absurd hj (tail_waits hs hc hn inv _ i rfl hin hun j h)
    refine ⟨hjn, ?_⟩
    by_cases hji : j = i
    · subst hji; exact hy.qOp hi H
    · have := hdone _ _ H j (ready_mono hj hji)
      omega
  | succ f ih =>
    intro listed a inv hfree hr hy H
    have hun := (mem_ready.1 hr).1
    refine ⟨fun h => (by rw [h] at hr; cases hr), fun j hj => ?_⟩
    have hjn : j < n := by
      rcases Nat.lt_or_ge j n with h | h
      · exact h
      · exact absurd hj (tail_waits hs hc hn inv _ i rfl hin hun j h)
    refine ⟨hjn, ?_⟩
    by_cases hji : j = i
    · subst hji; exact hy.qOp hi H
    · have h1 := (H.2 j (ready_mono hj hji)).2
      obtain ⟨hjun, oj, hoj, hall⟩ := mem_ready.1 hj
      have hnot : ∀ e ∈ oj.after, Region.binds md e = true → e.on ≠ i := fun e he hb heq => by
        have h1 := hall e he hb
        rw [heq, getD_both hun] at h1
        cases h1
      have h2 := qOp_put hoj (hfree j oj hoj hji hjun hnot) (fun cs b => hsel i oi cs b hi) (fun cs b => hsel j oj cs b hoj) hy h1
      have hfree' : ∀ k ok, ops[k]? = some ok → k ≠ i → (listed.setIfInBounds j true).getD k true = false →
          (∀ e ∈ ok.after, Region.binds md e = true → e.on ≠ i) → oi.apart ops ok = true := fun k ok hk hki hun hno => by
        refine hfree k ok hk hki ?_ hno
        by_cases hjk : j = k
        · subst hjk; exact hjun
        · rw [getD_set_ne true hjk] at hun; exact hun
      refine qOp_mono (fun a' h3 => ih (listed.setIfInBounds j true) a' (inv.set hj hjn) hfree' (ready_mono hr (Ne.symm hji)) h3.1 ?_) h2
      rw [Array.setIfInBounds_comm _ _ hji]
      exact h3.2
theorem wpAnyLQ_lex {n g : Nat} {Lq : Act → Prop} (hsel : Region.noSelect ops = true) (hs : Region.sinkB md ops n = true) (hc : Region.chainB md ops n = true) (hn : n < ops.size) :
    ∀ (l : List Oper) (k : Nat) (listed : Array Bool) (a : Act), (∀ j, j < l.length → l[j]? = ops[k + j]?) → k + l.length = n → HeadInv md ops n listed →
    Region.lexHead md ops g l.length k listed = true → wpQuiet P ops C Lq l a →
    wpAnyLQ P md ops C n (fun listed' a' => Region.seqB md ops g n listed' = true ∧ Lq a') l.length listed a
  | [], k, listed, a, _, hk, _, hB, h => by
    have : k = n := by simpa using hk
    subst this
    exact ⟨by simpa [Region.lexHead] using hB, h⟩
  | o :: l, k, listed, a, hl, hk, inv, hB, h => by
    have h0 : ops[k]? = some o := by simpa using (hl 0 (by simp)).symm
    simp only [List.length_cons, Region.lexHead, Bool.and_eq_true] at hB
    obtain ⟨⟨hr, hf⟩, hB'⟩ := hB
    have hkn : k < n := by simp only [List.length_cons] at hk; omega
    have hr' : k ∈ Region.ready md ops listed := by simpa using hr
    have hst : qOp P ops C k (wpQuiet P ops C Lq l) a := by unfold qOp; simp only [h0]; exact h
    obtain ⟨v, hy, hK⟩ := yieldsIn_of_qOp h0 hst
    exact wpAnyLQ_first h0 (Region.noSelect_spec hsel) hs hc hn hkn (fun listed' a' hL => seqB_ready hL.1) l.length listed a inv (Region.free_spec h0 hf) hr' hy
      (wpAnyLQ_lex hsel hs hc hn l (k + 1) _ _ (fun j hj => by have := hl (j + 1) (by simp; omega); simpa [Nat.add_assoc, Nat.add_comm 1 j] using this) (by simp only [List.length_cons] at hk; omega) (inv.set hr' hkn) hB' hK)
end
/-- The region: its first n operations stay within the class, in whatever order; the rest is walked from any world of the class. -/
theorem wp_region_quiet_tail {P : Program} {C : World → Prop} {id : Nat} {Q : Exit → Act → World → Prop} {a : Act} {w : World} {l : List Oper} (n : Nat) (hm : P.follows .mixedOrders = true) (hB : Region.lexTailB .any l.toArray n = true) (hC : C w.drew)
    (h : wpQuiet P l.toArray C (fun a' => ∀ w', C w' → wpList P l.toArray Q (l.drop n) a' w') (l.take n) a) : (Code.region id l.toArray true).wp P Q a w := by
  simp only [Region.lexTailB, Bool.and_eq_true, decide_eq_true_eq] at hB
  obtain ⟨⟨⟨⟨hsel, hn⟩, hs⟩, hc⟩, hlex⟩ := hB
  have hn' : n < l.length := by simpa using hn
  have htl : (l.take n).length = n := by simp; omega
  have hdl : (l.drop n).length = l.toArray.size - n := by simp
  have inv0 : HeadInv .any l.toArray n (Array.replicate l.toArray.size false) :=
    ⟨by simp, fun j oj _ hl => (by rw [getD_replicate_false] at hl; cases hl), fun t _ ht => getD_in (by simpa using ht) (getD_replicate_false _ _)⟩
  have H := wpAnyLQ_lex (md := .any) (g := l.toArray.size - n) hsel hs hc hn (l.take n) 0 _ a (fun j hj => by
    have hj' : j < n := by rw [htl] at hj; exact hj
    simp [hj']) (by simpa using htl) inv0 (by rw [htl]; exact hlex) h
  refine wp_region_any hm ?_
  have := wpAny_of_headQ (Q' := Q) (g := l.toArray.size - n) (fun listed a' w' hC' hL => by
    have := wpAny_of_seq (md := .any) (Q' := Q) (l.drop n) n listed a' w' (fun j => by simp [List.getElem?_drop]) (by rw [hdl]; exact hL.1) (hL.2 w' hC')
    rwa [hdl] at this) _ _ _ _ hC H
  rw [htl, show n + (l.toArray.size - n) = l.toArray.size by omega] at this
  exact this
end Go.Proofs.YthibbcokpmckfaaGreatDoor
/- Worlds that a call leaves behind which draws and lays blocks, and turns nothing that was there; no conditions. -/
namespace Go.Proofs.YthibbcokpmckfaaGreatDoor
open Go.RowKit Go.Sort
set_option linter.unusedVariables false

/-- w' is w behind some draws, with some blocks laid behind it. -/
def Gr (w w' : World) : Prop := ∃ q os, w' = grow (w.drewN q) os
section
variable {a b c w w' : World}
theorem Gr.refl (w : World) : Gr w w := ⟨0, #[], by rw [grow_empty]; rfl⟩
theorem Gr.trans (h : Gr a b) (k : Gr b c) : Gr a c := by
  obtain ⟨q, os, rfl⟩ := h
  obtain ⟨q', os', rfl⟩ := k
  exact ⟨q + q', os ++ os', by show grow (grow ((a.drewN q).drewN q') os) os' = _; rw [grow_grow, World.drewN_drewN]⟩
theorem Gr.alloc (h : Gr a w) (o : Obj) : Gr a (w.alloc o) := h.trans ⟨0, #[o], by rw [alloc_eq_grow]; rfl⟩
theorem Gr.drew (h : Gr a w) : Gr a w.drew := h.trans ⟨1, #[], by rw [grow_empty]; rfl⟩
theorem Gr.drewN (h : Gr a w) (n : Nat) : Gr a (w.drewN n) := h.trans ⟨n, #[], by rw [grow_empty]⟩
theorem Gr.grow (h : Gr a w) (q : Nat) (os : Array Obj) : Gr a (Sort.grow (w.drewN q) os) := h.trans ⟨q, os, rfl⟩
theorem Gr.below {B : Nat} (h : Gr w w') (hB : B ≤ w.heap.size) : Below B w w' := by
  obtain ⟨q, os, rfl⟩ := h
  exact below_grown_sl B w q os hB
theorem Gr.all (h : Gr w w') : Below w.heap.size w w' := h.below (Nat.le_refl _)
theorem heap_lt {k : Nat} {o : Obj} (hk : w.heap[k]? = some o) : k < w.heap.size := by
  by_cases hl : k < w.heap.size
  · exact hl
  · rw [Array.getElem?_eq_none (by omega)] at hk
    cases hk
theorem Gr.heap (h : Gr w w') {k : Nat} {o : Obj} (hk : w.heap[k]? = some o) : w'.heap[k]? = some o := (h.all.block k (heap_lt hk)).trans hk
end
end Go.Proofs.YthibbcokpmckfaaGreatDoor
/- A region that draws its order, whose operations only read, and whose callees may draw and lay blocks of whatever kind: one walk in the order of the text; no conditions. -/
namespace Go.Proofs.YthibbcokpmckfaaGreatDoor
open Go.RowKit
set_option linter.unusedVariables false
/-- A world in which all that lay in w lies unturned. -/
structure LowBy (w : World) where
  W : World
  low : Below w.heap.size w W
instance lowInhabited (w : World) : Inhabited (LowBy w) := ⟨⟨w, Below.refl _ _⟩⟩
theorem wp_region_quiet_low {P : Program} {id : Nat} {Q : Exit → Act → World → Prop} {a : Act} {w : World} {l : List Oper} (hm : P.follows .mixedOrders = true) (hB : Region.lexB .any l.toArray = true)
    (h : wpQuiet P l.toArray (fun w' => ∃ p : LowBy w, w' = p.W) (fun a' => ∀ w', (∃ p : LowBy w, w' = p.W) → Q .normal a' w') l a) : (Code.region id l.toArray true).wp P Q a w :=
  wp_region_quiet (C := fun w' => ∃ p : LowBy w, w' = p.W) hm hB ⟨⟨w.drew, (Below.refl _ w).drew⟩, rfl⟩ (by simpa using h)
theorem wp_region_low_tail {P : Program} {id : Nat} {Q : Exit → Act → World → Prop} {a : Act} {w : World} {l : List Oper} (n : Nat) (hm : P.follows .mixedOrders = true) (hB : Region.lexTailB .any l.toArray n = true)
    (h : wpQuiet P l.toArray (fun w' => ∃ p : LowBy w, w' = p.W) (fun a' => ∀ w', (∃ p : LowBy w, w' = p.W) → wpList P l.toArray Q (l.drop n) a' w') (l.take n) a) : (Code.region id l.toArray true).wp P Q a w :=
  wp_region_quiet_tail (C := fun w' => ∃ p : LowBy w, w' = p.W) n hm hB ⟨⟨w.drew, (Below.refl _ w).drew⟩, rfl⟩ h
theorem Calls.low_of {P : Program} {f : FuncId} {args : Array Value} {w : World} {p : LowBy w} {v : Value}
    (h : Calls P f args p.W fun e w' => e = .returned v ∧ Below p.W.heap.size p.W w') : Calls P f args p.W fun e w'' => e = .returned v ∧ ∃ q : LowBy w, w'' = q.W :=
  h.mono fun _ w' ⟨he, hb⟩ => ⟨he, ⟨w', p.low.trans (hb.mono p.low.size)⟩, rfl⟩
theorem Calls.low_of_gr {P : Program} {f : FuncId} {args : Array Value} {w : World} {p : LowBy w} {v : Value}
    (h : Calls P f args p.W fun e w' => e = .returned v ∧ Gr p.W w') : Calls P f args p.W fun e w'' => e = .returned v ∧ ∃ q : LowBy w, w'' = q.W :=
  Calls.low_of (h.mono fun _ _ ⟨he, hg⟩ => ⟨he, hg.all⟩)
theorem Calls.low_of_same {P : Program} {f : FuncId} {args : Array Value} {w : World} {p : LowBy w} {v : Value}
    (h : Calls P f args p.W fun e w' => e = .returned v ∧ p.W = w') : Calls P f args p.W fun e w'' => e = .returned v ∧ ∃ q : LowBy w, w'' = q.W :=
  Calls.low_of (h.mono fun _ _ ⟨he, hg⟩ => ⟨he, by subst hg; exact Below.refl _ _⟩)
theorem LowBy.cell {w : World} {a : Addr} {v : Value} (h : w.cell? a = some v) (p : LowBy w) : p.W.cell? a = some v := (p.low.cell (w.block_lt_of_cell? _ h)).trans h
theorem LowBy.heap {w : World} {k : Nat} {o : Obj} (h : w.heap[k]? = some o) (p : LowBy w) : p.W.heap[k]? = some o := (p.low.block k (heap_lt h)).trans h
end Go.Proofs.YthibbcokpmckfaaGreatDoor
/- What the listed variable geo.rooms gives: its block holds the four classes' numbers; wherever the row's list is met. -/
namespace Go.Proofs.YthibbcokpmckfaaGreatDoor
open Go.RowKit Go.Sort
set_option linter.unusedVariables false

/-- What a class has: the cells of geo.rooms. -/
def roomsA : Array Value := #[.int .i64 0, .int .i64 0, .int .i64 (-1), .int .i64 64, .int .i64 15, .int .i64 56, .int .i64 128, .int .i64 7, .int .i64 120, .int .i64 192, .int .i64 5, .int .i64 (-1)]
/-- The variable's block, whole. -/
def Rms (w : World) : Prop := ∃ t, w.heap[0]? = some (.cells roomsA t (0, 0))
theorem Rms.gr {w w' : World} (h : Rms w) (g : Gr w w') : Rms w' := by
  obtain ⟨t, h⟩ := h
  exact ⟨t, g.heap h⟩
theorem Rms.below {w w' : World} (h : Rms w) (g : Below w.heap.size w w') : Rms w' := by
  obtain ⟨t, h⟩ := h
  exact ⟨t, (g.block _ (heap_lt h)).trans h⟩
theorem Rms.alloc {w : World} (h : Rms w) (o : Obj) : Rms (w.alloc o) := h.gr ((Gr.refl w).alloc o)

theorem rooms_named : Tryz.prog.globalNamed "levee/geo.rooms" = some 0 := by kernel_rfl
theorem rooms_type : (Tryz.prog.globals[0]?).map (·.type) = some 174 := by kernel_rfl
theorem gcellsInt : Tryz.prog.cellsOf 3 = 1 := by kernel_rfl
theorem cellsRoom : Tryz.prog.cellsOf 157 = 3 := by kernel_rfl
theorem cellsRooms : Tryz.prog.cellsOf 174 = 12 := by kernel_rfl
section
variable {H : Type} {enc : TypeId × Value → H} {w : World} {base : Nat} {sp : Nat → Bool} {held : Bool} {fuel : Nat}
theorem room_cells {cs : List Value} {x y z : Int} {p : List MemPlace}
    (h : DataW.trod enc Tryz.prog w base sp held fuel 157 cs = some (.agg [.lit (.int .i64 x), .lit (.int .i64 y), .lit (.int .i64 z)], p)) : cs = [.int .i64 x, .int .i64 y, .int .i64 z] := by
  cases fuel with
  | zero => simp [DataW.trod] at h
  | succ fuel =>
    simp only [DataW.trod, Tryz.underlying157, cellsRoom, List.mapM_cons, List.mapM_nil, gcellsInt, Option.bind_eq_bind, Option.pure_def] at h
    split at h
    · rename_i hl
      obtain ⟨xs, hm, hx⟩ := Option.map_eq_some_iff.1 h
      obtain ⟨u, hu1, hm⟩ := Option.bind_eq_some_iff.1 hm
      obtain ⟨l1, hl1, hm⟩ := Option.bind_eq_some_iff.1 hm
      obtain ⟨v, hv1, hl1⟩ := Option.bind_eq_some_iff.1 hl1
      obtain ⟨l2, hl2, hl1⟩ := Option.bind_eq_some_iff.1 hl1
      obtain ⟨t, ht1, hl2⟩ := Option.bind_eq_some_iff.1 hl2
      simp only [Option.bind_some, Option.some.injEq] at hm hl1 hl2
      subst hl2 hl1 hm
      obtain ⟨n1, c1, rfl, _⟩ := DataW.trod_int Tryz.underlying3 hu1
      obtain ⟨n2, c2, rfl, _⟩ := DataW.trod_int Tryz.underlying3 hv1
      obtain ⟨n3, c3, rfl, _⟩ := DataW.trod_int Tryz.underlying3 ht1
      simp at hx
      obtain ⟨⟨rfl, rfl, rfl⟩, _⟩ := hx
      match cs, hl with
      | [q1, q2, q3], _ =>
        simp at c1 c2 c3
        subst c1 c2 c3
        rfl
    · cases h
theorem rooms_cells {cs : List Value} {p : List MemPlace}
    (h : DataW.trod enc Tryz.prog w base sp held fuel 174 cs = some (.agg [.agg [.lit (.int .i64 0), .lit (.int .i64 0), .lit (.int .i64 (-1))], .agg [.lit (.int .i64 64), .lit (.int .i64 15), .lit (.int .i64 56)], .agg [.lit (.int .i64 128), .lit (.int .i64 7), .lit (.int .i64 120)], .agg [.lit (.int .i64 192), .lit (.int .i64 5), .lit (.int .i64 (-1))]], p)) : cs = roomsA.toList := by
  cases fuel with
  | zero => simp [DataW.trod] at h
  | succ fuel =>
    simp only [DataW.trod, Tryz.underlying174, cellsRooms, cellsRoom, show List.range 4 = [0, 1, 2, 3] from rfl, List.mapM_cons, List.mapM_nil, Option.bind_eq_bind, Option.pure_def] at h
    split at h
    · rename_i hl
      obtain ⟨xs, hm, hx⟩ := Option.map_eq_some_iff.1 h
      obtain ⟨u0, h0, hm⟩ := Option.bind_eq_some_iff.1 hm
      obtain ⟨l1, hl1, hm⟩ := Option.bind_eq_some_iff.1 hm
      obtain ⟨u1, h1, hl1⟩ := Option.bind_eq_some_iff.1 hl1
      obtain ⟨l2, hl2, hl1⟩ := Option.bind_eq_some_iff.1 hl1
      obtain ⟨u2, h2, hl2⟩ := Option.bind_eq_some_iff.1 hl2
      obtain ⟨l3, hl3, hl2⟩ := Option.bind_eq_some_iff.1 hl2
      obtain ⟨u3, h3, hl3⟩ := Option.bind_eq_some_iff.1 hl3
      simp only [Option.bind_some, Option.some.injEq] at hm hl1 hl2 hl3
      subst hl3 hl2 hl1 hm
      obtain ⟨u0a, u0b⟩ := u0
      obtain ⟨u1a, u1b⟩ := u1
      obtain ⟨u2a, u2b⟩ := u2
      obtain ⟨u3a, u3b⟩ := u3
      simp only [List.map_cons, List.map_nil, Prod.mk.injEq, DataW.agg.injEq, List.cons.injEq, and_true] at hx
      obtain ⟨⟨rfl, rfl, rfl, rfl⟩, _⟩ := hx
      have e0 := room_cells h0
      have e1 := room_cells h1
      have e2 := room_cells h2
      have e3 := room_cells h3
      match cs, hl with
      | [q1, q2, q3, q4, q5, q6, q7, q8, q9, q10, q11, q12], _ =>
        simp at e0 e1 e2 e3
        obtain ⟨rfl, rfl, rfl⟩ := e0
        obtain ⟨rfl, rfl, rfl⟩ := e1
        obtain ⟨rfl, rfl, rfl⟩ := e2
        obtain ⟨rfl, rfl, rfl⟩ := e3
        rfl
    · cases h
end
/-- From the row's condition to the walks' fact; geo.rooms stands first on the list. -/
theorem rms_of_head {rest : List (String × DataW Unit)} {w : World} (h : laidMet Tryz.prog (("levee/geo.rooms", Rows.laid_levee_geo_rooms) :: rest) w) : Rms w := by
  obtain ⟨ps, ⟨g, t, cs, fuel, p, q, hg, ht, hvar, hd, hr, rfl⟩, hn, hall⟩ := h
  obtain rfl := Option.some.inj (rooms_named.symm.trans hg)
  obtain rfl := Option.some.inj (rooms_type.symm.trans ht)
  have e := rooms_cells hd
  obtain rfl : cs = roomsA := by cases cs; simp only [Array.toList] at e; subst e; rfl
  obtain ⟨⟨c, t', hc⟩, _⟩ := hall 0 0 (by
    refine List.mem_append.2 (Or.inl (List.mem_append.2 (Or.inl ?_)))
    exact List.mem_of_getElem? (i := 0) (by kernel_rfl))
  refine ⟨t', ?_⟩
  simp only [World.var?, rooms_named, Option.bind_some, hc, Option.some.injEq] at hvar
  rw [hc, hvar]
end Go.Proofs.YthibbcokpmckfaaGreatDoor
/- Where what lies, as numbers: blocks of slabs, which address is whose; plain arithmetic. -/
namespace Go.Proofs.YthibbcokpmckfaaGreatDoor
open Go.RowKit Go.Sort
set_option linter.unusedVariables false

def byC (c : Int) : Int := if c = 1 then 64 else if c = 2 then 128 else if c = 3 then 192 else 0
def blC (c : Int) : Int := if c = 1 then 15 else if c = 2 then 7 else if c = 3 then 5 else 0
def vaC (c : Int) : Int := if c = 1 then 56 else if c = 2 then 120 else -1
def hdA (s : Int) : Int := if 1 ≤ s ∧ s ≤ 64 then 1024 * s else 0
def blkA (s c j : Int) : Int := if 1 ≤ s ∧ s ≤ 64 ∧ 0 ≤ j ∧ j < blC c then 1024 * s + 64 + j * byC c else 0
def slabA (a : Int) : Int := if 1024 ≤ a ∧ a ≤ 66559 then a / 1024 else 0
def cntA (a c : Int) : Nat := (List.range (blC c).toNat).countP fun j : Nat => !decide (a ≤ blkA (slabA a) c j)
def wantA (a c : Int) : Int := if slabA a = 0 ∨ blkA (slabA a) c (cntA a c) ≠ a then -1 else cntA a c
def slabsN (n : Int) : Int := if 2048 ≤ n ∧ n ≤ 66560 ∧ n % 1024 = 0 then n / 1024 - 1 else 0
def sizeN (s : Int) : Int := if 1 ≤ s ∧ s ≤ 64 then 1024 + 1024 * s else 0
def clsN (n : Int) : Int := if 0 ≤ n ∧ n ≤ 56 then 1 else if 57 ≤ n ∧ n ≤ 120 then 2 else 0
def keyA (b i : Int) : Int := if 0 ≤ i ∧ i ≤ 7 then b + 64 + 16 * i else 0
def fieldA (b i : Int) : Int := if 0 ≤ i ∧ i ≤ 7 then b + 8 * i else 0
def ptrA (b i : Int) : Int := if 0 ≤ i ∧ i ≤ 7 then b + 72 + 16 * i else 0
/-- Is n from lo to hi. -/
def inB (n lo hi : Int) : Bool := decide (lo ≤ n) && decide (n ≤ hi)
theorem inB_iff {n lo hi : Int} : inB n lo hi = true ↔ lo ≤ n ∧ n ≤ hi := by simp [inB]
theorem inB_yes {n lo hi : Int} (h : lo ≤ n ∧ n ≤ hi) : inB n lo hi = true := inB_iff.2 h
theorem inB_no {n lo hi : Int} (h : ¬ (lo ≤ n ∧ n ≤ hi)) : inB n lo hi = false := by rw [Bool.eq_false_iff]; exact fun k => h (inB_iff.1 k)

theorem cls (c : Int) : (c = 1 ∧ byC c = 64 ∧ blC c = 15 ∧ vaC c = 56) ∨ (c = 2 ∧ byC c = 128 ∧ blC c = 7 ∧ vaC c = 120) ∨ (c = 3 ∧ byC c = 192 ∧ blC c = 5 ∧ vaC c = -1) ∨ (c ≠ 1 ∧ c ≠ 2 ∧ c ≠ 3 ∧ byC c = 0 ∧ blC c = 0 ∧ vaC c = -1) := by
  unfold byC blC vaC
  by_cases h1 : c = 1
  · subst h1; simp
  · by_cases h2 : c = 2
    · subst h2; simp
    · by_cases h3 : c = 3
      · subst h3; simp
      · simp [h1, h2, h3]
theorem blkA_yes {s c j : Int} (h : 1 ≤ s ∧ s ≤ 64 ∧ 0 ≤ j ∧ j < blC c) : blkA s c j = 1024 * s + 64 + j * byC c := if_pos h
theorem blkA_no {s c j : Int} (h : ¬ (1 ≤ s ∧ s ≤ 64 ∧ 0 ≤ j ∧ j < blC c)) : blkA s c j = 0 := if_neg h
/-- What a block that there is has: it lies in its slab, behind its header, its bytes within the slab. -/
theorem blkA_lies {s c j : Int} (h : 1 ≤ s ∧ s ≤ 64 ∧ 0 ≤ j ∧ j < blC c) : 64 ≤ byC c ∧ byC c ≤ 192 ∧ 1024 * s + 64 ≤ blkA s c j ∧ blkA s c j + byC c ≤ 1024 * s + 1024 ∧ blkA s c j % 64 = 0 ∧ 1 ≤ c ∧ c ≤ 3 := by
  rw [blkA_yes h]
  rcases cls c with ⟨h1, h2, h3, _⟩ | ⟨h1, h2, h3, _⟩ | ⟨h1, h2, h3, _⟩ | ⟨_, _, _, h2, h3, _⟩ <;> rw [h3] at h <;> rw [h2] <;> omega
theorem blkA_range (s c j : Int) : 0 ≤ blkA s c j ∧ blkA s c j ≤ 66560 := by
  by_cases h : 1 ≤ s ∧ s ≤ 64 ∧ 0 ≤ j ∧ j < blC c
  · have := blkA_lies h
    omega
  · rw [blkA_no h]; omega
theorem slabA_blk {s c j : Int} (h : 1 ≤ s ∧ s ≤ 64 ∧ 0 ≤ j ∧ j < blC c) : slabA (blkA s c j) = s := by
  have := blkA_lies h
  unfold slabA
  rw [if_pos (by omega)]
  omega
theorem slabA_range (a : Int) : 0 ≤ slabA a ∧ slabA a ≤ 64 := by
  unfold slabA
  split <;> omega
theorem slabA_pos {a : Int} (h : slabA a ≠ 0) : 1024 ≤ a ∧ a ≤ 66559 ∧ slabA a = a / 1024 := by
  unfold slabA at h ⊢
  split at h
  · rename_i k
    rw [if_pos k]
    omega
  · omega
theorem blkA_mono {s c : Int} {i j : Nat} (h : i ≤ j) (hj : j < (blC c).toNat) : blkA s c i ≤ blkA s c j := by
  by_cases hs : 1 ≤ s ∧ s ≤ 64
  · rw [blkA_yes ⟨hs.1, hs.2, by omega, by omega⟩, blkA_yes ⟨hs.1, hs.2, by omega, by omega⟩]
    rcases cls c with ⟨_, h2, _⟩ | ⟨_, h2, _⟩ | ⟨_, h2, _⟩ | ⟨_, _, _, h2, _⟩ <;> rw [h2] <;> omega
  · rw [blkA_no (by omega), blkA_no (by omega)]
    omega
theorem cntA_le (a c : Int) : cntA a c ≤ (blC c).toNat := by
  have := List.countP_le_length (p := fun j : Nat => !decide (a ≤ blkA (slabA a) c j)) (l := List.range (blC c).toNat)
  simpa [cntA] using this
theorem cntA_blk {s c j : Int} (h : 1 ≤ s ∧ s ≤ 64 ∧ 0 ≤ j ∧ j < blC c) : (cntA (blkA s c j) c : Int) = j := by
  obtain ⟨k, rfl⟩ := Int.eq_ofNat_of_zero_le h.2.2.1
  have hk : k < (blC c).toNat := by omega
  unfold cntA
  rw [slabA_blk h]
  have hr : ∀ t, t < (blC c).toNat → (List.range (blC c).toNat)[t]! = t := fun t ht => by rw [getElem!_pos _ t (by simpa using ht)]; simp
  have := Lib.countP_boundary (fun t : Nat => !decide (blkA s c k ≤ blkA s c t)) (List.range (blC c).toNat) k (by simp; omega) (fun t ht => ?_) (fun t h3 h4 => ?_)
  · exact_mod_cast this
  · rw [hr t (by omega)]
    have e1 := blkA_yes (s := s) (c := c) (j := (t : Int)) ⟨h.1, h.2.1, by omega, by omega⟩
    have e2 := blkA_yes h
    have : ¬ (blkA s c k ≤ blkA s c t) := by
      rw [e1, e2]
      rcases cls c with ⟨_, h2, _⟩ | ⟨_, h2, _⟩ | ⟨_, h2, _⟩ | ⟨_, _, _, h2, h5, _⟩
      · rw [h2]; omega
      · rw [h2]; omega
      · rw [h2]; omega
      · omega
    simpa using this
  · rw [hr t (by simpa using h4)]
    have := blkA_mono (s := s) (c := c) h3 (by simpa using h4)
    simpa using this
theorem want_found {s c j a : Int} (h : 1 ≤ s ∧ s ≤ 64 ∧ 0 ≤ j ∧ j < blC c) (e : blkA s c j = a) : wantA a c = j := by
  subst e
  unfold wantA
  rw [slabA_blk h, cntA_blk h, if_neg (by omega)]
theorem want_none {a c : Int} (h : ∀ s j : Int, 1 ≤ s ∧ s ≤ 64 ∧ 0 ≤ j ∧ j < blC c → blkA s c j ≠ a) : wantA a c = -1 := by
  unfold wantA
  rw [if_pos]
  by_cases h0 : slabA a = 0
  · exact Or.inl h0
  · refine Or.inr fun e => ?_
    have hp := slabA_pos h0
    have hr := slabA_range a
    by_cases hv : 1 ≤ slabA a ∧ slabA a ≤ 64 ∧ 0 ≤ (cntA a c : Int) ∧ (cntA a c : Int) < blC c
    · exact h _ _ hv e
    · rw [blkA_no hv] at e
      omega
theorem want_range (a c : Int) : -1 ≤ wantA a c ∧ wantA a c ≤ 15 := by
  have h1 := cntA_le a c
  have h2 : blC c ≤ 15 := by rcases cls c with ⟨_, _, h, _⟩ | ⟨_, _, h, _⟩ | ⟨_, _, h, _⟩ | ⟨_, _, _, _, h, _⟩ <;> rw [h] <;> omega
  unfold wantA
  split <;> omega
theorem blC_range (c : Int) : 0 ≤ blC c ∧ blC c ≤ 15 := by rcases cls c with ⟨_, _, h, _⟩ | ⟨_, _, h, _⟩ | ⟨_, _, h, _⟩ | ⟨_, _, _, _, h, _⟩ <;> rw [h] <;> omega
end Go.Proofs.YthibbcokpmckfaaGreatDoor
/- Contracts of geo's small functions: within, isSlab, isEntry, roomOf, Bytes, Blocks, Header, Bits, Line, Key, Ptr, Field, Size, Slab; for any numbers. -/
namespace Go.Proofs.YthibbcokpmckfaaGreatDoor
open Go.RowKit Go.Sort
set_option linter.unusedVariables false

theorem gret_int {k : IntKind} {a b : Int} (h : a = b) : Ending.returned (.int k a) = .returned (.int k b) := by rw [h]

theorem within_at {n lo hi : Int} {b : Bool} (hb : inB n lo hi = b) (w : World) : Calls Tryz.prog 106 #[.int .i64 n, .int .i64 lo, .int .i64 hi] w fun e w' => e = .returned (.bool b) ∧ w = w' := by
  subst hb
  by_cases h1 : lo ≤ n
  · by_cases h2 : n ≤ hi
    · rw [inB_yes ⟨h1, h2⟩]
      go_enter Tryz.func106, Tryz.ntmps106
      go_wp2
      go_ret
      exact ⟨rfl, rfl⟩
    · rw [inB_no (by omega)]
      have h2' : hi < n := by omega
      go_enter Tryz.func106, Tryz.ntmps106
      go_wp2
      go_ret
      exact ⟨rfl, rfl⟩
  · rw [inB_no (by omega)]
    have h1' : n < lo := by omega
    go_enter Tryz.func106, Tryz.ntmps106
    go_wp2
    go_ret
    exact ⟨rfl, rfl⟩
theorem isSlab_at {s : Int} {b : Bool} (hb : inB s 1 64 = b) (w : World) : Calls Tryz.prog 79 #[.int .i64 s] w fun e w' => e = .returned (.bool b) ∧ w = w' := by
  have H := Lib.hid hb
  clear hb
  go_enter Tryz.func79, Tryz.ntmps79
  go_wp2_with fail
  refine (within_at H.out _).mono ?_
  rintro e w' ⟨rfl, rfl⟩
  go_wp2
  go_ret
  exact ⟨rfl, rfl⟩
theorem rooms_cell {w : World} (R : Rms w) (i : Nat) {v : Value} (hv : roomsA[i]? = some v) : w.cell? ⟨0, i, none⟩ = some v := by
  obtain ⟨t, h⟩ := R
  rw [cell_of_row w 0 i roomsA t (0, 0) h]
  exact hv
set_option maxHeartbeats 400000 in
theorem roomOf_in {c x y z : Int} (w : World) (R : Rms w) (hc : 0 ≤ c ∧ c ≤ 3) (hx : roomsA[3 * c.toNat]? = some (.int .i64 x)) (hy : roomsA[3 * c.toNat + 1]? = some (.int .i64 y)) (hz : roomsA[3 * c.toNat + 2]? = some (.int .i64 z)) :
    Calls Tryz.prog 89 #[.int .i64 c] w fun e w' => e = .returned (.agg #[.int .i64 x, .int .i64 y, .int .i64 z]) ∧ Gr w w' := by
  have HB := Lib.hid (inB_yes hc)
  have c0 := rooms_cell R _ hx
  have c1 := rooms_cell R _ hy
  have c2 := rooms_cell R _ hz
  clear hx hy hz R
  have hcc : c = 0 ∨ c = 1 ∨ c = 2 ∨ c = 3 := by omega
  rcases hcc with rfl | rfl | rfl | rfl
  all_goals
    have n0 := w.block_lt_of_cell? _ c0
    have n1 := w.block_lt_of_cell? _ c1
    have n2 := w.block_lt_of_cell? _ c2
    simp at c0 c1 c2 n0 n1 n2
    go_enter Tryz.func89, Tryz.ntmps89
    go_wp2_with fail
    refine (within_at HB.out _).mono ?_
    rintro e w' ⟨rfl, rfl⟩
    go_wp2
    refine bodyPost_ret (v := .agg #[.int .i64 x, .int .i64 y, .int .i64 z]) (by simp [results, Tryz.results89, go_sem]) rfl ⟨rfl, (Gr.refl _).alloc _⟩
theorem roomOf_out {c : Int} (w : World) (R : Rms w) (hc : ¬ (0 ≤ c ∧ c ≤ 3)) :
    Calls Tryz.prog 89 #[.int .i64 c] w fun e w' => e = .returned (.agg #[.int .i64 0, .int .i64 0, .int .i64 (-1)]) ∧ Gr w w' := by
  have HB := Lib.hid (inB_no hc)
  have c0 : w.cell? ⟨0, 0, none⟩ = some (.int .i64 0) := rooms_cell R 0 rfl
  have c1 : w.cell? ⟨0, 1, none⟩ = some (.int .i64 0) := rooms_cell R 1 rfl
  have c2 : w.cell? ⟨0, 2, none⟩ = some (.int .i64 (-1)) := rooms_cell R 2 rfl
  clear R hc
  have n0 := w.block_lt_of_cell? _ c0
  go_enter Tryz.func89, Tryz.ntmps89
  go_wp2_with fail
  refine (within_at HB.out _).mono ?_
  rintro e w' ⟨rfl, rfl⟩
  go_wp2
  refine bodyPost_ret (v := .agg #[.int .i64 0, .int .i64 0, .int .i64 (-1)]) (by simp [results, Tryz.results89, go_sem]) rfl ⟨rfl, (Gr.refl _).alloc _⟩
theorem roomOf_any (c : Int) (w : World) (R : Rms w) : Calls Tryz.prog 89 #[.int .i64 c] w fun e w' => e = .returned (.agg #[.int .i64 (byC c), .int .i64 (blC c), .int .i64 (vaC c)]) ∧ Gr w w' := by
  by_cases hc : 0 ≤ c ∧ c ≤ 3
  · refine roomOf_in w R hc ?_ ?_ ?_
    all_goals
      have hcc : c = 0 ∨ c = 1 ∨ c = 2 ∨ c = 3 := by omega
      rcases hcc with rfl | rfl | rfl | rfl <;> rfl
  · rcases cls c with ⟨h, _⟩ | ⟨h, _⟩ | ⟨h, _⟩ | ⟨_, _, _, h1, h2, h3⟩
    · omega
    · omega
    · omega
    · rw [h1, h2, h3]
      exact roomOf_out w R hc
theorem field0 (x y z : Int) (w : World) : (Instr.field 157 (.agg #[.int .i64 x, .int .i64 y, .int .i64 z]) 0).run Tryz.prog w = .ok (.int .i64 x) w := by kernel_rfl
theorem field1 (x y z : Int) (w : World) : (Instr.field 157 (.agg #[.int .i64 x, .int .i64 y, .int .i64 z]) 1).run Tryz.prog w = .ok (.int .i64 y) w := by kernel_rfl
theorem blocks_any (c : Int) (w : World) (R : Rms w) : Calls Tryz.prog 54 #[.int .i64 c] w fun e w' => e = .returned (.int .i64 (blC c)) ∧ Gr w w' := by
  have H := Lib.hid (roomOf_any c w R)
  clear R
  go_enter Tryz.func54, Tryz.ntmps54
  go_wp2_with fail
  refine H.out.mono ?_
  rintro e w' ⟨rfl, hg⟩
  have hf := field1 (byC c) (blC c) (vaC c) w'
  go_wp2
  go_ret
  exact ⟨rfl, hg⟩
theorem size_any (s : Int) (w : World) : Calls Tryz.prog 100 #[.int .i64 s] w fun e w' => e = .returned (.int .i64 (sizeN s)) ∧ w = w' := by
  by_cases h : 1 ≤ s ∧ s ≤ 64
  · have HB := Lib.hid (inB_yes h)
    have e : sizeN s = 1024 + 1024 * s := if_pos h
    have HE := Lib.hid e
    obtain ⟨h1, h2⟩ := h
    clear e
    go_enter Tryz.func100, Tryz.ntmps100
    go_wp2_with fail
    refine (isSlab_at HB.out _).mono ?_
    rintro e w' ⟨rfl, rfl⟩
    go_wp2
    go_ret
    exact ⟨gret_int (by rw [HE.out]; omega), rfl⟩
  · have HB := Lib.hid (inB_no h)
    have e : sizeN s = 0 := if_neg h
    rw [e]
    clear h e
    go_enter Tryz.func100, Tryz.ntmps100
    go_wp2_with fail
    refine (isSlab_at HB.out _).mono ?_
    rintro e w' ⟨rfl, rfl⟩
    go_wp2
    go_ret
    exact ⟨rfl, rfl⟩
theorem header_any (s : Int) (w : World) : Calls Tryz.prog 84 #[.int .i64 s] w fun e w' => e = .returned (.int .u64 (hdA s)) ∧ w = w' := by
  by_cases h : 1 ≤ s ∧ s ≤ 64
  · have HB := Lib.hid (inB_yes h)
    have e : hdA s = 1024 * s := if_pos h
    have HE := Lib.hid e
    obtain ⟨h1, h2⟩ := h
    clear e
    go_enter Tryz.func84, Tryz.ntmps84
    go_wp2_with fail
    refine (isSlab_at HB.out _).mono ?_
    rintro e w' ⟨rfl, rfl⟩
    go_wp2
    go_ret
    exact ⟨gret_int (by rw [HE.out]; omega), rfl⟩
  · have HB := Lib.hid (inB_no h)
    have e : hdA s = 0 := if_neg h
    rw [e]
    clear h e
    go_enter Tryz.func84, Tryz.ntmps84
    go_wp2_with fail
    refine (isSlab_at HB.out _).mono ?_
    rintro e w' ⟨rfl, rfl⟩
    go_wp2
    go_ret
    exact ⟨rfl, rfl⟩
theorem hdA_range (s : Int) : 0 ≤ hdA s ∧ hdA s ≤ 65536 := by
  unfold hdA
  split <;> omega
theorem bits_yes {s : Int} (h : 1 ≤ s ∧ s ≤ 64) (w : World) : Calls Tryz.prog 85 #[.int .i64 s] w fun e w' => e = .returned (.int .u64 (hdA s + 8)) ∧ w = w' := by
  have HB := Lib.hid (inB_yes h)
  have hr := hdA_range s
  obtain ⟨h1, h2⟩ := h
  go_enter Tryz.func85, Tryz.ntmps85
  go_wp2_with fail
  refine (isSlab_at HB.out _).mono ?_
  rintro e w' ⟨rfl, rfl⟩
  go_wp2_with fail
  refine (header_any s _).mono ?_
  rintro e w' ⟨rfl, rfl⟩
  go_wp2
  go_ret
  exact ⟨rfl, rfl⟩
theorem bits_no {s : Int} (h : ¬ (1 ≤ s ∧ s ≤ 64)) (w : World) : Calls Tryz.prog 85 #[.int .i64 s] w fun e w' => e = .returned (.int .u64 0) ∧ w = w' := by
  have HB := Lib.hid (inB_no h)
  clear h
  go_enter Tryz.func85, Tryz.ntmps85
  go_wp2_with fail
  refine (isSlab_at HB.out _).mono ?_
  rintro e w' ⟨rfl, rfl⟩
  go_wp2
  go_ret
  exact ⟨rfl, rfl⟩
theorem keyA_range {b : Int} (h0 : 0 ≤ b) (h1 : b ≤ 1099511627776) (i : Int) : 0 ≤ keyA b i ∧ keyA b i ≤ 1099511628000 := by
  unfold keyA
  split <;> omega
theorem hdA_1 : hdA 1 = 1024 := rfl
theorem hdA_64 : hdA 64 = 65536 := rfl
end Go.Proofs.YthibbcokpmckfaaGreatDoor
/- Contracts of geo's Slabs, Class, Block, of Index's closure; for any numbers, where geo.rooms holds what its initialiser lays. -/
namespace Go.Proofs.YthibbcokpmckfaaGreatDoor
open Go.RowKit Go.Sort
set_option linter.unusedVariables false

theorem Calls.swap {P : Program} {f : FuncId} {args : Array Value} {w : World} {v : Value} (h : Calls P f args w fun e w' => e = .returned v ∧ w = w') : Calls P f args w fun e w' => e = .returned v ∧ w' = w := h.mono fun _ _ ⟨a, b⟩ => ⟨a, b.symm⟩

theorem slabs_yes {n : Int} (h : 2048 ≤ n ∧ n ≤ 66560 ∧ n % 1024 = 0) (w : World) : Calls Tryz.prog 41 #[.int .i64 n] w fun e w' => e = .returned (.tuple #[.int .i64 (n / 1024 - 1), .bool true]) ∧ w = w' := by
  obtain ⟨h1, h2, h3⟩ := h
  have HB := Lib.hid (inB_yes (n := n / 1024 - 1) (lo := 1) (hi := 64) (by omega))
  have ht : ((n % 1024) != 0) = false := by simp [h3]
  clear h3
  go_enter Tryz.func41, Tryz.ntmps41
  go_wp2_with fail
  refine (isSlab_at HB.out _).mono ?_
  rintro e w' ⟨rfl, rfl⟩
  go_wp2
  go_ret2
  exact ⟨rfl, rfl⟩
theorem slabs_odd {n : Int} (h0 : 0 ≤ n) (h3 : n % 1024 ≠ 0) (w : World) : Calls Tryz.prog 41 #[.int .i64 n] w fun e w' => e = .returned (.tuple #[.int .i64 0, .bool false]) ∧ w = w' := by
  have ht : ((n % 1024) != 0) = true := by simp [h3]
  clear h3
  go_enter Tryz.func41, Tryz.ntmps41
  go_wp2
  go_ret2
  exact ⟨rfl, rfl⟩
theorem slabs_out {n : Int} (h0 : 0 ≤ n) (h3 : n % 1024 = 0) (h : ¬ (2048 ≤ n ∧ n ≤ 66560)) (hb : n ≤ 9223372036854775807) (w : World) : Calls Tryz.prog 41 #[.int .i64 n] w fun e w' => e = .returned (.tuple #[.int .i64 0, .bool false]) ∧ w = w' := by
  have HB := Lib.hid (inB_no (n := n / 1024 - 1) (lo := 1) (hi := 64) (by omega))
  have ht : ((n % 1024) != 0) = false := by simp [h3]
  clear h3 h
  go_enter Tryz.func41, Tryz.ntmps41
  go_wp2_with fail
  refine (isSlab_at HB.out _).mono ?_
  rintro e w' ⟨rfl, rfl⟩
  go_wp2
  go_ret2
  exact ⟨rfl, rfl⟩
theorem slabs_neg {n : Int} (h0 : n < 0) (hn : -9223372036854775808 ≤ n) (w : World) : Calls Tryz.prog 41 #[.int .i64 n] w fun e w' => e = .returned (.tuple #[.int .i64 0, .bool false]) ∧ w = w' := by
  obtain ⟨q, hq⟩ : ∃ q, q = n.tdiv 1024 := ⟨_, rfl⟩
  have q3 : q = -((-n) / 1024) := by
    rw [hq, ← Int.tdiv_eq_ediv_of_nonneg (a := -n) (b := 1024) (by omega), Int.neg_tdiv]
    omega
  have q1 : q ≤ 0 := by omega
  have q2 : -9223372036854775807 ≤ q := by omega
  clear q3
  have HB := Lib.hid (inB_no (n := q - 1) (lo := 1) (hi := 64) (by omega))
  have HQ : n.tdiv 1024 = q := hq.symm
  clear hq
  cases hm : (n.tmod 1024 != 0)
  · go_enter Tryz.func41, Tryz.ntmps41
    go_wp2_with fail
    refine (isSlab_at HB.out _).mono ?_
    rintro e w' ⟨rfl, rfl⟩
    go_wp2
    go_ret2
    exact ⟨rfl, rfl⟩
  · go_enter Tryz.func41, Tryz.ntmps41
    go_wp2
    go_ret2
    exact ⟨rfl, rfl⟩
theorem slabs_no {n : Int} (h : ¬ (2048 ≤ n ∧ n ≤ 66560 ∧ n % 1024 = 0)) (hn : -9223372036854775808 ≤ n) (hb : n ≤ 9223372036854775807) (w : World) : Calls Tryz.prog 41 #[.int .i64 n] w fun e w' => e = .returned (.tuple #[.int .i64 0, .bool false]) ∧ w = w' := by
  by_cases h0 : 0 ≤ n
  · by_cases h3 : n % 1024 = 0
    · exact slabs_out h0 h3 (by omega) hb w
    · exact slabs_odd h0 h3 w
  · exact slabs_neg (by omega) hn w
theorem under_rooms : Tryz.prog.underlying 174 = some (.array 4 157) := Tryz.underlying174
theorem info_rooms : (Tryz.prog.info? 174).map (·.size) = some roomsA.size := by kernel_rfl
theorem idx0 (w : World) : (Instr.index 174 (.agg roomsA) (.int .i64 0)).run Tryz.prog w = .ok (.agg #[.int .i64 0, .int .i64 0, .int .i64 (-1)]) w := by kernel_rfl
theorem idx1 (w : World) : (Instr.index 174 (.agg roomsA) (.int .i64 1)).run Tryz.prog w = .ok (.agg #[.int .i64 64, .int .i64 15, .int .i64 56]) w := by kernel_rfl
theorem idx2 (w : World) : (Instr.index 174 (.agg roomsA) (.int .i64 2)).run Tryz.prog w = .ok (.agg #[.int .i64 128, .int .i64 7, .int .i64 120]) w := by kernel_rfl
theorem idx3 (w : World) : (Instr.index 174 (.agg roomsA) (.int .i64 3)).run Tryz.prog w = .ok (.agg #[.int .i64 192, .int .i64 5, .int .i64 (-1)]) w := by kernel_rfl
/-- What the classes below k don't take. -/
def Left (n : Int) (k : Nat) : Prop := (2 ≤ k → ¬ (0 ≤ n ∧ n ≤ 56)) ∧ (3 ≤ k → ¬ (0 ≤ n ∧ n ≤ 120))
end Go.Proofs.YthibbcokpmckfaaGreatDoor
/- Contracts of geo's Block, and of Index's closure; for any numbers, where geo.rooms holds what its initialiser lays. -/
namespace Go.Proofs.YthibbcokpmckfaaGreatDoor
open Go.RowKit Go.Sort
set_option linter.unusedVariables false

theorem block_out {s : Int} (h : ¬ (1 ≤ s ∧ s ≤ 64)) (c j : Int) (w : World) (R : Rms w) : Calls Tryz.prog 104 #[.int .i64 s, .int .i64 c, .int .i64 j] w fun e w' => e = .returned (.int .u64 0) ∧ Gr w w' := by
  have HB := Lib.hid (inB_no h)
  have HR := Lib.hid (roomOf_any c w R)
  clear h R
  generalize byC c = x at HR
  generalize blC c = y at HR
  generalize vaC c = z at HR
  go_enter Tryz.func104, Tryz.ntmps104
  go_wp2_with fail
  refine HR.out.mono ?_
  rintro e w1 ⟨rfl, hg⟩
  go_wp2_with fail
  refine (isSlab_at HB.out _).mono ?_
  rintro e w' ⟨rfl, rfl⟩
  go_wp2
  go_ret
  exact ⟨rfl, hg.alloc _⟩
theorem block_none {s c j : Int} (h : 1 ≤ s ∧ s ≤ 64) (hj : ¬ (0 ≤ j ∧ j < blC c)) (w : World) (R : Rms w) : Calls Tryz.prog 104 #[.int .i64 s, .int .i64 c, .int .i64 j] w fun e w' => e = .returned (.int .u64 0) ∧ Gr w w' := by
  have HB := Lib.hid (inB_yes h)
  have HR := Lib.hid (roomOf_any c w R)
  have hy : 0 ≤ blC c ∧ blC c ≤ 15 := by rcases cls c with ⟨_, _, h, _⟩ | ⟨_, _, h, _⟩ | ⟨_, _, h, _⟩ | ⟨_, _, _, _, h, _⟩ <;> rw [h] <;> omega
  have HJ := Lib.hid (inB_no (n := j) (lo := 0) (hi := blC c - 1) (by omega))
  clear h R hj
  generalize byC c = x at HR
  generalize blC c = y at HR hy HJ
  generalize vaC c = z at HR
  go_enter Tryz.func104, Tryz.ntmps104
  go_wp2_with fail
  refine HR.out.mono ?_
  rintro e w1 ⟨rfl, hg⟩
  go_wp2_with fail
  refine (isSlab_at HB.out _).mono ?_
  rintro e w' ⟨rfl, rfl⟩
  go_wp2_with fail
  refine (within_at HJ.out _).mono ?_
  rintro e w' ⟨rfl, rfl⟩
  go_wp2
  go_ret
  exact ⟨rfl, hg.alloc _⟩
set_option maxHeartbeats 800000 in
theorem block_in {s c j x y z : Int} (h : 1 ≤ s ∧ s ≤ 64) (hj : 0 ≤ j ∧ j ≤ y - 1) (hy : y ≤ 15) (hx : x = 64 ∨ x = 128 ∨ x = 192) (w : World)
    (HR : Hid (Calls Tryz.prog 89 #[.int .i64 c] w fun e w' => e = .returned (.agg #[.int .i64 x, .int .i64 y, .int .i64 z]) ∧ Gr w w')) :
    Calls Tryz.prog 104 #[.int .i64 s, .int .i64 c, .int .i64 j] w fun e w' => e = .returned (.int .u64 (1024 * s + 64 + j * x)) ∧ Gr w w' := by
  have HB := Lib.hid (inB_yes h)
  have HJ := Lib.hid (inB_yes hj)
  have HH := Lib.hid fun w => Calls.swap (header_any s w)
  have hh := hdA_range s
  have HE := Lib.hid (show hdA s = 1024 * s from if_pos h)
  obtain ⟨h1, h2⟩ := h
  obtain ⟨j1, j2⟩ := hj
  have j3 : j ≤ 14 := by omega
  rcases hx with rfl | rfl | rfl
  all_goals
    go_enter Tryz.func104, Tryz.ntmps104
    go_wp2_with fail
    refine HR.out.mono ?_
    rintro e w1 ⟨rfl, hg⟩
    go_wp2_with fail
    refine (isSlab_at HB.out _).mono ?_
    rintro e w' ⟨rfl, rfl⟩
    go_wp2_with fail
    refine (within_at HJ.out _).mono ?_
    rintro e w' ⟨rfl, rfl⟩
    go_wp2
    go_quiet ((go_at_call 84; exact Calls.quiet_of_same (HH.out _)))
    go_wp2
    go_ret
    exact ⟨gret_int (by rw [HE.out]), (hg.alloc _).drewN _⟩
theorem block_any (s c j : Int) (w : World) (R : Rms w) : Calls Tryz.prog 104 #[.int .i64 s, .int .i64 c, .int .i64 j] w fun e w' => e = .returned (.int .u64 (blkA s c j)) ∧ Gr w w' := by
  by_cases h : 1 ≤ s ∧ s ≤ 64
  · by_cases hj : 0 ≤ j ∧ j < blC c
    · rw [blkA_yes ⟨h.1, h.2, hj.1, hj.2⟩]
      have HR := Lib.hid (roomOf_any c w R)
      rcases cls c with ⟨_, h2, h3, _⟩ | ⟨_, h2, h3, _⟩ | ⟨_, h2, h3, _⟩ | ⟨_, _, _, _, h3, _⟩
      · exact block_in h (by omega) (by omega) (by omega) w HR
      · exact block_in h (by omega) (by omega) (by omega) w HR
      · exact block_in h (by omega) (by omega) (by omega) w HR
      · omega
    · rw [blkA_no (by omega)]
      exact block_none h hj w R
  · rw [blkA_no (by omega)]
    exact block_out h c j w R
end Go.Proofs.YthibbcokpmckfaaGreatDoor
