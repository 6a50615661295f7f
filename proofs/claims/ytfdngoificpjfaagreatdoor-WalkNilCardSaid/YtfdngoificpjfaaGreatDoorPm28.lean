/- Texts of this claim, packed: N9W, N8RefP, N8RefS, N8RefM, SnTl, SnRt. -/
import Derived.Test.YtfdngoificpjfaaGreatDoorPm27
import Derived.Test.YtfdngoificpjfaaGreatDoorPm24
import Derived.Test.YtfdngoificpjfaaGreatDoorPm20
import Derived.Deep.RegionLaw
import Derived.Deep.AppendLies
/- Worlds that have grown: small facts; no conditions. -/
namespace Go.Proofs.YtfdngoificpjfaaGreatDoor
open Go.RowKit Go.Sort
set_option linter.unusedVariables false
theorem frozen_grown9 {w w' : World} {row : Option Nat} (hg : w.grownBy w' row) {p : Addr} (hl : p.block < w.heap.size) (hn : some p.block ≠ row) (hf : w.frozen? p = false) : w'.frozen? p = false := by
  rw [World.frozen?_of_block (hg.block _ hl hn)]; exact hf
theorem frozen_alloc9 {w : World} {p : Addr} (hl : p.block < w.heap.size) (o : Obj) : (w.alloc o).frozen? p = w.frozen? p := World.frozen?_of_block (Below.heap_alloc w o p.block hl)
theorem heap_alloc_new9 (w : World) (o : Obj) : (w.alloc o).heap[w.heap.size]? = some o := by
  unfold World.alloc
  exact Array.getElem?_push_size
theorem drew_low9 (w : World) : Below w.heap.size w w.drew := ⟨rfl, rfl, rfl, Nat.le_refl _, fun _ _ => rfl⟩
end Go.Proofs.YtfdngoificpjfaaGreatDoor
/- The document's Places and Valid: in new memory; of any node; without conditions. -/
namespace Go.Proofs.YtfdngoificpjfaaGreatDoor
open Go.RowKit
set_option linter.unusedVariables false
def iv8 (n : Nat) : Value := .int .i64 (n : Int)
theorem info8I : (Tryz.prog.info? 3).map (fun i => (i.zero, i.size, i.bytes)) = some (some (.int .i64 0), 1, 8) := by kernel_rfl
theorem infoE8 : (Tryz.prog.info? 105).map (fun i => (i.zero, i.size, i.bytes)) = some (some (.agg #[.int .u64 0, .int .u64 0]), 2, 16) := by kernel_rfl
theorem own_getI {w : World} {B : Nat} {v : Value} {l : List Nat} (h : w.ownsRow B 3 1 v l.length (l.map iv8)) : ∃ A cap, v = .slice A l.length cap ∧ ∀ k, k < l.length → ∃ g, A = some ⟨g, 0, none⟩ ∧ w.cell? ⟨g, k, none⟩ = some (iv8 (l.getD k 0)) := by
  obtain ⟨A, cap, rfl, _, _, hs, _⟩ := own_sl h
  refine ⟨A, cap, rfl, fun k hk => ?_⟩
  obtain ⟨g, cap', he, _, _, hs'⟩ := own_some h (by omega)
  cases he
  refine ⟨g, rfl, ?_⟩
  have := hs' k (iv8 (l.getD k 0)) (by rw [List.getElem?_map, List.getD_eq_getElem?_getD, List.getElem?_eq_getElem hk]; rfl)
  obtain ⟨a, ha, hc⟩ := this
  cases ha
  rw [add_lit] at hc
  exact hc
end Go.Proofs.YtfdngoificpjfaaGreatDoor
/- The document's Rise and May: of any node, any few entries; without conditions else. -/
namespace Go.Proofs.YtfdngoificpjfaaGreatDoor
open Go.RowKit
set_option linter.unusedVariables false
/-- What Rise asks, as the program has it in two. -/
def riseR (level low first : Int) (l : List (Int × Int)) : Bool := riseB low (decide (level ≤ 0)) l && unlB first l
theorem drewN_two (w : World) (a b : Nat) : ∃ q, (w.drewN a).drewN b = w.drewN q := by
  exact ⟨_, World.drewN_drewN _ _ _⟩
theorem rise_last {a : Int} {c : Bool} : ∀ {l : List (Int × Int)} {e : Int × Int}, riseB a c (l ++ [e]) = (riseB a c l && match l.getLast? with | some x => decide (x.1 < e.1) | none => decide (¬ (e.1 < a ∨ (e.1 = a ∧ c = false)))) := by
  intro l
  induction l generalizing a c with
  | nil => intro e; simp only [List.nil_append, riseB, List.getLast?_nil, Bool.true_and]; split <;> simp_all
  | cons x t ih =>
    intro e
    rw [List.cons_append, riseB, riseB]
    split
    · rfl
    · rw [ih]
      cases t with
      | nil =>
        simp only [List.getLast?_nil, List.getLast?_singleton, riseB, Bool.true_and]
        congr 1
        apply propext
        simp
        omega
      | cons y t =>
        obtain ⟨z, hz⟩ : ∃ z, (y :: t).getLast? = some z := ⟨_, List.getLast?_eq_some_getLast (by simp)⟩
        rw [List.getLast?_cons_cons, hz]
theorem unl_last {f : Int} {l : List (Int × Int)} {e : Int × Int} : unlB f (l ++ [e]) = (unlB f l && decide (e.2 ≠ f ∧ ∀ x ∈ l, x.2 ≠ e.2)) := by
  unfold unlB
  rw [← Bool.decide_and]
  congr 1
  apply propext
  rw [List.map_append, ← List.cons_append, List.nodup_append]
  constructor
  · rintro ⟨h1, _, h3⟩
    refine ⟨h1, fun h => h3 f (by simp) e.2 (by simp) h.symm, fun x hx h => h3 x.2 (by simp; exact Or.inr ⟨x.1, hx⟩) e.2 (by simp) h⟩
  · rintro ⟨h1, h2, h3⟩
    refine ⟨h1, by simp, fun a ha b hb => ?_⟩
    simp at hb
    subst hb
    rcases List.mem_cons.1 ha with rfl | ha
    · exact fun h => h2 h.symm
    · obtain ⟨x, hx, rfl⟩ := List.mem_map.1 ha
      exact h3 x hx
theorem riseR_pre {level low first : Int} {l : List (Int × Int)} (k : Nat) (h : riseR level low first (l.take k) = false) : riseR level low first l = false := by
  rw [Bool.eq_false_iff] at h ⊢
  intro hh
  refine h ?_
  unfold riseR at hh ⊢
  rw [Bool.and_eq_true] at hh ⊢
  exact ⟨riseB_sub hh.1 (List.take_sublist _ _), unlB_sub hh.2 (List.take_sublist _ _)⟩
theorem riseR_step {level low first : Int} {l : List (Int × Int)} {k : Nat} (hk : k < l.length) (h : riseR level low first (l.take k) = true) :
    riseR level low first (l.take (k + 1)) = (decide (¬ ((l.getD k (0, 0)).1 < low ∨ (0 < level ∧ (l.getD k (0, 0)).1 = low)) ∧ ¬ ((0 < k ∧ (l.getD k (0, 0)).1 ≤ (l.getD (k - 1) (0, 0)).1) ∨ (l.getD k (0, 0)).2 = first) ∧ ∀ j, j < k → (l.getD j (0, 0)).2 ≠ (l.getD k (0, 0)).2)) := by
  have hge : l.getD k (0, 0) = l[k] := by rw [List.getD_eq_getElem?_getD, List.getElem?_eq_getElem hk]; rfl
  rw [List.take_succ_eq_append_getElem hk, hge]
  unfold riseR at h ⊢
  rw [Bool.and_eq_true] at h
  rw [rise_last, unl_last, h.1, h.2, Bool.true_and, Bool.true_and]
  have hu : (∀ x ∈ l.take k, x.2 ≠ l[k].2) ↔ ∀ j, j < k → (l.getD j (0, 0)).2 ≠ l[k].2 := by
    constructor
    · intro hh j hj
      refine hh _ ?_
      rw [List.getD_eq_getElem?_getD, List.getElem?_eq_getElem (by omega)]
      exact List.mem_take_iff_getElem.2 ⟨j, by omega, rfl⟩
    · intro hh x hx
      obtain ⟨j, hj, rfl⟩ := List.mem_take_iff_getElem.1 hx
      have := hh j (by omega)
      rw [List.getD_eq_getElem?_getD, List.getElem?_eq_getElem (by omega)] at this
      exact this
  have hfst : (match (l.take k).getLast? with | some x => decide (x.1 < l[k].1) | none => decide (¬ (l[k].1 < low ∨ (l[k].1 = low ∧ decide (level ≤ 0) = false)))) = decide (¬ (l[k].1 < low ∨ (0 < level ∧ l[k].1 = low)) ∧ ¬ (0 < k ∧ l[k].1 ≤ (l.getD (k - 1) (0, 0)).1)) := by
    cases k with
    | zero =>
      simp only [List.take_zero, List.getLast?_nil]
      congr 1
      apply propext
      simp
      omega
    | succ k =>
      have hl : (l.take (k + 1)).getLast? = some (l.getD k (0, 0)) := by
        have hk2 : k < l.length := by omega
        rw [List.take_succ_eq_append_getElem hk2, List.getLast?_append, List.getD_eq_getElem?_getD, List.getElem?_eq_getElem hk2]
        rfl
      have hm := ((riseB_iff _ _ _).1 h.1).1 (l.getD k (0, 0)) (List.mem_of_getLast? hl)
      rw [hl, Nat.add_sub_cancel]
      dsimp only
      congr 1
      apply propext
      simp at hm ⊢
      omega
  rw [hfst, ← Bool.decide_and]
  congr 1
  apply propext
  rw [hu]
  constructor
  · rintro ⟨⟨h1, h2⟩, h3, h4⟩
    exact ⟨h1, fun hh => Or.elim hh h2 h3, h4⟩
  · rintro ⟨h1, h2, h3⟩
    exact ⟨⟨h1, fun hh => h2 (Or.inl hh)⟩, fun hh => h2 (Or.inr hh), h3⟩
end Go.Proofs.YtfdngoificpjfaaGreatDoor
/- The document's May: of any node; without conditions. -/
namespace Go.Proofs.YtfdngoificpjfaaGreatDoor
open Go.RowKit
set_option linter.unusedVariables false
theorem may_r (n : Nd) (high : Int) (has : Bool) : n.may high has = ((decide (0 ≤ n.l) && decide (n.l ≤ 15)) && (n.fi != 0) && !(has && decide (high ≤ n.lo)) && (decide (n.len ≤ n.es.length + 1) && riseR n.l n.lo n.fi n.es)) := by
  unfold Nd.may riseR
  by_cases h : 0 ≤ n.l
  · rw [show decide (n.l = 0) = decide (n.l ≤ 0) by congr 1; apply propext; omega]
    cases decide (0 ≤ n.l) <;> cases decide (n.l ≤ 15) <;> cases (n.fi != 0) <;> cases (has && decide (high ≤ n.lo)) <;> cases decide (n.len ≤ n.es.length + 1) <;> simp
  · rw [show decide (0 ≤ n.l) = false by simpa using h]
    simp
end Go.Proofs.YtfdngoificpjfaaGreatDoor
/- The law's trim; which nodes the law takes; no conditions. -/
namespace Go.Proofs.YtfdngoificpjfaaGreatDoor
open Go.RowKit
set_option linter.unusedVariables false
attribute [local go_sem] Oper.semAt_some
theorem TrK.len {n m : Nd} {i : Nat} (h : TrK n m i) : m.len = n.len := by
  refine m.len_eq n.len_le (fun j hj => ?_) (fun h8 => ?_)
  · have := n.len_le
    rw [h.2.1 j (by omega)]
    exact n.len_before hj
  · rw [h.2.1 _ h8]
    exact n.len_at h8
theorem TrK.done {n m : Nd} (h : TrK n m 8) : m.tr (m.len + 1) m.len = n.tr n.len n.len := by
  rw [h.len]
  refine Nd.ext_of h.1 (fun i hi => ?_) (fun i hi => ?_)
  · rw [m.tr_key _ _ hi, n.tr_key _ _ hi, h.2.2 i hi]
    by_cases h1 : i < n.len
    · rw [if_pos (by omega), if_neg (by omega), if_pos h1]
    · rw [if_neg h1, if_pos (show n.len ≤ i ∧ i < 8 by omega)]
      split <;> rfl
  · rw [m.tr_ptr _ _ hi, n.tr_ptr _ _ hi, h.2.1 i hi]
/-- The node that the law takes, and whether it does. -/
def Nd.side (n : Nd) : Nd := if n.nx = 0 then n else { n with nx := 1280 }
def rightB (n : Nd) : Bool := n.side.may 0 false && decide (n.side.inv < 0)
theorem Nd.side_eq {n : Nd} (h : n.nx = 0) : n.side = n := by unfold Nd.side; rw [if_pos h]
theorem Nd.side_cl {n : Nd} (h : n.nx ≠ 0) : n.cl.toArray.setIfInBounds 2 (uw 1280) = n.side.cl.toArray := by unfold Nd.side; rw [if_neg h]; rfl
end Go.Proofs.YtfdngoificpjfaaGreatDoor
/- Which nodes the law takes; no conditions. -/
namespace Go.Proofs.YtfdngoificpjfaaGreatDoor
open Go.RowKit
set_option linter.unusedVariables false
attribute [local go_sem] Oper.semAt_some
theorem NdAt_setCells {w : World} {b g : Nat} {n : Nd} (h : NdAt w g n) (hb : b ≠ g) (vs : List Value) : NdAt (w.setCells b 0 vs) g n := by
  have : ∀ (vs : List Value) (o : Nat) (w : World), NdAt w g n → NdAt (w.setCells b o vs) g n := by
    intro vs
    induction vs with
    | nil => exact fun o w h => h
    | cons v t ih => exact fun o w h => ih (o + 1) _ (h.other (p := ⟨b, o, none⟩) (fun e => hb e.symm) v)
  exact this vs 0 w h
theorem drew_low11 (w : World) : Below w.heap.size w w.drew := (Below.refl _ w).drew
end Go.Proofs.YtfdngoificpjfaaGreatDoor
