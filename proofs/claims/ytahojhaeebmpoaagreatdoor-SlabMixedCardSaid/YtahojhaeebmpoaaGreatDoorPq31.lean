/- Texts of this claim, packed: BApp. -/
import Derived.Test.YtahojhaeebmpoaaGreatDoorPq30
import Derived.Test.YtahojhaeebmpoaaGreatDoorPq07
import Derived.Laws.AppendOwnNone
import Derived.Deep.QuietTactic
import Derived.Deep.DeepCutAuto
import Derived.Deep.CutBlock
/- A sorted list and an address put into it; appends of addresses in regions that draw their order; no conditions. -/
namespace Go.Proofs.YtahojhaeebmpoaaGreatDoor
open Go.RowKit
set_option linter.unusedVariables false
/-- A word put where it belongs. -/
def insN (o : List Nat) (x : Nat) : List Nat := o.takeWhile (fun y => decide (y < x)) ++ x :: o.dropWhile (fun y => decide (y < x))
theorem insN_len (o : List Nat) (x : Nat) : (insN o x).length = o.length + 1 := by
  have h := congrArg List.length (List.takeWhile_append_dropWhile (p := fun y => decide (y < x)) (l := o))
  rw [List.length_append] at h
  unfold insN
  rw [List.length_append, List.length_cons]
  omega
/-- Where the insertion's walk ends. -/
theorem insN_at {o : List Nat} {x j : Nat} (hj : j ≤ o.length) (h1 : ∀ q, q < j → o.getD q 0 < x) (h2 : j = o.length ∨ ¬ o.getD j 0 < x) : insN o x = o.take j ++ [x] ++ o.drop j := by
  induction o generalizing j with
  | nil =>
    have : j = 0 := by simpa using hj
    subst this
    rfl
  | cons a t ih =>
    cases j with
    | zero =>
      have ha : ¬ a < x := by
        rcases h2 with h2 | h2
        · simp at h2
        · simpa using h2
      unfold insN
      simp [ha]
    | succ j =>
      have ha : a < x := by have := h1 0 (by omega); simpa using this
      have ih := ih (j := j) (by simpa using hj) (fun q hq => by have := h1 (q + 1) (by omega); simpa using this) (by
        rcases h2 with h2 | h2
        · left; simpa using h2
        · right; simpa using h2)
      unfold insN at ih ⊢
      simp [ha]
      simpa using ih
theorem insN_mem {o : List Nat} {x y : Nat} : y ∈ insN o x ↔ y = x ∨ y ∈ o := by
  have h : y ∈ o ↔ y ∈ o.takeWhile (fun z => decide (z < x)) ∨ y ∈ o.dropWhile (fun z => decide (z < x)) := by
    rw [← List.mem_append, List.takeWhile_append_dropWhile]
  unfold insN
  rw [List.mem_append, List.mem_cons, h]
  constructor
  · rintro (h | h | h)
    · exact .inr (.inl h)
    · exact .inl h
    · exact .inr (.inr h)
  · rintro (h | h | h)
    · exact .inr (.inl h)
    · exact .inl h
    · exact .inr (.inr h)
theorem insN_sorted {o : List Nat} {x : Nat} (h : o.Pairwise (· < ·)) (hx : x ∉ o) : (insN o x).Pairwise (· < ·) := by
  induction o with
  | nil => simp [insN]
  | cons a t ih =>
    have ⟨ha, ht⟩ := List.pairwise_cons.1 h
    have hxa : x ≠ a := fun e => hx (by rw [e]; exact List.mem_cons_self)
    have hxt : x ∉ t := fun e => hx (List.mem_cons_of_mem _ e)
    by_cases hl : a < x
    · have ih := ih ht hxt
      have e : insN (a :: t) x = a :: insN t x := by simp [insN, hl]
      rw [e, List.pairwise_cons]
      refine ⟨fun y hy => ?_, ih⟩
      rcases insN_mem.1 hy with rfl | hy
      · exact hl
      · exact ha y hy
    · have e : insN (a :: t) x = x :: a :: t := by simp [insN, hl]
      rw [e, List.pairwise_cons]
      refine ⟨fun y hy => ?_, h⟩
      rcases List.mem_cons.1 hy with rfl | hy
      · omega
      · have := ha y hy; omega
theorem infoAdr : (Tryz.prog.info? 24).map (fun i => (i.zero, i.size, i.bytes)) = some (some (.int .u64 0), 1, 8) := by kernel_rfl
/-- A slice that reads as a list, wherever it lies. -/
def RdsA (w : World) (X : Value) (news : List Value) : Prop := (X = .slice none 0 0 ∧ news = []) ∨ ∃ ad c, X = .slice (some ad) news.length c ∧ ∀ j u, news[j]? = some u → w.cell? (ad.add j) = some u
/-- Addresses are appended to a slice of one's own, in a region that draws its order. -/
theorem step_appA {ops : Array Oper} {o : Oper} {a : Act} {w : World} {K : Act → World → Prop} {Q : Exit → Act → World → Prop} {E : Prop} (hw : Region.wanted o (yielded ops a.tmps) = true) (s x : Operand)
    (ho : o.op = .call { callee := .builtin .append, args := #[s, x], argTypes := #[60, 60] }) (B : Nat) (V : Value) (n : Nat) (xs : List Value) (hs : a.eval s = V) (hown : w.ownsRow B 24 1 V n xs) (X : Value) (news : List Value) (hx : a.eval x = X) (hrd : RdsA w X news) (h1 : ∀ u ∈ news, u.oneCell' = true) (hn : n + news.length ≤ 1000000) (hB : B ≤ w.heap.size)
    (h : ∀ v' w', w'.ownsRow B 24 1 v' (n + news.length) (xs ++ news) → w.grownBy w' V.ownBlock → K (a.put o.dst v') w') : if Region.wanted o (yielded ops a.tmps) = true then Oper.wp Tryz.prog o a w K Q else E := by
  rw [if_pos hw]
  obtain ⟨i0, hi, hz0, hz1, hz2⟩ := info_parts infoAdr
  rcases hrd with ⟨rfl, rfl⟩ | ⟨ad, c, rfl, hc⟩
  · have hrun := run_append_owned_none (P := Tryz.prog) (w := w) B 60 o.type 24 i0 1 Tryz.underlying60 hi V n xs hown
    unfold Oper.wp execOp
    simp only [ho, resolve, invoke, builtin, Sem.run_bind, Sem.run_pure, Result.andThen_ok, List.map_toArray, List.map_cons, List.map_nil, hs, hx, hrun]
    exact h V w (by simpa using hown) ⟨rfl, rfl, rfl, Nat.le_refl _, fun _ _ _ => rfl⟩
  · obtain ⟨v', w', hr, h2, h3, _⟩ := run_append_own_at (P := Tryz.prog) w B 60 o.type 24 i0 (.int .u64 0) 1 8 Tryz.underlying60 hi hz0 hz1 hz2 rfl (by decide) V n xs hown ad news.length c news (by omega) hc h1 (by unfold maxLen; omega) (by omega) hB
    unfold Oper.wp execOp
    simp only [ho, resolve, invoke, builtin, Sem.run_bind, Sem.run_pure, Result.andThen_ok, List.map_toArray, List.map_cons, List.map_nil, hs, hx, hr]
    exact h v' w' h2 h3
theorem size_A (w : World) : (sizeOf (Tryz.prog.elem 60)).run Tryz.prog w = .ok 1 w := by kernel_rfl
theorem under_A : Tryz.prog.underlying 60 = some (.slice (Tryz.prog.elem 60)) := by kernel_rfl
theorem own_lowA {w w' : World} {B n : Nat} {V : Value} {xs : List Value} (h : w.ownsRow B 24 1 V n xs) (hb : Below w.heap.size w w') : w'.ownsRow B 24 1 V n xs := own_keep h hb
theorem add_atA (g j : Nat) : (⟨g, 0, none⟩ : Addr).add j = ⟨g, j, none⟩ := by rw [Addr.add_lit, Nat.zero_add]
/-- A slice of one's own, cut in two. -/
theorem own_cut {w : World} {B n : Nat} {V : Value} {xs : List Value} (h : w.ownsRow B 24 1 V n xs) {j : Nat} (hj : j ≤ n) : ∃ AY mY cY AX mX cX,
    (∀ W, (Instr.slice 60 V none (some (.int .i64 (j : Int))) none).run Tryz.prog W = .ok (.slice AY mY cY) W) ∧ (∀ W, (Instr.slice 60 V (some (.int .i64 (j : Int))) none none).run Tryz.prog W = .ok (.slice AX mX cX) W) ∧
    (∀ W, Below w.heap.size w W → RdsA W (.slice AY mY cY) (xs.take j) ∧ RdsA W (.slice AX mX cX) (xs.drop j)) := by
  have h1 := h.1
  rcases h.2 with ⟨rfl, rfl⟩ | ⟨g, cap, cur, rfl, _, _, hc, hm, _⟩
  · obtain rfl : j = 0 := by omega
    have e : xs = [] := List.eq_nil_of_length_eq_zero (by omega)
    subst e
    refine ⟨none, 0, 0, none, 0, 0, fun W => ?_, fun W => ?_, fun W _ => ⟨.inl ⟨rfl, rfl⟩, .inl ⟨rfl, rfl⟩⟩⟩
    · have := run_slice_h (P := Tryz.prog) (w := W) 60 none 0 0 under_A .i64 0 (by omega) (by omega)
      rw [size_A] at this
      refine Eq.trans this ?_
      simp [Result.andThen, sliced]
    · have := run_slice_l (P := Tryz.prog) (w := W) 60 none 0 0 under_A .i64 0 (by omega) (by omega)
      rw [size_A] at this
      refine Eq.trans this ?_
      simp [Result.andThen, sliced]
  · unfold maxLen at hm
    have hcells : ∀ W, Below w.heap.size w W → ∀ (k : Nat) (u : Value), xs[k]? = some u → W.cell? ⟨g, k, none⟩ = some u := fun W hb k u hu => by
      have := (own_keep h hb).cells (g := g) rfl k u hu
      rwa [add_atA] at this
    refine ⟨some ⟨g, 0, none⟩, j, cap, some (if cap = j then ⟨g, 0, none⟩ else (⟨g, 0, none⟩ : Addr).add j), n - j, cap - j, fun W => ?_, fun W => ?_, fun W hb => ⟨.inr ⟨⟨g, 0, none⟩, cap, by rw [List.length_take, Nat.min_eq_left (by omega)], fun k u hu => ?_⟩, .inr ⟨_, cap - j, by rw [List.length_drop, h1, Nat.mul_one], fun k u hu => ?_⟩⟩⟩
    · rw [run_slice_h (w := W) 60 (some ⟨g, 0, none⟩) n cap under_A .i64 j (by omega) (by omega), size_A]
      simp [Result.andThen, sliced, add_zero']
    · rw [run_slice_l (w := W) 60 (some ⟨g, 0, none⟩) n cap under_A .i64 j (by omega) (by omega), size_A]
      by_cases e : cap = j <;> simp [Result.andThen, sliced, e]
    · rw [add_atA]
      rw [List.getElem?_take] at hu
      split at hu
      · exact hcells W hb k u hu
      · cases hu
    · rw [List.getElem?_drop] at hu
      have hk : j + k < n := by have := (List.getElem?_eq_some_iff.1 hu).1; omega
      rw [if_neg (by omega), Addr.add_lit]
      simp only [Nat.zero_add]
      have e : (⟨g, j, none⟩ : Addr).add k = ⟨g, j + k, none⟩ := Addr.add_lit _ _ _
      rw [e]
      exact hcells W hb _ u hu
theorem own_fromA {w : World} {B s n : Nat} {e : TypeId} {v : Value} {xs : List Value} (h : w.ownsRow B e s v n xs) : ∀ k, v.ownBlock = some k → B ≤ k ∧ k < w.heap.size := by
  intro k hk
  rcases h.2 with ⟨rfl, _⟩ | ⟨g', cap, cur, rfl, hb, hh, _⟩
  · cases hk
  · have : g' = k := by injection hk
    subst this
    exact ⟨hb, (Array.getElem?_eq_some_iff.1 hh).1⟩
theorem wv_one (o : List Nat) : ∀ u ∈ o.map wv, u.oneCell' = true := by
  intro u hu
  obtain ⟨x, _, rfl⟩ := List.mem_map.1 hu
  rfl
end Go.Proofs.YtahojhaeebmpoaaGreatDoor
