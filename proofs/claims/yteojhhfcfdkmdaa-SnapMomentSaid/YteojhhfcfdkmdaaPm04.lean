/- Texts of this claim, packed: RangeQ. -/
import Derived.Test.YteojhhfcfdkmdaaRows
import Derived.RangeFuncFrom
import Derived.RangeFuncNested
import Derived.RangeFuncBound
import Derived.RangeFuncCalls
import Derived.RangeFuncLeaves
import Derived.Below
set_option linter.unusedSimpArgs false
set_option linter.unusedVariables false
/- A range over a function that may be left early, where the iterator makes a block anew ahead of each round and reads it behind: the rounds leave that block as it is; a round's own memory lies below a bound that is said; no conditions. -/
namespace Go.Proofs.Yteojhhfcfdkmdaa
open Go.RowKit
set_option linter.unusedVariables false
/-- The iterator's word: it calls yield for some xs, one by one, till it is told to stop; bx is a block that it reads throughout, r one that it made for the round. -/
def SeqQ {α : Type} (F : Fence) (n : Nat) (P : Program) (gf : Nat) (lb : Array Value) (encs : α → Array Value) (Ok : α → Prop) (bx : Nat) (S Sp : List α → Prop) (N : Nat) (w : World) : Prop :=
  ∀ (l : Nat) (J : Nat → List α → World → Prop) (Jx : List α → World → Prop) (W : World), Below w.heap.size w W →
    (∀ q s A B, J q s A → Below A.heap.size A B → J q s B) →
    (∀ q r pre x W1, Ok x → J q pre W1 → q ≤ r → r < W1.heap.size → pre.length < N → YieldAt F (n - 1) P l (encs x) W1 fun e W' =>
      (e = .returned (.bool true) ∧ (∃ q', q' ≤ W'.heap.size ∧ J q' (pre ++ [x]) W') ∧ W'.heap[bx]? = W1.heap[bx]? ∧ ∀ o : Obj, o.isCells = true → W1.heap[r]? = some o → W'.heap[r]? = some o) ∨ (e = .returned (.bool false) ∧ Jx (pre ++ [x]) W')) →
    (∃ q, q ≤ W.heap.size ∧ J q [] W) →
    CallsIn F n P gf (#[.func (.yield l) #[] #[]] ++ lb) W fun e W' => (∃ v, e = .returned v) ∧ ((∃ xs, S xs ∧ ∃ q, J q xs W') ∨ (∃ pre, Sp pre ∧ Jx pre W'))
/-- How a round may be left. -/
def postQ {α : Type} (bx r : Nat) (I : Nat → List α → World → Prop) (Ix : List α → World → Prop) (xs : List α) (W : World) : Exit → Act → World → Prop
  | .normal, _, W' => KeepsOthers W W' ∧ W'.heap[bx]? = W.heap[bx]? ∧ (∀ o : Obj, o.isCells = true → W.heap[r]? = some o → W'.heap[r]? = some o) ∧ ∃ q', q' ≤ W'.heap.size ∧ I q' xs W'
  | .ret, _, W' => KeepsOthers W W' ∧ Ix xs W'
  | _, _, _ => False
theorem low_grown {A B : World} (h : Below A.heap.size A B) : A.grownBy B none := ⟨h.os, h.tape, h.output, h.size, fun k hk _ => h.block k hk⟩
theorem low_others {A B : World} (h : Below A.heap.size A B) : KeepsOthers A B := ⟨h.size, fun k o hk _ => (h.block k (Array.getElem?_eq_some_iff.1 hk).1).trans hk⟩
theorem range_Q {α : Type} {F : Fence} {n : Nat} {P : Program} {g : Operand} {ps : Array Tmp} {assign body : Code} {Q : Exit → Act → World → Prop} {a : Act} {w : World}
    (hro : F.round = none) (h1 : 1 ≤ n) {gf : Nat} {lb : Array Value} (hg : a.eval g = .func (.func gf) #[] lb) (hFg : F.fn gf) (eg : ∀ args w, (callFunc gf args).run P w = .ok (.enter gf args) w)
    {encs : α → Array Value} {Ok : α → Prop} {bx : Nat} {S Sp : List α → Prop} {N : Nat} (hbx : bx < w.heap.size) (hseq : SeqQ F (n - 1) P gf lb encs Ok bx S Sp N w) (hps : ∀ x, (encs x).size = ps.size)
    (I : Nat → List α → World → Prop) (Ix : List α → World → Prop) (hI : ∀ q, OwnFrom w.heap.size (I q)) (hIx : OwnFrom w.heap.size Ix) (h0 : I w.heap.size [] w) (a₁ : α → World → Act) (w₁ : α → World → World) (hw₁ : ∀ x W, Below W.heap.size W (w₁ x W))
    (hassign : ∀ (l : Nat) (x : α) (W : World) (K : Act → World → Prop), K (a₁ x W) (w₁ x W) →
      assign.wpIn (F.inRound l) (n - 1 - 1) P (Exit.then K (fun _ _ _ => False)) { tmps := (ps.zip (encs x)).foldl (fun t (p, v) => t.setIfInBounds p v) a.tmps, defers := [] } W)
    (hbody : ∀ (l q r : Nat) (pre : List α) (x : α) (V W : World), Ok x → I q pre W → q ≤ r → r < V.heap.size → W.heap.size = (w₁ x V).heap.size → (∀ (k : Nat) (o : Obj), o.isCells = true → (w₁ x V).heap[k]? = some o → W.heap[k]? = some o) → pre.length < N → body.wpIn (F.inRound l) (n - 1 - 1) P (postQ bx r I Ix (pre ++ [x]) W) (a₁ x V) W)
    (hdone : ∀ (D q : Nat) (xs : List α) (W : World), w.heap.size ≤ D → S xs → I q xs W → W.heap[D]? = some (.deferred (some [])) → Q .normal { a with defers := { target := .collected D, args := #[] } :: a.defers } W)
    (hstop : ∀ (D : Nat) (pre : List α) (W : World), w.heap.size ≤ D → Sp pre → Ix pre W → W.heap[D]? = some (.deferred (some [])) → Code.ret.wpIn F n P Q { a with defers := { target := .collected D, args := #[] } :: a.defers } W) :
    (Code.rangeFunc g ps assign body).wpIn F n P Q a w := by
  refine wpIn_rangeFunc ?_
  intro fn hfn
  rw [hro]
  obtain ⟨rec, hrec⟩ : ∃ rec : LoopState → Option Code → Loop, rec = fun st pe => { state := st, pending := pe, fn, tmps := a.tmps, params := ps, assign, body, defers := w.heap.size } := ⟨_, rfl⟩
  obtain ⟨W1, hW1⟩ : ∃ W1, (w.alloc (.deferred (some []))).alloc (.loop (rec .ready none)) = W1 := ⟨_, rfl⟩
  have hL1 : W1.heap[w.heap.size + 1]? = some (.loop (rec .ready none)) := by
    rw [← hW1]
    have := World.alloc_heap_new (w.alloc (.deferred (some []))) (.loop (rec .ready none))
    rwa [World.size_alloc] at this
  have hK1 : W1.heap[w.heap.size]? = some (.deferred (some [])) := by
    rw [← hW1]
    exact (Below.heap_alloc _ _ _ (by simp)).trans (World.alloc_heap_new w _)
  have hI1 : I w.heap.size [] W1 := by rw [← hW1]; exact (hI _).alloc _ ((hI _).alloc _ h0)
  have hs1 : W1.heap.size = w.heap.size + 2 := by rw [← hW1]; simp
  have hb1 : Below w.heap.size w W1 := by
    rw [← hW1]
    exact ((Below.refl _ w).alloc (Nat.le_refl _) _).alloc (by simp) _
  refine ⟨w.heap.size + 1, [{ target := .collected w.heap.size, args := #[] }], W1, { target := .fn (.func gf) lb, args := #[.func (.yield (w.heap.size + 1)) #[] #[]] }, W1, gf,
    #[.func (.yield (w.heap.size + 1)) #[] #[]] ++ lb, W1, ?_, ?_, ?_, ?_, fun _ => h1, ?_⟩
  · rw [← hW1, hrec]
    exact run_enterLoop_outer _ _ _ _ _
  · simp only [resolve, hg]
    simp [go_sem]
  · intro f' hf'
    simp [Target.leads] at hf'
    subst hf'
    exact hFg
  · simp [invoke, go_sem, eg]
  · refine (hseq (w.heap.size + 1)
      (fun q pre W => I q pre W ∧ W.heap[w.heap.size + 1]? = some (.loop (rec .ready none)) ∧ W.heap[w.heap.size]? = some (.deferred (some [])))
      (fun pre W => Ix pre W ∧ W.heap[w.heap.size + 1]? = some (.loop (rec .done (some .ret))) ∧ W.heap[w.heap.size]? = some (.deferred (some [])))
      W1 hb1 ?_ ?_ ⟨w.heap.size, by omega, hI1, hL1, hK1⟩).mono ?_
    · rintro q s A B ⟨hi, hl, hk⟩ hb
      have e1 := (Array.getElem?_eq_some_iff.1 hl).1
      have e2 := (Array.getElem?_eq_some_iff.1 hk).1
      exact ⟨hI q s A B none hi (low_grown hb) (fun q e => by cases e), (hb.block _ e1).trans hl, (hb.block _ e2).trans hk⟩
    · rintro q r pre x W hok ⟨hi, hl, hk⟩ hqr hrW hlen
      have hlt0 : w.heap.size + 1 < W.heap.size := (Array.getElem?_eq_some_iff.1 hl).1
      have hy := run_yield (P := P) (args := encs x) hl (by rw [hrec]; exact hps x)
      rw [hrec] at hy
      obtain ⟨V, hV⟩ : ∃ V, V = w₁ x W := ⟨_, rfl⟩
      have hbV : Below W.heap.size W V := by rw [hV]; exact hw₁ x W
      have hlV : V.heap[w.heap.size + 1]? = some (.loop (rec .ready none)) := (hbV.block _ hlt0).trans hl
      have hkV : V.heap[w.heap.size]? = some (.deferred (some [])) := (hbV.block _ (by omega)).trans hk
      have hlt : w.heap.size + 1 < V.heap.size := by have := hbV.size; omega
      have hiV : I q pre V := hI q pre W V none hi (low_grown hbV) (fun q e => by cases e)
      refine ⟨fn, _, assign, body, hy, roundIn_of_wpIn hfn (hassign _ x W _ ⟨_, run_beginRound (by rw [← hV]; exact hlV) (by rw [hrec]), ?_⟩)⟩
      rw [← hV]
      have hl2 : (V.putObj (w.heap.size + 1) (.loop { rec .ready none with state := .busy })).heap[w.heap.size + 1]? = some (.loop { rec .ready none with state := .busy }) := World.putObj_heap_same hlt
      have hk2 : (V.putObj (w.heap.size + 1) (.loop { rec .ready none with state := .busy })).heap[w.heap.size]? = some (.deferred (some [])) := (World.putObj_heap_other (by omega)).trans hkV
      have cellsNe : ∀ (U : World) (o o' : Obj) (k : Nat), U.heap[w.heap.size + 1]? = some o' → o'.isCells = false → o.isCells = true → U.heap[k]? = some o → k ≠ w.heap.size + 1 := by
        rintro U o o' k h h' ho hk rfl
        rw [h] at hk
        cases hk
        rw [h'] at ho
        cases ho
      refine wpIn_mono (hbody _ q r pre x W _ hok ((hI q).putObj _ hiV (by omega) hlV rfl) hqr hrW (by rw [← hV]; simp) (fun k o ho hk => by
        rw [← hV] at hk
        rw [World.putObj_heap_other (cellsNe V o _ k hlV rfl ho hk)]
        exact hk) hlen) ?_
      have fin : ∀ (jump : Option Code) (W3 : World), KeepsOthers (V.putObj (w.heap.size + 1) (.loop { rec .ready none with state := .busy })) W3 →
          (Instr.endRound (w.heap.size + 1) jump).run P W3 = .ok (.bool jump.isNone) (W3.putObj (w.heap.size + 1) (.loop (rec (if jump.isNone then .ready else .done) jump))) ∧
          W3.heap[w.heap.size + 1]? = some (.loop { rec .ready none with state := .busy }) ∧
          (W3.putObj (w.heap.size + 1) (.loop (rec (if jump.isNone then .ready else .done) jump))).heap[w.heap.size + 1]? = some (.loop (rec (if jump.isNone then .ready else .done) jump)) ∧
          (W3.putObj (w.heap.size + 1) (.loop (rec (if jump.isNone then .ready else .done) jump))).heap[w.heap.size]? = some (.deferred (some [])) := fun jump W3 hk3 => by
        have hl3 := hk3.same _ _ hl2 rfl
        have := run_endRound (P := P) jump hl3
        rw [hrec] at this ⊢
        exact ⟨this, by rw [hrec] at hl3; exact hl3, World.putObj_heap_same (Array.getElem?_eq_some_iff.1 hl3).1, (World.putObj_heap_other (by omega)).trans (hk3.same _ _ hk2 rfl)⟩
      rintro e a3 W3 hp
      cases e with
      | normal =>
        obtain ⟨hk3, hx3, hr3, q', hq', hi3⟩ := hp
        obtain ⟨hr, hl3, hl4, hk4⟩ := fin none W3 hk3
        refine ⟨_, _, hr, .inl ⟨rfl, ⟨q', by simpa using hq', (hI q').putObj _ hi3 (by omega) hl3 rfl, hl4, hk4⟩, ?_, ?_⟩⟩
        · rw [World.putObj_heap_other (by omega), hx3, World.putObj_heap_other (by omega)]
          exact hbV.block _ (by omega)
        · intro o ho hro
          have hne := cellsNe W o _ r hl rfl ho hro
          rw [World.putObj_heap_other hne]
          exact hr3 o ho ((World.putObj_heap_other hne).trans ((hbV.block r hrW).trans hro))
      | ret =>
        obtain ⟨hk3, hi3⟩ := hp
        obtain ⟨hr, hl3, hl4, hk4⟩ := fin (some .ret) W3 hk3
        exact ⟨_, _, hr, .inr ⟨rfl, hIx.putObj _ hi3 (by omega) hl3 rfl, hl4, hk4⟩⟩
      | exit id => exact hp.elim
      | goto t => exact hp.elim
      | panic ch => exact hp.elim
      | outgrown => exact hp.elim
    · rintro e W2 ⟨⟨v, rfl⟩, (⟨xs, hS, q, hi, hl, hk⟩ | ⟨pre, hSp, hi, hl, hk⟩)⟩
      · exact ⟨none, _, by have := run_endLoop (P := P) hl (by rw [hrec]; simp); rw [hrec] at this; exact this, hdone _ q xs _ (Nat.le_refl _) hS ((hI q).putObj _ hi (by omega) hl rfl) ((World.putObj_heap_other (by omega)).trans hk)⟩
      · exact ⟨some .ret, _, by have := run_endLoop (P := P) hl (by rw [hrec]; simp); rw [hrec] at this; exact this, hstop _ pre _ (Nat.le_refl _) hSp (hIx.putObj _ hi (by omega) hl rfl) ((World.putObj_heap_other (by omega)).trans hk)⟩
end Go.Proofs.Yteojhhfcfdkmdaa
