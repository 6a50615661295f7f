/- LockRuns returns true, whatever the numbers: walked. -/
import Derived.Test.Ytojmhiaabjbdiaa7Known
namespace Go.Proofs.Ytojmhiaabjbdiaa
open Go.RowKit
set_option linter.unusedVariables false
/-- Two tables side by side in new memory. -/
structure Two (w0 w : World) (g b : Nat) (s : Lk) (g' b' : Nat) (s' : Lk) : Prop where
  t : OwnK w0 w g b s
  u : OwnK w0 w g' b' s'
  gg : g ≠ g'
  gb : g ≠ b'
  bg : b ≠ g'
  bb : b ≠ b'
theorem Two.left {w0 w w' : World} {g b g' b' : Nat} {s s' s1 : Lk} (h : Two w0 w g b s g' b' s') (hk : KAt w' g b s1) (hb : But w w' (kfp g b)) : Two w0 w' g b s1 g' b' s' :=
  ⟨h.t.turn hk hb, ⟨h.u.at_.but hb (fun k => by rcases k with k | k; exact h.gg k.symm; exact h.bg k.symm) (fun k => by rcases k with k | k; exact h.gb k.symm; exact h.bb k.symm), h.u.lg, h.u.lb, (h.t.turn hk hb).bel⟩, h.gg, h.gb, h.bg, h.bb⟩
theorem Two.right {w0 w w' : World} {g b g' b' : Nat} {s s' s1 : Lk} (h : Two w0 w g b s g' b' s') (hk : KAt w' g' b' s1) (hb : But w w' (kfp g' b')) : Two w0 w' g b s g' b' s1 :=
  ⟨⟨h.t.at_.but hb (fun k => by rcases k with k | k; exact h.gg k; exact h.gb k) (fun k => by rcases k with k | k; exact h.bg k; exact h.bb k), h.t.lg, h.t.lb, (h.u.turn hk hb).bel⟩, h.u.turn hk hb, h.gg, h.gb, h.bg, h.bb⟩
theorem Two.below {w0 w w' : World} {g b g' b' : Nat} {s s' : Lk} (h : Two w0 w g b s g' b' s') (hb : Below w.heap.size w w') : Two w0 w' g b s g' b' s' :=
  ⟨h.t.below hb, h.u.below hb, h.gg, h.gb, h.bg, h.bb⟩
/-- The first one has the lock 8; those below i wait for it. -/
structure StT (s : Lk) (N i : Nat) : Prop where
  n : s.n = N
  h8 : s.hm 8 = some 0
  ho : ∀ id, id ≠ 8 → s.hm id = none
  wy : ∀ x, 1 ≤ x → x < i → s.wt x = 8
  w0 : s.wt 0 = 0
  z : s.sz ≤ 1
theorem stT_one {N : Nat} : tryB (lk0 N) 0 8 = true ∧ StT (tryS (lk0 N) 0 8) N 1 := by
  refine ⟨rfl, rfl, rfl, ?_, fun x h1 h2 => by omega, rfl, Nat.le_refl _⟩
  intro id hid
  show setH (fun _ => none) 8 (some 0) id = none
  unfold setH
  rw [if_neg hid]
theorem stT_step {s : Lk} {N i : Nat} (h : StT s N i) (hi : 1 ≤ i) : tryB s i 8 = false ∧ StT (tryS s i 8) N (i + 1) := by
  have hb : tryB s i 8 = false := by
    unfold tryB
    rw [h.h8]
    simp
    omega
  refine ⟨hb, ?_⟩
  have hs : tryS s i 8 = ⟨s.n, s.hm, setW s.wt i 8, s.sz⟩ := by unfold tryS; rw [if_neg (by rw [hb]; simp)]
  rw [hs]
  refine ⟨h.n, h.h8, h.ho, ?_, ?_, h.z⟩
  · intro x h1 h2
    show setW s.wt i 8 x = 8
    unfold setW
    split
    · rfl
    · exact h.wy x h1 (by omega)
  · show setW s.wt i 8 0 = 0
    unfold setW
    rw [if_neg (by omega)]
    exact h.w0
theorem stT_runs {s : Lk} {N c : Nat} (h : StT s N N) (hc : c < N) : RunsIs s c 0 := by
  have h0 : nx s 0 = none := by unfold nx; rw [h.w0]; exact h.ho 0 (by omega)
  by_cases e : c = 0
  · subst e
    exact .inl ⟨0, rfl, h0⟩
  · refine .inl ⟨1, ?_, h0⟩
    show (some c).bind (nx s) = some 0
    show s.hm (s.wt c) = some 0
    rw [h.wy c (by omega) hc]
    exact h.h8
theorem stT_rel {s : Lk} {N c : Nat} (h : StT s N N) (hc : c < N) : relB s 0 8 = true ∧ RunsIs (relS s 0 8) c c := by
  have hb : relB s 0 8 = true := by unfold relB; rw [h.h8]; rfl
  refine ⟨hb, .inl ⟨0, rfl, ?_⟩⟩
  have h1 : (relS s 0 8).hm = setH s.hm 8 none := if_pos hb
  have h2 : (relS s 0 8).wt = s.wt := if_neg (by rw [h.w0]; omega)
  unfold nx
  rw [h1, h2]
  unfold setH
  split
  · rfl
  · exact h.ho _ (by assumption)
/-- Those below i have one each. -/
structure StU (s : Lk) (N i : Nat) : Prop where
  n : s.n = N
  hy : ∀ x, x < i → s.hm (8 * (x + 1)) = some x
  ho : ∀ id x, s.hm id = some x → id = 8 * (x + 1) ∧ x < i
  w0 : ∀ x, s.wt x = 0
  z : s.sz ≤ i
theorem stU_zero {N : Nat} : StU (lk0 N) N 0 := ⟨rfl, fun x h => by omega, fun id x h => (by cases h), fun x => rfl, Nat.le_refl _⟩
theorem stU_step {s : Lk} {N i : Nat} (h : StU s N i) : tryB s i (8 * (i + 1)) = true ∧ StU (tryS s i (8 * (i + 1))) N (i + 1) := by
  have hn : s.hm (8 * (i + 1)) = none := by
    cases e : s.hm (8 * (i + 1)) with
    | none => rfl
    | some x => have := h.ho _ _ e; omega
  have hb : tryB s i (8 * (i + 1)) = true := by unfold tryB; rw [hn]
  refine ⟨hb, ?_⟩
  have hs : tryS s i (8 * (i + 1)) = ⟨s.n, setH s.hm (8 * (i + 1)) (some i), setW s.wt i 0, s.sz + 1⟩ := by unfold tryS; rw [if_pos hb]
  rw [hs]
  refine ⟨h.n, ?_, ?_, ?_, by have := h.z; show s.sz + 1 ≤ _; omega⟩
  · intro x hx
    show setH s.hm (8 * (i + 1)) (some i) (8 * (x + 1)) = some x
    unfold setH
    split
    · have : x = i := by omega
      rw [this]
    · exact h.hy x (by omega)
  · intro id x hx
    change setH s.hm (8 * (i + 1)) (some i) id = some x at hx
    unfold setH at hx
    split at hx
    · cases hx
      exact ⟨by assumption, by omega⟩
    · have := h.ho id x hx
      omega
  · intro x
    show setW s.wt i 0 x = 0
    unfold setW
    split
    · rfl
    · exact h.w0 x
/-- Each has one; those from c on, below i, wait for the next one's. -/
structure StV (s : Lk) (N c i : Nat) : Prop where
  n : s.n = N
  hy : ∀ x, x < N → s.hm (8 * (x + 1)) = some x
  ho : ∀ id x, s.hm id = some x → id = 8 * (x + 1) ∧ x < N
  wy : ∀ x, c ≤ x → x < i → s.wt x = 8 * (x + 2)
  wo : ∀ x, x < c ∨ i ≤ x → s.wt x = 0
  z : s.sz ≤ 64
theorem stV_zero {s : Lk} {N c : Nat} (h : StU s N N) (hN : N ≤ 64) : StV s N c c := ⟨h.n, h.hy, h.ho, fun x h1 h2 => by omega, fun x _ => h.w0 x, by have := h.z; omega⟩
theorem StV.hz {s : Lk} {N c i : Nat} (h : StV s N c i) : s.hm 0 = none := by
  cases e : s.hm 0 with
  | none => rfl
  | some x => have := h.ho _ _ e; omega
theorem stV_step {s : Lk} {N c i : Nat} (h : StV s N c i) (hci : c ≤ i) (hi : i + 1 < N) : tryB s i (8 * (i + 2)) = false ∧ StV (tryS s i (8 * (i + 2))) N c (i + 1) := by
  have hb : tryB s i (8 * (i + 2)) = false := by
    unfold tryB
    rw [show 8 * (i + 2) = 8 * (i + 1 + 1) from by omega, h.hy (i + 1) hi]
    simp
  refine ⟨hb, ?_⟩
  have hs : tryS s i (8 * (i + 2)) = ⟨s.n, s.hm, setW s.wt i (8 * (i + 2)), s.sz⟩ := by unfold tryS; rw [if_neg (by rw [hb]; simp)]
  rw [hs]
  refine ⟨h.n, h.hy, h.ho, ?_, ?_, h.z⟩
  · intro x h1 h2
    show setW s.wt i (8 * (i + 2)) x = _
    unfold setW
    split
    · rename_i e
      rw [e]
    · exact h.wy x h1 (by omega)
  · intro x hx
    show setW s.wt i (8 * (i + 2)) x = _
    unfold setW
    rw [if_neg (by omega)]
    exact h.wo x (by omega)
theorem stV_it {s : Lk} {N c i : Nat} (h : StV s N c i) (hi : i < N) : ∀ k, c + k ≤ i → it s c k = some (c + k) := by
  intro k
  induction k with
  | zero => intro _; rfl
  | succ k ih =>
    intro hk
    show (it s c k).bind (nx s) = _
    rw [ih (by omega)]
    show s.hm (s.wt (c + k)) = _
    rw [h.wy (c + k) (by omega) (by omega), show 8 * (c + k + 2) = 8 * (c + k + 1 + 1) from by omega, h.hy _ (by omega)]
    rfl
theorem stV_runs {s : Lk} {N c i : Nat} (h : StV s N c i) (hci : c ≤ i) (hi : i < N) : RunsIs s c i := by
  refine .inl ⟨i - c, ?_, ?_⟩
  · rw [stV_it h hi _ (by omega)]
    congr 1
    omega
  · show s.hm (s.wt i) = none
    rw [h.wo i (by omega)]
    exact h.hz
/-- The last one waits for the first one's, where it isn't the first itself. -/
theorem stV_last {s : Lk} {N c : Nat} (h : StV s N c (N - 1)) (hc : c < N) :
    tryB s (N - 1) (8 * (c + 1)) = decide (c = N - 1) ∧ RunsIs (tryS s (N - 1) (8 * (c + 1))) (N - 1) c ∧ RunsIs (tryS s (N - 1) (8 * (c + 1))) c c ∧ (tryS s (N - 1) (8 * (c + 1))).n = N := by
  have hb : tryB s (N - 1) (8 * (c + 1)) = decide (c = N - 1) := by
    unfold tryB
    rw [h.hy c hc, Bool.eq_iff_iff]
    simp
  refine ⟨hb, ?_⟩
  by_cases e : c = N - 1
  · have hs : tryS s (N - 1) (8 * (c + 1)) = ⟨s.n, setH s.hm (8 * (c + 1)) (some (N - 1)), setW s.wt (N - 1) 0, s.sz + 1⟩ := by unfold tryS; rw [if_pos (by rw [hb]; simpa using e)]
    rw [hs]
    have hx : nx ⟨s.n, setH s.hm (8 * (c + 1)) (some (N - 1)), setW s.wt (N - 1) 0, s.sz + 1⟩ (N - 1) = none := by
      show setH s.hm (8 * (c + 1)) (some (N - 1)) (setW s.wt (N - 1) 0 (N - 1)) = none
      have : setW s.wt (N - 1) 0 (N - 1) = 0 := if_pos rfl
      rw [this]
      unfold setH
      rw [if_neg (by omega)]
      exact h.hz
    refine ⟨.inl ⟨0, ?_, by rw [e]; rw [e] at hx; exact hx⟩, .inl ⟨0, rfl, by rw [e]; rw [e] at hx; exact hx⟩, h.n⟩
    show some (N - 1) = some c
    rw [e]
  · have hs : tryS s (N - 1) (8 * (c + 1)) = ⟨s.n, s.hm, setW s.wt (N - 1) (8 * (c + 1)), s.sz⟩ := by unfold tryS; rw [if_neg (by rw [hb]; simpa using e)]
    rw [hs]
    obtain ⟨s2, h2⟩ : ∃ s2 : Lk, s2 = ⟨s.n, s.hm, setW s.wt (N - 1) (8 * (c + 1)), s.sz⟩ := ⟨_, rfl⟩
    rw [← h2]
    have hit : ∀ k, c + k ≤ N - 1 → it s2 c k = some (c + k) := by
      intro k
      induction k with
      | zero => intro _; rfl
      | succ k ih =>
        intro hk
        show (it s2 c k).bind (nx s2) = _
        rw [ih (by omega)]
        have hw : s2.wt (c + k) = s.wt (c + k) := by rw [h2]; show setW _ _ _ _ = _; unfold setW; rw [if_neg (by omega)]
        have hh : s2.hm = s.hm := by rw [h2]
        show s2.hm (s2.wt (c + k)) = _
        rw [hw, hh, h.wy (c + k) (by omega) (by omega), show 8 * (c + k + 2) = 8 * (c + k + 1 + 1) from by omega, h.hy _ (by omega)]
        rfl
    have hlast : nx s2 (N - 1) = some c := by
      show s2.hm (s2.wt (N - 1)) = _
      have hw : s2.wt (N - 1) = 8 * (c + 1) := by rw [h2]; exact if_pos rfl
      have hh : s2.hm = s.hm := by rw [h2]
      rw [hw, hh, h.hy c hc]
    have hround : it s2 c (N - 1 - c + 1) = some c := by
      show (it s2 c (N - 1 - c)).bind (nx s2) = _
      rw [hit _ (by omega), show c + (N - 1 - c) = N - 1 from by omega]
      exact hlast
    have hC : Circ s2 c c := by
      refine ⟨⟨_, by omega, hround⟩, ⟨0, rfl⟩, ?_⟩
      intro y hy
      obtain ⟨i, hi, hy'⟩ := circ_all (by omega) hround hy
      rw [hit i (by omega)] at hy'
      cases hy'
      omega
    refine ⟨.inr ⟨c, ⟨1, hlast⟩, hC⟩, .inr ⟨c, ⟨0, rfl⟩, hC⟩, ?_⟩
    rw [h2]
    exact h.n
end Go.Proofs.Ytojmhiaabjbdiaa
