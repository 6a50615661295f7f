/- RunStops: at a store that may not be a run is over, with that error, and those ahead of it were done; for any input of at most 16 lines and 60 stores. -/
import Derived.Test.YtgapncamnmngeaaRnU
import Derived.Test.YtgapncamnmngeaaRnH
import Derived.Test.YtgapncamnmngeaaRnB2
namespace Go.Proofs.Ytgapncamnmngeaa
open Go.RowKit Go.Shelf
set_option linter.unusedVariables false

theorem flat_set (l : List (Nat × Nat)) (k a : Nat) (hk : k < l.length) : (flat l).set (k * 2) (wv a) = flat (l.set k (a, l[k].2)) := by
  induction l generalizing k with
  | nil => simp at hk
  | cons p t ih =>
    rw [flat_cons]
    cases k with
    | zero => rfl
    | succ k =>
      have h := ih k (by simpa using hk)
      rw [show (k + 1) * 2 = k * 2 + 1 + 1 from by omega, List.set_cons_succ, List.set_cons_succ, h, List.set_cons_succ, flat_cons]
      rfl
/-- Where the loop stands. -/
structure WS (w wr : World) (n : Nat) (l : List (Nat × Nat)) (v : Value) (g rg k : Nat) (i : Nat) (s : St) (r : RS) (y : Lay) (V : Value) (m : Nat) : Prop where
  cost : i + r.cost ≤ 3 * l.length
  fit : r.Fit n
  ne : r.ph ≠ .en
  mlk : m ≤ k
  mem : MemAt wr y s
  ok : s.Ok
  sm : Small s i
  on : RunOn wr y rg r V
  inv : VInv n l s r m
  nl : s.nl = n
  yg : y.g = g
  low : Below w.heap.size w wr
  fp : ∀ k, y.fp k → w.heap.size ≤ k
  rgn : w.heap.size ≤ rg
  ah : Ahead wr v l
  sep : ∀ b, v.ownBlock = some b → l ≠ [] → ¬ y.fp b ∧ b ≠ rg
theorem costF {r : RS} {nl : Nat} (g : r.Fit nl) (he : r.ph ≠ .en) : r.next.cost + 1 ≤ r.cost := by
  obtain ⟨c, left, line, ph, done, code⟩ := r
  cases ph with
  | st =>
    cases left with
    | nil => exact absurd rfl (g.lf rfl)
    | cons av q =>
      have : (RS.next ⟨c, av :: q, line, .st, done, code⟩) = ⟨c, q, av.1 / 64 * 64, if ends av.1 q then .fl else .st, done, code⟩ := rfl
      rw [this]
      unfold RS.cost
      simp only [List.length_cons]
      cases ends av.1 q <;> simp <;> omega
  | fl => exact Nat.le_refl _
  | fe => exact Nat.le_refl _
  | en => exact absurd rfl he
/-- Ahead of the store that may not be, a step goes on. -/
theorem WS.head {w wr : World} {n : Nat} {l : List (Nat × Nat)} {v : Value} {g rg k i : Nat} {s : St} {r : RS} {y : Lay} {V : Value} {m : Nat} (h : WS w wr n l v g rg k i s r y V m) (hk : k < l.length) (hgood : ∀ j (hj : j < l.length), j < k → l[j].1 % 8 = 0 ∧ l[j].1 < 64 * n ∧ l[j].2 < 18446744073709551616)
    (hc : ¬ (r.ph = .st ∧ m = k)) : r.HeadOk n ∧ r.next.done = false := by
  have hl := h.inv.left
  have hmk := h.mlk
  refine ⟨fun hp a v t he => ?_, ?_⟩
  · have hm : m < k := by
      rcases Nat.lt_or_ge m k with h1 | h1
      · exact h1
      · exact absurd ⟨hp, by omega⟩ hc
    have := hgood m (by omega) hm
    have he' : l[m]? = some (a, v) := by
      have h0 : (l.drop m)[0]? = some (a, v) := by rw [← hl, he]; rfl
      rwa [List.getElem?_drop, Nat.add_zero] at h0
    rw [List.getElem?_eq_getElem (by omega)] at he'
    have he2 := Option.some.inj he'
    rw [he2] at this
    exact this
  · have hd := h.fit.dn
    have hne := h.ne
    obtain ⟨c, left, line, ph, done, code⟩ := r
    dsimp only at hl hd hne
    cases ph with
    | st => cases left <;> exact hd
    | fl => exact hd
    | fe =>
      show left.isEmpty = false
      cases left with
      | nil =>
        have := congrArg List.length hl
        rw [List.length_drop, List.length_nil] at this
        omega
      | cons a t => rfl
    | en => exact absurd rfl hne
theorem WS.step {w wr w' : World} {n : Nat} {l : List (Nat × Nat)} {v : Value} {g rg k i : Nat} {s : St} {r : RS} {y : Lay} {V : Value} {m : Nat} (h : WS w wr n l v g rg k i s r y V m) (hi : i ≤ 1000) (hk : k < l.length) (hgood : ∀ j (hj : j < l.length), j < k → l[j].1 % 8 = 0 ∧ l[j].1 < 64 * n ∧ l[j].2 < 18446744073709551616)
    (hc : ¬ (r.ph = .st ∧ m = k)) (hp : StepPost wr y rg r.next (r.mem s) w') : ∃ y' V' m', WS w w' n l v g rg k (i + 1) (r.mem s) r.next y' V' m' := by
  obtain ⟨hh, hdn⟩ := h.head hk hgood hc
  obtain ⟨y', V', hm', hr', T⟩ := hp
  obtain ⟨m', hinv, hm1, hm2⟩ := vinv_step h.inv h.fit
  have hh' : r.HeadOk s.nl := by rw [h.nl]; exact hh
  have F := (Fresh.mk h.low h.fp h.rgn).step T
  have hcost := costF h.fit h.ne
  have h1 := h.cost
  have h2 := h.mlk
  have hmk' : m' ≤ k := by
    by_cases e : r.ph = .st
    · have := hm1 e
      have : m ≠ k := fun e2 => hc ⟨e, e2⟩
      omega
    · have := hm2 e
      omega
  have hne' : r.next.ph ≠ .en := by
    have hne := h.ne
    obtain ⟨c, left, line, ph, done, code⟩ := r
    cases ph with
    | st =>
      cases left with
      | nil => exact hne
      | cons av q =>
        show (if ends av.1 q then Ph.fl else Ph.st) ≠ .en
        split <;> exact fun h => by cases h
    | fl => exact fun h => by cases h
    | fe => exact fun h => by cases h
    | en => exact absurd rfl hne
  exact ⟨y', V', m', { cost := by omega, fit := next_Fit h.fit hh hdn, ne := hne', mlk := hmk', mem := hm', ok := mem_OkF h.ok h.sm hi h.mem.plen hh', sm := mem_Small h.sm, on := hr', inv := hinv, nl := by rw [mem_nl]; exact h.nl, yg := T.g.trans h.yg, low := F.low, fp := F.fp, rgn := F.rg, ah := h.ah.keep T h.sep, sep := fun q hq h0 => ⟨T.nfp (h.ah.lt h0 hq) (h.sep q hq h0).1, (h.sep q hq h0).2⟩ }⟩
end Go.Proofs.Ytgapncamnmngeaa
