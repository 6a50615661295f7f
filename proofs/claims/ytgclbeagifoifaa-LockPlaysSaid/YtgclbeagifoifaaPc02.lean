/- Texts of this claim, packed: 7St. -/
import Derived.Test.YtgclbeagifoifaaPc01
import Derived.Maps.OwnSet
import Derived.Maps.Ext
import Derived.Maps.RangeWalk
import Derived.Deep.Draws
/- The locks' abstract state, and the blocks that read as it; plain facts, without conditions. -/
namespace Go.Proofs.Ytgclbeagifoifaa
open Go.RowKit Go.Maps
set_option linter.unusedVariables false
/-- How many clients; who has which; for what each waits (0: for nothing); no more locks than this. -/
structure Lk where
  n : Nat
  hm : Nat → Option Nat
  wt : Nat → Nat
  sz : Nat
/-- A state that a table can have. -/
structure Lk.Ok (s : Lk) : Prop where
  n1 : 1 ≤ s.n
  n2 : s.n ≤ 64
  h0 : s.hm 0 = none
  hc : ∀ id c, s.hm id = some c → c < s.n ∧ id < 18446744073709551616
  wb : ∀ c, s.wt c < 18446744073709551616
  wo : ∀ c, s.n ≤ c → s.wt c = 0
  hw : ∀ c, s.wt c ≠ 0 → s.hm (s.wt c) ≠ some c
  zs : s.sz ≤ 1000000
def kR : Value → Option (DataW Unit × List MemPlace)
  | .int .i64 n => some (.lit (.int .i64 n), [])
  | _ => none
def akey (id : Nat) : Lit := .int .u64 (id : Int)
theorem akeyed : Keyed Try.prog 34 := int_keyed Try.underlying34
theorem akey_inj {i j : Nat} (h : akey i = akey j) : i = j := by
  unfold akey at h
  injection h with _ h
  omega
theorem akey_is (i : Nat) : WideAt.IsKeyLit (akey i) := by
  unfold akey WideAt.IsKeyLit
  trivial
theorem akey_of {i : Nat} (h : i < 18446744073709551616) : keyOf Try.prog 34 (.int .u64 (i : Int)) = some (akey i) := by
  refine keyOf_int_mk Try.underlying34 ?_
  simp only [Lit.wf, Bool.and_eq_true, decide_eq_true_eq]
  exact ⟨by show (0 : Int) ≤ _; omega, by show _ ≤ (18446744073709551615 : Int); omega⟩
theorem zeroInt (W : World) : (zeroValue 3).run Try.prog W = .ok (.int .i64 0) W := by kernel_rfl
theorem kown_tight {w : World} {P : Program} {k : TypeId} {R : Value → Option (DataW Unit × List MemPlace)} {b n : Nat} {D : DataW Unit} (h : w.ownsMap P k R b n D) : w.ownsMap P k R b (Maps.size D) D := by
  obtain ⟨es, c, hb, F, hs, hD⟩ := h
  refine ⟨es, c, hb, F, ?_, hD⟩
  rw [hD]
  simp [Maps.size, length_sorted]
/-- The map of who has which lock. -/
def HasAt (w : World) (b : Nat) (hm : Nat → Option Nat) (sz : Nat) : Prop :=
  ∃ D : DataW Unit, w.ownsMap Try.prog 34 kR b sz D ∧ (∀ k, Maps.has D k = true → ∃ id, id < 18446744073709551616 ∧ k = akey id) ∧
    (∀ id, id < 18446744073709551616 → Maps.has D (akey id) = (hm id).isSome) ∧ (∀ id c, id < 18446744073709551616 → hm id = some c → ∀ z, D.atKey (akey id) z = .lit (.int .i64 (c : Int)))
theorem HasAt.map {w : World} {b sz : Nat} {hm : Nat → Option Nat} (h : HasAt w b hm sz) : ∃ es c, w.heap[b]? = some (.map es c) := by
  obtain ⟨D, ⟨es, c, hb, hr⟩, h2⟩ := h
  exact ⟨es, c, hb⟩
theorem HasAt.lt {w : World} {b sz : Nat} {hm : Nat → Option Nat} (h : HasAt w b hm sz) : b < w.heap.size := by
  obtain ⟨es, c, hb⟩ := h.map
  exact (Array.getElem?_eq_some_iff.1 hb).1
theorem HasAt.same {w w' : World} {b sz : Nat} {hm : Nat → Option Nat} (h : HasAt w b hm sz) (hk : w'.heap[b]? = w.heap[b]?) : HasAt w' b hm sz := by
  obtain ⟨D, ⟨es, c, hb, hr⟩, h2⟩ := h
  exact ⟨D, ⟨es, c, hk.trans hb, hr⟩, h2⟩
theorem kR_inv {v : Value} {y : DataW Unit × List MemPlace} (h : kR v = some y) : ∃ n, v = .int .i64 n ∧ y = (.lit (.int .i64 n), []) := by
  unfold kR at h
  split at h
  · cases h
    exact ⟨_, rfl, rfl⟩
  · cases h
/-- What a look-up yields. -/
def hV (o : Option Nat) : Value := .int .i64 ((o.getD 0 : Nat) : Int)
theorem has_val {hm : Nat → Option Nat} {D : DataW Unit} {id : Nat} (hi : id < 18446744073709551616) (h1 : Maps.has D (akey id) = (hm id).isSome) (h2 : ∀ c, hm id = some c → ∀ z, D.atKey (akey id) z = .lit (.int .i64 (c : Int)))
    {v : Value} {ps : List MemPlace} (hv : kR v = some (D.atKey (akey id) (.lit (.int .i64 0)), ps)) : v = hV (hm id) := by
  obtain ⟨n, rfl, he⟩ := kR_inv hv
  injection he with he _
  cases e : hm id with
  | none =>
    rw [e] at h1
    rw [atKey_of_not_has h1] at he
    injection he with he
    injection he with _ he
    rw [← he]
    rfl
  | some c =>
    rw [h2 c e] at he
    injection he with he
    injection he with _ he
    rw [← he]
    rfl
theorem has_look {w : World} {b sz id : Nat} {hm : Nat → Option Nat} (h : HasAt w b hm sz) (hi : id < 18446744073709551616) :
    (Instr.lookup 52 (.map (some b)) (.int .u64 (id : Int)) false).run Try.prog w = .ok (hV (hm id)) w := by
  obtain ⟨D, hown, hk, hs, ha⟩ := h
  obtain ⟨v, ps, hrun, hv⟩ := hown.lookup akeyed Try.underlying52 (zeroInt w) (show kR (.int .i64 0) = some (.lit (.int .i64 0), []) from rfl) (akey_of hi)
  rw [hrun, has_val hi (hs id hi) (fun c hc => ha id c hi hc) hv]
theorem has_look_ok {w : World} {b sz id : Nat} {hm : Nat → Option Nat} (h : HasAt w b hm sz) (hi : id < 18446744073709551616) :
    (Instr.lookup 52 (.map (some b)) (.int .u64 (id : Int)) true).run Try.prog w = .ok (.tuple #[hV (hm id), .bool (hm id).isSome]) w := by
  obtain ⟨D, hown, hk, hs, ha⟩ := h
  obtain ⟨v, ps, hrun, hv⟩ := hown.look_ok akeyed Try.underlying52 (zeroInt w) (show kR (.int .i64 0) = some (.lit (.int .i64 0), []) from rfl) (akey_of hi)
  rw [hrun, has_val hi (hs id hi) (fun c hc => ha id c hi hc) hv, hs id hi]
theorem nil_look_ok {w : World} {id : Nat} (hi : id < 18446744073709551616) :
    (Instr.lookup 52 (.map none) (.int .u64 (id : Int)) true).run Try.prog w = .ok (.tuple #[.int .i64 0, .bool false]) w :=
  (Maps.look_nil true akeyed Try.underlying52 (zeroInt w) (akey_of hi)).trans rfl
/-- The map with one key set. -/
def setH (hm : Nat → Option Nat) (id : Nat) (o : Option Nat) : Nat → Option Nat := fun j => if j = id then o else hm j
theorem has_put {w : World} {b sz id c : Nat} {hm : Nat → Option Nat} (h : HasAt w b hm sz) (hz : sz ≤ 1000000) (hi : id < 18446744073709551616) :
    ∃ w', (Instr.mapUpdate 52 (.map (some b)) (.int .u64 (id : Int)) (.int .i64 (c : Int))).run Try.prog w = .ok () w' ∧ HasAt w' b (setH hm id (some c)) (sz + 1) ∧ w.grownBy w' (some b) := by
  obtain ⟨D, hown, hk, hs, ha⟩ := h
  obtain ⟨w', hrun, ho, hg⟩ := hown.update akeyed Try.underlying52 (by unfold maxLen; omega) (akey_of hi) (show kR (.int .i64 (c : Int)) = some (.lit (.int .i64 (c : Int)), []) from rfl)
  refine ⟨w', hrun, ⟨_, ho, ?_, ?_, ?_⟩, hg⟩
  · intro k hk'
    by_cases e : k = akey id
    · exact ⟨id, hi, e⟩
    · rw [has_put_other e] at hk'
      exact hk k hk'
  · intro j hj
    by_cases e : j = id
    · subst e
      simp only [setH, if_true]
      exact has_put_same hown.isMap (akey_is _) _
    · rw [has_put_other (fun e' => e (akey_inj e')), hs j hj]
      simp only [setH, if_neg e]
  · intro j c' hj hc z
    by_cases e : j = id
    · subst e
      simp only [setH, if_true, Option.some.injEq] at hc
      subst hc
      exact atKey_put_same hown.isMap (akey_is _) _ _
    · have e' : akey j ≠ akey id := fun e' => e (akey_inj e')
      rw [atKey_put_other e']
      simp only [setH, if_neg e] at hc
      exact ha j c' hj hc z
theorem has_del {w : World} {b sz id : Nat} {ty : TypeId} {hm : Nat → Option Nat} (h : HasAt w b hm sz) (hi : id < 18446744073709551616) :
    ∃ w', (Builtin.delete_ #[52, 34] ty #[.map (some b), .int .u64 (id : Int)]).run Try.prog w = .ok (.tuple #[]) w' ∧ HasAt w' b (setH hm id none) sz ∧ w.grownBy w' (some b) := by
  obtain ⟨D, hown, hk, hs, ha⟩ := h
  obtain ⟨w', hrun, ho, ht⟩ := hown.drop akeyed Try.underlying52 (akey_of hi) ty
  refine ⟨w', hrun, ⟨_, ho, ?_, ?_, ?_⟩, ht.grown⟩
  · intro k hk'
    by_cases e : k = akey id
    · subst e
      rw [has_del_same] at hk'
      cases hk'
    · rw [has_del_other e] at hk'
      exact hk k hk'
  · intro j hj
    by_cases e : j = id
    · subst e
      simp only [setH, if_true]
      rw [has_del_same]
      rfl
    · rw [has_del_other (fun e' => e (akey_inj e')), hs j hj]
      simp only [setH, if_neg e]
  · intro j c' hj hc z
    by_cases e : j = id
    · subst e
      simp only [setH, if_true] at hc
      cases hc
    · have e' : akey j ≠ akey id := fun e' => e (akey_inj e')
      rw [atKey_del_other e']
      simp only [setH, if_neg e] at hc
      exact ha j c' hj hc z
/-- A table's cells. -/
def ktcells (n : Nat) (m : Option Nat) (wt : Nat → Nat) : Array Value := #[.int .i64 (n : Int), .map m] ++ Array.ofFn fun i : Fin 64 => wv (wt i.val)
theorem tcells_0 (n : Nat) (m : Option Nat) (wt : Nat → Nat) : (ktcells n m wt)[0]? = some (.int .i64 (n : Int)) := by simp [ktcells, Array.getElem?_append]
theorem tcells_1 (n : Nat) (m : Option Nat) (wt : Nat → Nat) : (ktcells n m wt)[1]? = some (.map m) := by simp [ktcells, Array.getElem?_append]
theorem tcells_w (n : Nat) (m : Option Nat) (wt : Nat → Nat) {c : Nat} (h : c < 64) : (ktcells n m wt)[2 + c]? = some (.int .u64 (wt c : Int)) := by
  rw [ktcells, Array.getElem?_append_right (by simp)]
  simp [h, wv]
def setW (wt : Nat → Nat) (c a : Nat) : Nat → Nat := fun i => if i = c then a else wt i
theorem ktcells_set (n : Nat) (m : Option Nat) (wt : Nat → Nat) (c a : Nat) (h : c < 64) : (ktcells n m wt).setIfInBounds (2 + c) (.int .u64 (a : Int)) = ktcells n m (setW wt c a) := by
  apply Array.ext
  · simp [ktcells]
  · intro i h1 h2
    rw [Array.getElem_setIfInBounds (by simpa using h1)]
    by_cases e : 2 + c = i
    · subst e
      rw [if_pos rfl]
      have := tcells_w n m (setW wt c a) h
      rw [Array.getElem?_eq_getElem h2] at this
      simpa [setW] using this.symm
    · rw [if_neg e]
      by_cases hi : i < 2
      · simp only [ktcells]
        rw [Array.getElem_append_left (by simpa using hi), Array.getElem_append_left (by simpa using hi)]
      · simp only [ktcells]
        rw [Array.getElem_append_right (by simp; omega), Array.getElem_append_right (by simp; omega)]
        have e' : ¬ i - 2 = c := by omega
        simp [setW, e']
/-- What must lie in memory. -/
structure KAt (w : World) (g b : Nat) (s : Lk) : Prop where
  row : Row w g 55 (ktcells s.n (some b) s.wt)
  mp : HasAt w b s.hm s.sz
  ok : s.Ok
theorem KAt.ne {w : World} {g b : Nat} {s : Lk} (h : KAt w g b s) : g ≠ b := by
  rintro rfl
  obtain ⟨es, c, hb⟩ := h.mp.map
  have hr := h.row
  unfold Row at hr
  rw [hb] at hr
  injection hr with hr
  cases hr
theorem KAt.same {w w' : World} {g b : Nat} {s : Lk} (h : KAt w g b s) (hg : w'.heap[g]? = w.heap[g]?) (hb : w'.heap[b]? = w.heap[b]?) : KAt w' g b s :=
  ⟨(show w'.heap[g]? = _ from hg.trans h.row), h.mp.same hb, h.ok⟩
theorem KAt.below {w w' : World} {g b : Nat} {s : Lk} (h : KAt w g b s) (hb : Below w.heap.size w w') : KAt w' g b s := h.same (hb.block _ h.row.lt) (hb.block _ h.mp.lt)
/-- The blocks that a table takes. -/
def kfp (g b k : Nat) : Prop := k = g ∨ k = b
theorem KAt.but {w w' : World} {g b : Nat} {s : Lk} {fp : Nat → Prop} (h : KAt w g b s) (hb : But w w' fp) (h1 : ¬ fp g) (h2 : ¬ fp b) : KAt w' g b s := h.same (hb.block _ h.row.lt h1) (hb.block _ h.mp.lt h2)
theorem KAt.cn {w : World} {g b : Nat} {s : Lk} (h : KAt w g b s) : w.cell? ⟨g, 0, none⟩ = some (.int .i64 (s.n : Int)) := by rw [h.row.cell]; exact tcells_0 _ _ _
theorem KAt.cm {w : World} {g b : Nat} {s : Lk} (h : KAt w g b s) : w.cell? ⟨g, 1, none⟩ = some (.map (some b)) := by rw [h.row.cell]; exact tcells_1 _ _ _
theorem KAt.cw {w : World} {g b : Nat} {s : Lk} (h : KAt w g b s) {c : Nat} (hc : c < 64) : w.cell? ⟨g, 2 + c, none⟩ = some (.int .u64 (s.wt c : Int)) := by rw [h.row.cell]; exact tcells_w _ _ _ hc
theorem KAt.free {w : World} {g b : Nat} {s : Lk} (h : KAt w g b s) (i : Nat) : w.frozen? ⟨g, i, none⟩ = false := h.row.free i
/-- A pointer to no table: nil, or a zero one. -/
def NoTab (w : World) (p : Option Addr) : Prop := p = none ∨ ∃ g, p = some ⟨g, 0, none⟩ ∧ Row w g 55 (ktcells 0 none fun _ => 0)
theorem NoTab.below {w w' : World} {p : Option Addr} (h : NoTab w p) (hb : Below w.heap.size w w') : NoTab w' p := by
  rcases h with h | ⟨g, h, hr⟩
  · exact .inl h
  · exact .inr ⟨g, h, hr.below hb hr.lt⟩
end Go.Proofs.Ytgclbeagifoifaa
