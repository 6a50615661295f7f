/- The marks' map: what a look-up yields, what a store and a deletion make of it; for lines that there are, and marks that fit. -/
import Derived.Test.YtedefebdfcgjeaaPLem
namespace Go.Proofs.Ytedefebdfcgjeaa
open Go.RowKit Go.Maps
set_option linter.unusedVariables false
theorem zeroMk (W : World) : (zeroValue 77).run Try.prog W = .ok (mkV fun _ => 0) W := by kernel_rfl
theorem key_inj {i j : Nat} (h : key i = key j) : i = j := by
  unfold key at h
  injection h with _ h
  omega
theorem key_is (i : Nat) : WideAt.IsKeyLit (key i) := by
  unfold key WideAt.IsKeyLit
  trivial
theorem key_of {i : Nat} (h : i ≤ 9223372036854775807) : keyOf Try.prog 3 (.int .i64 (i : Int)) = some (key i) := by
  refine keyOf_int_mk Try.underlying3 ?_
  simp only [Lit.wf, Bool.and_eq_true, decide_eq_true_eq]
  exact ⟨by show (-9223372036854775808 : Int) ≤ _; omega, by show _ ≤ (9223372036854775807 : Int); omega⟩
/-- The marks with one line's set anew. -/
def upd (m : Nat → Nat → Nat) (i : Nat) (f : Nat → Nat) : Nat → Nat → Nat := fun j => if j = i then f else m j
theorem own_tight {w : World} {P : Program} {k : TypeId} {R : Value → Option (DataW Unit × List MemPlace)} {b n : Nat} {D : DataW Unit} (h : w.ownsMap P k R b n D) : w.ownsMap P k R b (Maps.size D) D := by
  obtain ⟨es, c, hb, F, hs, hD⟩ := h
  refine ⟨es, c, hb, F, ?_, hD⟩
  rw [hD]
  simp [Maps.size, length_sorted]
theorem same_refl {a : Lit} (h : WideAt.IsKeyLit a) : a.sameKey a = true := by
  cases a <;> first | (simp [Lit.sameKey]; done) | exact h.elim
theorem marks_size {w : World} {mb nl : Nat} {D : DataW Unit} (h : w.ownsMap Try.prog 3 mkR mb (Maps.size D) D) (hk : ∀ k, Maps.has D k = true → ∃ j, j < nl ∧ k = key j) : Maps.size D ≤ nl := by
  obtain ⟨es, rfl, hp, hl⟩ := h.entries keyed
  have h1 : (es.map Prod.fst).Nodup := by
    rw [List.nodup_iff_pairwise_ne]
    exact List.pairwise_map.2 hp
  have h2 : es.map Prod.fst ⊆ (List.range nl).map key := by
    intro k hk'
    obtain ⟨p, hp', rfl⟩ := List.mem_map.1 hk'
    have : Maps.has (.map es) p.1 = true := by
      rw [Maps.has_eq, List.any_eq_true]
      exact ⟨p, hp', by have := hl p hp'; exact same_refl this⟩
    obtain ⟨j, hj, e⟩ := hk _ this
    rw [e]
    exact List.mem_map.2 ⟨j, by simpa using hj, rfl⟩
  have h3 := List.Nodup.length_le_of_subset h1 h2
  simpa [Maps.size_eq] using h3
theorem not_some {f : Nat → Nat} (h : ¬ someMk f) : ∀ c, c < 65 → f c = 0 := by
  intro c hc
  by_cases e : f c = 0
  · exact e
  · exact absurd ⟨c, hc, e⟩ h
theorem marks_val {w : World} {mb nl : Nat} {m : Nat → Nat → Nat} {D : DataW Unit} (hs : ∀ j, j < nl → (Maps.has D (key j) = true ↔ someMk (m j))) (ha : ∀ j, j < nl → ∀ z, Maps.has D (key j) = true → D.atKey (key j) z = mkD (m j))
    {i : Nat} (hi : i < nl) {v : Value} {ps : List MemPlace} (hv : mkR v = some (D.atKey (key i) (mkD fun _ => 0), ps)) : v = mkV (m i) := by
  obtain ⟨f, rfl, he, _⟩ := mkR_inv hv
  injection he with he _
  refine mkV_of fun c hc => ?_
  by_cases hh : Maps.has D (key i) = true
  · rw [ha i hi _ hh] at he
    exact (mkD_inj he c hc).symm
  · have hn : Maps.has D (key i) = false := by simpa using hh
    rw [atKey_of_not_has hn] at he
    rw [← mkD_inj he c hc, not_some (fun hx => hh ((hs i hi).2 hx)) c hc]
theorem marks_look {w : World} {mb nl i : Nat} {m : Nat → Nat → Nat} (h : MarksAt w mb nl m) (hi : i < nl) (hb : nl ≤ 16384) :
    (Instr.lookup 53 (.map (some mb)) (.int .i64 (i : Int)) false).run Try.prog w = .ok (mkV (m i)) w := by
  obtain ⟨D, hown, hk, hs, ha⟩ := h
  obtain ⟨v, ps, hrun, hv⟩ := hown.lookup keyed Try.underlying53 (zeroMk w) (mkR_mk (f := fun _ => 0) (fun _ => by omega)) (key_of (i := i) (by omega))
  rw [hrun, marks_val (w := w) (mb := mb) hs ha hi hv]
theorem marks_look_ok {w : World} {mb nl i : Nat} {m : Nat → Nat → Nat} (h : MarksAt w mb nl m) (hi : i < nl) (hb : nl ≤ 16384) :
    ∃ b : Bool, (b = true ↔ someMk (m i)) ∧ (Instr.lookup 53 (.map (some mb)) (.int .i64 (i : Int)) true).run Try.prog w = .ok (.tuple #[mkV (m i), .bool b]) w := by
  obtain ⟨D, hown, hk, hs, ha⟩ := h
  obtain ⟨v, ps, hrun, hv⟩ := hown.look_ok keyed Try.underlying53 (zeroMk w) (mkR_mk (f := fun _ => 0) (fun _ => by omega)) (key_of (i := i) (by omega))
  exact ⟨_, hs i hi, by rw [hrun, marks_val (w := w) (mb := mb) hs ha hi hv]⟩
theorem marks_put {w : World} {mb nl i : Nat} {m : Nat → Nat → Nat} {f : Nat → Nat} (h : MarksAt w mb nl m) (hi : i < nl) (hb : nl ≤ 16384) (hf : someMk f) (hw : ∀ c, f c ≤ 9223372036854775807) :
    ∃ w', (Instr.mapUpdate 53 (.map (some mb)) (.int .i64 (i : Int)) (mkV f)).run Try.prog w = .ok () w' ∧ MarksAt w' mb nl (upd m i f) ∧ w.grownBy w' (some mb) := by
  obtain ⟨D, hown, hk, hs, ha⟩ := h
  have hz := marks_size hown hk
  obtain ⟨w', hrun, ho, hg⟩ := hown.update keyed Try.underlying53 (by unfold maxLen; omega) (key_of (i := i) (by omega)) (mkR_mk hw)
  refine ⟨w', hrun, ⟨_, own_tight ho, ?_, ?_, ?_⟩, hg⟩
  · intro k hk'
    by_cases e : k = key i
    · exact ⟨i, hi, e⟩
    · rw [has_put_other e] at hk'
      exact hk k hk'
  · intro j hj
    by_cases e : j = i
    · subst e
      simp only [upd, if_true]
      exact ⟨fun _ => hf, fun _ => has_put_same hown.isMap (key_is _) _⟩
    · rw [has_put_other (fun e' => e (key_inj e')), hs j hj]
      simp only [upd, if_neg e]
  · intro j hj z hh
    by_cases e : j = i
    · subst e
      simp only [upd, if_true]
      exact atKey_put_same hown.isMap (key_is _) _ _
    · have e' : key j ≠ key i := fun e' => e (key_inj e')
      rw [has_put_other e'] at hh
      rw [atKey_put_other e']
      simp only [upd, if_neg e]
      exact ha j hj z hh
theorem marks_del {w : World} {mb nl i : Nat} {ty : TypeId} {m : Nat → Nat → Nat} {f : Nat → Nat} (h : MarksAt w mb nl m) (hi : i < nl) (hb : nl ≤ 16384) (hf : ¬ someMk f) :
    ∃ w', (Builtin.delete_ #[53, 3] ty #[.map (some mb), .int .i64 (i : Int)]).run Try.prog w = .ok (.tuple #[]) w' ∧ MarksAt w' mb nl (upd m i f) ∧ w.grownBy w' (some mb) := by
  obtain ⟨D, hown, hk, hs, ha⟩ := h
  obtain ⟨w', hrun, ho, ht⟩ := hown.drop keyed Try.underlying53 (key_of (i := i) (by omega)) ty
  refine ⟨w', hrun, ⟨_, own_tight ho, ?_, ?_, ?_⟩, ht.grown⟩
  · intro k hk'
    by_cases e : k = key i
    · subst e
      rw [has_del_same] at hk'
      cases hk'
    · rw [has_del_other e] at hk'
      exact hk k hk'
  · intro j hj
    by_cases e : j = i
    · subst e
      simp only [upd, if_true]
      rw [has_del_same]
      exact ⟨fun h => (by cases h), fun h => absurd h hf⟩
    · rw [has_del_other (fun e' => e (key_inj e')), hs j hj]
      simp only [upd, if_neg e]
  · intro j hj z hh
    by_cases e : j = i
    · subst e
      rw [has_del_same] at hh
      cases hh
    · have e' : key j ≠ key i := fun e' => e (key_inj e')
      rw [has_del_other e'] at hh
      rw [atKey_del_other e']
      simp only [upd, if_neg e]
      exact ha j hj z hh

/-- Marks as cells. -/
def marr (f : Nat → Nat) : Array Value := Array.ofFn fun c : Fin 65 => .int .i64 (f c.val : Int)
theorem mkV_marr (f : Nat → Nat) : mkV f = .agg (marr f) := rfl
theorem marr_size (f : Nat → Nat) : (marr f).size = 65 := by simp [marr]
theorem marr_get (f : Nat → Nat) (c : Nat) (h : c < 65) : (marr f)[c]? = some (.int .i64 (f c : Int)) := by simp [marr, h]
theorem marr_one (f : Nat → Nat) : (marr f).all (·.oneCell') = true := by
  rw [Array.all_eq_true]
  intro i hi
  simp [marr, Value.oneCell']
theorem size77 : (Try.prog.info? 77).map (·.size) = some 65 := by kernel_rfl
theorem marr_fit (f : Nat → Nat) : (Try.prog.info? 77).map (·.size) = some (marr f).size := by rw [marr_size]; exact size77
theorem marr_set (f : Nat → Nat) (c n : Nat) (h : c < 65) : (marr f).setIfInBounds c (.int .i64 (n : Int)) = marr fun k => if k = c then n else f k := by
  apply Array.ext
  · simp [marr]
  · intro i h1 h2
    simp [marr] at h2
    rw [Array.getElem_setIfInBounds]
    · by_cases e : c = i
      · subst e
        simp [marr]
      · have e' : ¬ i = c := fun x => e x.symm
        simp [marr, e, e']
    · simpa [marr] using h1

/-- A state that a memory can have: its words fit; each line's stores lie in it; nobody has marked more than is pending; no number is great. -/
structure St.Ok (s : St) : Prop where
  las : ∀ x ∈ s.lasted, x < 18446744073709551616
  vie : ∀ x ∈ s.view, x < 18446744073709551616
  put : ∀ (j : Nat) (l : List (Nat × Nat)), s.pend[j]? = some l → ∀ p ∈ l, p.1 % 8 = 0 ∧ p.1 / 64 = j ∧ p.2 < 18446744073709551616
  few : ∀ l ∈ s.pend, l.length ≤ 1000000000
  mks : ∀ j c, s.mm j c ≤ (s.pend.getD j []).length
  num : s.ld < 9223372036854775808 ∧ s.st < 9223372036854775808 ∧ s.fl < 9223372036854775808 ∧ s.fe < 9223372036854775808
theorem St.Ok.mk_le {s : St} (h : s.Ok) (j c : Nat) : s.mm j c ≤ 1000000000 := by
  refine Nat.le_trans (h.mks j c) ?_
  rw [List.getD_eq_getElem?_getD]
  cases e : s.pend[j]? with
  | none => simp
  | some l => exact h.few l (List.mem_of_getElem? e)
end Go.Proofs.Ytedefebdfcgjeaa
