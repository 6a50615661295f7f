/- A map that is gone over while its entries are written anew or struck: what is left stays what it was, but for those that are struck; without conditions. -/
import Derived.Test.YtedefebdfcgjeaaPMarks
namespace Go.Proofs.Ytedefebdfcgjeaa
open Go.RowKit Go.Maps Go.ChangeMaps Go.MapKept
open Go.WideElems (Fit rd rg pl rd_val rd_key rg_of)
set_option linter.unusedVariables false

/-- The map's entries behind are some of those ahead, by their stamps and keys; the clock stands. -/
def MapStep (w w' : World) (b : Nat) : Prop :=
  ∀ es clock, w.heap[b]? = some (.map es clock) → ∃ es' : Array MapEntry, w'.heap[b]? = some (.map es' clock) ∧ ∀ x' ∈ es'.toList, ∃ x ∈ es.toList, x.born = x'.born ∧ x.key = x'.key
theorem MapStep.same {w w' : World} {b : Nat} (h : w'.heap[b]? = w.heap[b]?) : MapStep w w' b := fun es c he => ⟨es, h.trans he, fun x hx => ⟨x, hx, rfl, rfl⟩⟩
theorem MapStep.trans {w w1 w2 : World} {b : Nat} (h : MapStep w w1 b) (h2 : MapStep w1 w2 b) : MapStep w w2 b := by
  intro es c he
  obtain ⟨es1, h1, hx1⟩ := h es c he
  obtain ⟨es2, h3, hx2⟩ := h2 es1 c h1
  refine ⟨es2, h3, fun x hx => ?_⟩
  obtain ⟨x1, m1, b1, k1⟩ := hx2 x hx
  obtain ⟨x0, m0, b0, k0⟩ := hx1 x1 m1
  exact ⟨x0, m0, b0.trans b1, k0.trans k1⟩

theorem own_one {w : World} {P : Program} {k : TypeId} {R : Value → Option (DataW Unit × List MemPlace)} {b n n' : Nat} {D D' : DataW Unit} (h : w.ownsMap P k R b n D) (h' : w.ownsMap P k R b n' D') : D = D' := by
  obtain ⟨es, c, hb, _, _, rfl⟩ := h
  obtain ⟨es', c', hb', _, _, rfl⟩ := h'
  rw [hb] at hb'
  injection hb' with hb'
  injection hb' with e1 e2
  rw [e1]

section
variable {P : Program} {k : TypeId} {R : Value → Option (DataW Unit × List MemPlace)} {w w' : World} {b r n n' : Nat} {D D' : DataW Unit} {left : Lit → Bool} {cnt : Nat}
theorem has_entry {es : Array MapEntry} {c : Nat} (K : Keyed P k) (F : Fit P k R es c) (kl : Lit) : Maps.has (.map ((es.toList.map (rg P k R)).foldr DataW.insert [])) kl = true ↔ ∃ x ∈ es.toList, (rg P k R x).1 = kl := by
  rw [Maps.has_eq, List.any_eq_true]
  constructor
  · rintro ⟨p, hp, hs⟩
    obtain ⟨x, hx, rfl⟩ := List.mem_map.1 (mem_sorted.1 hp)
    exact ⟨x, hx, WideAt.sameKey_eq hs⟩
  · rintro ⟨x, hx, rfl⟩
    refine ⟨_, mem_sorted.2 (List.mem_map.2 ⟨x, hx, rfl⟩), ?_⟩
    obtain ⟨y, hy⟩ := F.reads x hx
    rw [rg_of hy]
    exact WideAt.sameKey_self (K.key (rd_key hy))
theorem rg_key {es : Array MapEntry} {c : Nat} (F : Fit P k R es c) {x : MapEntry} (hx : x ∈ es.toList) : keyOf P k x.key = some (rg P k R x).1 := by
  obtain ⟨y, hy⟩ := F.reads x hx
  rw [rg_of hy]
  exact rd_key hy
theorem left_has (h : w.ranges P k R b r n D left cnt) (K : Keyed P k) {kl : Lit} (hl : left kl = true) : Maps.has D kl = true := by
  obtain ⟨es, clock, since, seen, c0, hb, F, hs, rfl, hr, hold, hc, hl1, hl2, _⟩ := h
  exact (has_entry K F kl).2 (hl2 kl hl)
/-- The range goes on behind such a step. -/
theorem ranges_step (h : w.ranges P k R b r n D left cnt) (K : Keyed P k) (hst : MapStep w w' b) (hr' : w'.heap[r]? = w.heap[r]?) (hown : w'.ownsMap P k R b n' D') :
    ∃ cnt', w'.ranges P k R b r n' D' (fun kl => left kl && Maps.has D' kl) cnt' ∧ cnt' ≤ cnt := by
  obtain ⟨es, clock, since, seen, c0, hb, F, hs, rfl, hr, hold, hc, hl1, hl2, h1, h2⟩ := h
  obtain ⟨es', hb', hx'⟩ := hst es clock hb
  obtain ⟨es2, c2, hb2, F', hs', rfl⟩ := hown
  rw [hb'] at hb2
  injection hb2 with hb2
  injection hb2 with e1 e2
  subst e1 e2
  have same : ∀ x ∈ es.toList, ∀ x' ∈ es'.toList, x.key = x'.key → (rg P k R x').1 = (rg P k R x).1 := by
    intro x hx x' hx' e
    obtain ⟨y, hy⟩ := F.reads x hx
    obtain ⟨y', hy'⟩ := F'.reads x' hx'
    rw [rg_of hy, rg_of hy']
    have m1 := rd_key hy
    have m2 := rd_key hy'
    rw [e, m2] at m1
    exact Option.some.inj m1
  refine ⟨(leftOf es' seen).size, ⟨es', clock, since, seen, c0, hb', F', hs', rfl, hr'.trans hr, ?_, rfl, ?_, ?_, h1, h2⟩, ?_⟩
  · intro x hx
    obtain ⟨x0, m0, b0, _⟩ := hx' x hx
    rw [← b0]
    exact hold x0 m0
  · intro x hx
    obtain ⟨x0, m0, b0, k0⟩ := hx' x hx
    dsimp only
    rw [(has_entry K F' _).2 ⟨x, hx, rfl⟩, Bool.and_true, same x0 m0 x hx k0, hl1 x0 m0, b0]
  · intro kl hkl
    simp only [Bool.and_eq_true] at hkl
    exact (has_entry K F' kl).1 hkl.2
  · subst hc
    have e1 : ∀ a : Array MapEntry, (leftOf a seen).size = ((a.toList.filter fun e => !seen.contains e.born).map MapEntry.born).length := fun a => by
      unfold leftOf
      rw [← Array.toList_filter, List.length_map, Array.length_toList]
    rw [e1, e1]
    refine List.Nodup.length_le_of_subset ?_ ?_
    · have := F'.stamped.2.1
      exact (List.Sublist.map _ List.filter_sublist).nodup this
    · intro q hq
      obtain ⟨x, hx, rfl⟩ := List.mem_map.1 hq
      rw [List.mem_filter] at hx
      obtain ⟨x0, m0, b0, _⟩ := hx' x hx.1
      exact List.mem_map.2 ⟨x0, List.mem_filter.2 ⟨m0, by rw [b0]; exact hx.2⟩, b0⟩
end

set_option maxRecDepth 100000 in
/-- A store at a key that is there, and a deletion, are such steps. -/
theorem put_step {w w' : World} {mb nl i : Nat} {m : Nat → Nat → Nat} {f : Nat → Nat} (h : MarksAt w mb nl m) (hi : i < nl) (hb : nl ≤ 16384) (hs : someMk (m i))
    (hrun : (Instr.mapUpdate 53 (.map (some mb)) (.int .i64 (i : Int)) (mkV f)).run Try.prog w = .ok () w') : MapStep w w' mb := by
  obtain ⟨D, ⟨es, clock, hmb, F, hsz, rfl⟩, hk, hs2, ha⟩ := h
  have hkey := key_of (i := i) (by omega)
  have hthere := (hs2 i hi).2 hs
  obtain ⟨x0, hx0, hk0⟩ := (has_entry keyed F _).1 hthere
  have hkeys : ∀ e ∈ es.toList, ∃ l, keyOf Try.prog 3 e.key = some l := fun e he => by
    obtain ⟨y, hy⟩ := F.reads e he
    exact ⟨_, rd_key hy⟩
  rcases keyed.find w hkey es.toList hkeys with ⟨h1, h2⟩ | ⟨j, e0, h1, h2, h3⟩
  · exfalso
    have m := rg_key F hx0
    rw [hk0] at m
    exact h2 x0 hx0 (keyed.inj m hkey)
  · have hj : es[j]? = some e0 := by simpa using h2
    have hrun2 : (Instr.mapUpdate 53 (.map (some mb)) (.int .i64 (i : Int)) (mkV f)).run Try.prog w = .ok () (setBlock w mb (.map (es.modify j (fun e' => { e' with key := .int .i64 (i : Int), val := mkV f })) clock)) := by
      simp [Instr.mapUpdate, run_underlying Try.underlying53, MapKept.run_getObj_map hmb, keyed.check w false hkey, h1, hj, h3, keyed.stays w hkey, MapKept.run_setObj_map _ hmb, Result.andThen, setBlock]
    rw [hrun2] at hrun
    injection hrun with _ hw
    subst hw
    intro es2 c2 he2
    rw [hmb] at he2
    injection he2 with he2
    injection he2 with e1 e2
    subst e1 e2
    refine ⟨_, heap_setBlock_same hmb _, fun x' hx' => ?_⟩
    rw [Array.toList_modify] at hx'
    obtain ⟨q, hq, ex⟩ := List.getElem_of_mem hx'
    have hq' : q < es.toList.length := by simpa using hq
    refine ⟨es.toList[q], List.getElem_mem hq', ?_⟩
    rw [List.getElem_modify] at ex
    rw [← ex]
    split
    · rename_i hjq
      subst hjq
      have : es.toList[j] = e0 := by
        rw [List.getElem?_eq_getElem hq'] at h2
        exact Option.some.inj h2
      rw [this]
      exact ⟨rfl, h3⟩
    · exact ⟨rfl, rfl⟩
set_option maxRecDepth 100000 in
theorem del_step {w w' : World} {mb nl i : Nat} {ty : TypeId} {m : Nat → Nat → Nat} (h : MarksAt w mb nl m) (hi : i < nl) (hb : nl ≤ 16384)
    (hrun : (Builtin.delete_ #[53, 3] ty #[.map (some mb), .int .i64 (i : Int)]).run Try.prog w = .ok (.tuple #[]) w') : MapStep w w' mb := by
  obtain ⟨D, ⟨es, clock, hmb, F, hsz, rfl⟩, hk, hs2, ha⟩ := h
  obtain ⟨es', hrun2, _, _, _, hsub, _⟩ := fit_drop_who (ty := ty) keyed Try.underlying53 hmb F (key_of (i := i) (by omega))
  rw [hrun2] at hrun
  injection hrun with _ hw
  subst hw
  intro es2 c2 he2
  rw [hmb] at he2
  injection he2 with he2
  injection he2 with e1 e2
  subst e1 e2
  exact ⟨es', heap_setBlock_same hmb _, fun x hx => ⟨x, hsub.subset hx, rfl, rfl⟩⟩
end Go.Proofs.Ytedefebdfcgjeaa
