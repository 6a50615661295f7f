/- The node of entries: when it has just those; plain facts. -/
import Derived.Test.YthcopnnpedhboaaDoorN8Make
import Derived.Test.YthcopnnpedhboaaDoorN8RefM
namespace Go.Proofs.YthcopnnpedhboaaDoor
open Go.RowKit
set_option linter.unusedVariables false
theorem put_ptr (n : Nd) {k : Nat} (hk : k < 8) (e : Int × Int) (i : Nat) : (n.put k e).ptr i = if i = k then e.2 else n.ptr i := by
  by_cases hi : i < 8
  · rcases lt8 hk with rfl | rfl | rfl | rfl | rfl | rfl | rfl | rfl <;> rcases lt8 hi with rfl | rfl | rfl | rfl | rfl | rfl | rfl | rfl <;> rfl
  · rw [if_neg (by omega)]
    unfold Nd.ptr
    rw [List.getD_eq_getElem?_getD, List.getD_eq_getElem?_getD, List.getElem?_eq_none (by show 8 ≤ i; omega), List.getElem?_eq_none (by show 8 ≤ i; omega)]
theorem put_key (n : Nd) {k : Nat} (hk : k < 8) (e : Int × Int) (i : Nat) : (n.put k e).key i = if i = k then e.1 else n.key i := by
  by_cases hi : i < 8
  · rcases lt8 hk with rfl | rfl | rfl | rfl | rfl | rfl | rfl | rfl <;> rcases lt8 hi with rfl | rfl | rfl | rfl | rfl | rfl | rfl | rfl <;> rfl
  · rw [if_neg (by omega)]
    unfold Nd.key
    rw [List.getD_eq_getElem?_getD, List.getD_eq_getElem?_getD, List.getElem?_eq_none (by show 8 ≤ i; omega), List.getElem?_eq_none (by show 8 ≤ i; omega)]
theorem put_hd (n : Nd) {k : Nat} (hk : k < 8) (e : Int × Int) : (n.put k e).l = n.l ∧ (n.put k e).lo = n.lo ∧ (n.put k e).fi = n.fi := by
  rcases lt8 hk with rfl | rfl | rfl | rfl | rfl | rfl | rfl | rfl <;> exact ⟨rfl, rfl, rfl⟩
theorem mkN_ptr (n0 : Nd) (l : List (Int × Int)) : ∀ (k : Nat), k ≤ 8 → ∀ i, (mkN n0 l k).ptr i = if i < k then (l.getD i (0, 0)).2 else n0.ptr i
  | 0, _, i => rfl
  | k + 1, h, i => by
    show ((mkN n0 l k).put k (l.getD k (0, 0))).ptr i = _
    rw [put_ptr _ (by omega), mkN_ptr n0 l k (by omega) i]
    by_cases e : i = k
    · subst e
      rw [if_pos rfl, if_pos (by omega)]
    · rw [if_neg e]
      by_cases h2 : i < k
      · rw [if_pos h2, if_pos (by omega)]
      · rw [if_neg h2, if_neg (by omega)]
theorem mkN_key (n0 : Nd) (l : List (Int × Int)) : ∀ (k : Nat), k ≤ 8 → ∀ i, (mkN n0 l k).key i = if i < k then (l.getD i (0, 0)).1 else n0.key i
  | 0, _, i => rfl
  | k + 1, h, i => by
    show ((mkN n0 l k).put k (l.getD k (0, 0))).key i = _
    rw [put_key _ (by omega), mkN_key n0 l k (by omega) i]
    by_cases e : i = k
    · subst e
      rw [if_pos rfl, if_pos (by omega)]
    · rw [if_neg e]
      by_cases h2 : i < k
      · rw [if_pos h2, if_pos (by omega)]
      · rw [if_neg h2, if_neg (by omega)]
theorem mkN_hd (n0 : Nd) (l : List (Int × Int)) : ∀ (k : Nat), k ≤ 8 → (mkN n0 l k).l = n0.l ∧ (mkN n0 l k).lo = n0.lo ∧ (mkN n0 l k).fi = n0.fi
  | 0, _ => ⟨rfl, rfl, rfl⟩
  | k + 1, h => by
    obtain ⟨a, b, c⟩ := mkN_hd n0 l k (by omega)
    obtain ⟨d, e, f⟩ := put_hd (mkN n0 l k) (k := k) (by omega) (l.getD k (0, 0))
    exact ⟨d.trans a, e.trans b, f.trans c⟩
/-- The pointer ahead of a place. -/
def ahdE (f : Int) (l : List (Int × Int)) (i : Nat) : Int := if i = 0 then f else (l.getD (i - 1) (0, 0)).2
theorem ahdE_succ (f : Int) (l : List (Int × Int)) (k : Nat) : ahdE f l (k + 1) = (l.getD k (0, 0)).2 := by
  unfold ahdE
  rw [if_neg (Nat.succ_ne_zero k), Nat.add_sub_cancel]
/-- The first so many have a pointer of their own. -/
def GoodE (f : Int) (l : List (Int × Int)) (k : Nat) : Prop := ∀ i, i < k → (l.getD i (0, 0)).2 ≠ 0 ∧ (l.getD i (0, 0)).2 ≠ ahdE f l i
def fstF (base level first : Int) : Int := if level = 0 ∧ first = 0 then base else first
section
variable {base level low next first : Int} {l : List (Int × Int)}
theorem base_ptr (i : Nat) : (baseNd base level low next first).ptr i = 0 := by
  by_cases hi : i < 8
  · rcases lt8 hi with rfl | rfl | rfl | rfl | rfl | rfl | rfl | rfl <;> rfl
  · unfold Nd.ptr
    rw [List.getD_eq_getElem?_getD, List.getElem?_eq_none (by show 8 ≤ i; omega)]
    rfl
theorem mk_ptr (h8 : l.length ≤ 8) (i : Nat) : (makeN base level low next first l).ptr i = if i < l.length then (l.getD i (0, 0)).2 else 0 := by
  unfold makeN
  rw [mkN_ptr _ _ _ h8, base_ptr]
theorem mk_fi (h8 : l.length ≤ 8) : (makeN base level low next first l).fi = fstF base level first := (mkN_hd _ _ _ h8).2.2
theorem mk_ahd (h8 : l.length ≤ 8) {i : Nat} (hi : i ≤ l.length) : (makeN base level low next first l).ahd i = ahdE (fstF base level first) l i := by
  unfold Nd.ahd ahdE
  by_cases h0 : i = 0
  · rw [if_pos h0, if_pos h0, mk_fi h8]
  · rw [if_neg h0, if_neg h0, mk_ptr h8, if_pos (by omega)]
theorem filter_len {p : Nat → Bool} {n : Nat} (h : ((List.range n).filter p).length = n) : ∀ i, i < n → p i = true := by
  have := List.length_filter_eq_length_iff.1 (h.trans List.length_range.symm)
  intro i hi
  exact this i (List.mem_range.2 hi)
theorem mk_good (h8 : l.length ≤ 8) (hg : GoodE (fstF base level first) l l.length) : (makeN base level low next first l).len = l.length ∧ (∀ i, i < l.length → (makeN base level low next first l).ok i = true) ∧ (makeN base level low next first l).es = l := by
  have hlen : (makeN base level low next first l).len = l.length := Nd.len_eq _ h8 (fun i hi => by rw [mk_ptr h8, if_pos hi]; exact (hg i hi).1) (fun hi => by rw [mk_ptr h8, if_neg (by omega)])
  have hok : ∀ i, i < l.length → (makeN base level low next first l).ok i = true := fun i hi => by
    unfold Nd.ok
    rw [mk_ptr h8, if_pos hi, mk_ahd h8 (by omega)]
    simpa using (hg i hi).2
  refine ⟨hlen, hok, ?_⟩
  have hvp : (makeN base level low next first l).vp = List.range l.length := by
    unfold Nd.vp Nd.vpTo
    rw [hlen, List.filter_eq_self]
    exact fun i hi => hok i (List.mem_range.1 hi)
  unfold Nd.es
  rw [hvp]
  apply List.ext_getElem (by simp)
  intro i h1 h2
  simp only [List.getElem_map, List.getElem_range]
  unfold Nd.ent
  rw [mk_ptr h8, if_pos h2]
  unfold makeN
  rw [mkN_key _ _ _ h8, if_pos h2, List.getD_eq_getElem?_getD, List.getElem?_eq_getElem h2]
  rfl
theorem mk_es (h8 : l.length ≤ 8) (h : (makeN base level low next first l).es.length = l.length) : GoodE (fstF base level first) l l.length := by
  have hvl : (makeN base level low next first l).vp.length = l.length := by unfold Nd.es at h; rwa [List.length_map] at h
  have hle : (makeN base level low next first l).len ≤ l.length := by
    rcases Nat.lt_or_ge l.length (makeN base level low next first l).len with h1 | h1
    · exfalso
      have := Nd.len_before _ h1
      rw [mk_ptr h8, if_neg (by omega)] at this
      exact this rfl
    · exact h1
  have hvle : (makeN base level low next first l).vp.length ≤ (makeN base level low next first l).len := Nd.vpTo_len _ _
  have hlen : (makeN base level low next first l).len = l.length := by omega
  have hf : ((List.range l.length).filter (makeN base level low next first l).ok).length = l.length := by
    rw [← hlen]
    rw [← hlen] at hvl
    exact hvl
  intro i hi
  have h1 := Nd.len_before (makeN base level low next first l) (i := i) (by omega)
  have h2 := filter_len hf i hi
  rw [mk_ptr h8, if_pos hi] at h1
  unfold Nd.ok at h2
  rw [mk_ptr h8, if_pos hi, mk_ahd h8 (by omega)] at h2
  exact ⟨h1, by simpa using h2⟩
theorem make_yes (h8 : l.length ≤ 8) (h0 : 0 ≤ level) (h15 : level ≤ 15) (hf : fstF base level first ≠ 0) (hr : riseR level low (fstF base level first) l = true) (hg : GoodE (fstF base level first) l l.length) :
    makeR base level low next first l = (makeN base level low next first l, 0) := by
  obtain ⟨h1, h2, h3⟩ := mk_good (low := low) (next := next) h8 hg
  have hh := mkN_hd (baseNd base level low next first) l _ h8
  have hl : (makeN base level low next first l).l = level := hh.1
  have hlo : (makeN base level low next first l).lo = low := hh.2.1
  rw [makeR_yes _ _ _ _ _ _ h8, may_r, hl, hlo, mk_fi h8, h3, h1, hr, decide_eq_true h0, decide_eq_true h15, show (fstF base level first != 0) = true by simpa using hf, decide_eq_true (show l.length ≤ l.length + 1 by omega), decide_eq_true (rfl : l.length = l.length)]
  rfl
theorem make_no (h : level < 0 ∨ 15 < level ∨ fstF base level first = 0 ∨ 8 < l.length ∨ riseR level low (fstF base level first) l = false ∨ ¬ GoodE (fstF base level first) l l.length) :
    makeR base level low next first l = (zeroNd, 2) := by
  by_cases h8 : l.length ≤ 8
  · rw [makeR_yes _ _ _ _ _ _ h8]
    have hh := mkN_hd (baseNd base level low next first) l _ h8
    have hl : (makeN base level low next first l).l = level := hh.1
    have hlo : (makeN base level low next first l).lo = low := hh.2.1
    by_cases hes : (makeN base level low next first l).es.length = l.length
    · have hg := mk_es h8 hes
      obtain ⟨h1, h2, h3⟩ := mk_good (low := low) (next := next) h8 hg
      have : (makeN base level low next first l).may 0 false = false := by
        rw [may_r, hl, hlo, mk_fi h8, h3]
        rcases h with h | h | h | h | h | h
        · rw [decide_eq_false (show ¬ 0 ≤ level by omega)]; rfl
        · rw [decide_eq_false (show ¬ level ≤ 15 by omega)]; simp
        · rw [h]; simp
        · omega
        · rw [h]; simp
        · exact absurd hg h
      rw [this]
      rfl
    · rw [decide_eq_false hes, Bool.and_false]
      rfl
  · exact makeR_no _ _ _ _ _ _ (by omega)
/-- What a node of entries has. -/
theorem make_has (h : (makeR base level low next first l).2 = 0) : ∃ n, makeR base level low next first l = (n, 0) ∧ n.may 0 false = true ∧ n.es = l ∧ n.inv = -1 ∧ n.len = l.length := by
  by_cases h8 : l.length ≤ 8
  · rw [makeR_yes _ _ _ _ _ _ h8] at h ⊢
    cases hm : (makeN base level low next first l).may 0 false with
    | false => rw [hm] at h; cases h
    | true =>
      by_cases hes : (makeN base level low next first l).es.length = l.length
      · obtain ⟨h1, h2, h3⟩ := mk_good (low := low) (next := next) h8 (mk_es h8 hes)
        exact ⟨_, by rw [decide_eq_true hes]; rfl, hm, h3, Nd.inv_none _ (fun i hi => h2 i (by omega)), h1⟩
      · rw [hm, decide_eq_false hes] at h
        cases h
  · rw [makeR_no _ _ _ _ _ _ (by omega)] at h
    cases h
end
end Go.Proofs.YthcopnnpedhboaaDoor
