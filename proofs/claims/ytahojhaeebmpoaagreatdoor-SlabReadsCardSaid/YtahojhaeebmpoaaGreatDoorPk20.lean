/- Texts of this claim, packed: PFenSt, PLose. -/
import Derived.Test.YtahojhaeebmpoaaGreatDoorPk19
import Derived.Test.YtahojhaeebmpoaaGreatDoorPk16
import Derived.Deep.RegionHeld3
/- What a fence makes of a state, line by line; plain facts, for states that a memory can have. -/
namespace Go.Proofs.YtahojhaeebmpoaaGreatDoor
set_option linter.unusedVariables false
theorem lastW_local {las las' : List Nat} (ps : List (Nat × Nat)) {k : Nat} (hl : las.length = las'.length) (h : las[k]? = las'[k]?) : (lastW las ps)[k]? = (lastW las' ps)[k]? := by
  induction ps generalizing las las' with
  | nil => exact h
  | cons p t ih =>
    show (lastW (las.set (p.1 / 8) p.2) t)[k]? = (lastW (las'.set (p.1 / 8) p.2) t)[k]?
    refine ih (by simpa using hl) ?_
    rw [List.getElem?_set, List.getElem?_set, hl, h]
theorem lastW_far {las : List Nat} {ps : List (Nat × Nat)} {k : Nat} (h : ∀ p ∈ ps, p.1 / 8 ≠ k) : (lastW las ps)[k]? = las[k]? := by
  induction ps generalizing las with
  | nil => rfl
  | cons p t ih =>
    show (lastW (las.set (p.1 / 8) p.2) t)[k]? = _
    rw [ih (fun q hq => h q (by simp [hq])), List.getElem?_set_ne (h p (by simp))]
theorem lastW_fits {las : List Nat} {ps : List (Nat × Nat)} (h1 : ∀ x ∈ las, x < 18446744073709551616) (h2 : ∀ p ∈ ps, p.2 < 18446744073709551616) : ∀ x ∈ lastW las ps, x < 18446744073709551616 := by
  induction ps generalizing las with
  | nil => exact h1
  | cons p t ih =>
    refine ih (las := las.set (p.1 / 8) p.2) ?_ (fun q hq => h2 q (by simp [hq]))
    intro x hx
    rcases List.mem_or_eq_of_mem_set hx with hx | rfl
    · exact h1 x hx
    · exact h2 p (by simp)

/-- The state behind a fence of those lines that V says. -/
def St.fenV (s : St) (c : Nat) (V : Nat → Bool) : St :=
  { s with
    lasted := s.lasted.mapIdx fun k x => if V (k / 8) = true then (lastW s.lasted ((s.pend.getD (k / 8) []).take (s.mm (k / 8) c))).getD k 0 else x
    pend := s.pend.mapIdx fun j l => if V j = true then l.drop (s.mm j c) else l
    mm := fun j => if V j = true then (fun k => s.mm j k - s.mm j c) else s.mm j }
theorem st_ext {s t : St} (h1 : s.nl = t.nl) (h2 : s.lasted = t.lasted) (h3 : s.view = t.view) (h4 : s.pend = t.pend) (h5 : s.mm = t.mm) (h6 : s.ld = t.ld) (h7 : s.st = t.st) (h8 : s.fl = t.fl) (h9 : s.fe = t.fe) : s = t := by
  cases s
  cases t
  dsimp only at *
  subst h1 h2 h3 h4 h5 h6 h7 h8 h9
  rfl
theorem getD_at {α : Type} {l : List α} {i : Nat} {d : α} (h : i < l.length) : l.getD i d = l[i] := by rw [List.getD_eq_getElem?_getD, List.getElem?_eq_getElem h]; rfl
theorem fenV_none (s : St) (c : Nat) : s.fenV c (fun _ => false) = s := by
  refine st_ext rfl ?_ rfl ?_ ?_ rfl rfl rfl rfl
  · apply List.ext_getElem?
    intro i
    simp [St.fenV]
  · apply List.ext_getElem?
    intro i
    simp [St.fenV]
  · funext j
    simp [St.fenV]
theorem fenV_step {s : St} (ok : s.Ok) (hp : s.pend.length = s.nl) {c j : Nat} {V : Nat → Bool} (hj : j < s.nl) (hV : V j = false) :
    (s.fenV c V).last j (s.mm j c) = s.fenV c (fun i => V i || i == j) := by
  have hpj : (s.fenV c V).pend.getD j [] = s.pend.getD j [] := by
    simp [St.fenV, List.getD_eq_getElem?_getD, List.getElem?_mapIdx, hV]
  refine st_ext rfl ?_ rfl ?_ ?_ rfl rfl rfl rfl
  · show lastW (s.fenV c V).lasted (((s.fenV c V).pend.getD j []).take (s.mm j c)) = _
    rw [hpj]
    apply List.ext_getElem?
    intro k
    by_cases hk : k / 8 = j
    · have h1 : (s.fenV c V).lasted[k]? = s.lasted[k]? := by
        simp [St.fenV, List.getElem?_mapIdx, hk, hV]
      rw [lastW_local _ (by simp [St.fenV]) h1]
      simp only [St.fenV, List.getElem?_mapIdx, hk, beq_self_eq_true, Bool.or_true, if_true]
      generalize (s.pend.getD j []).take (s.mm j c) = PS
      have hlen := lastW_length s.lasted PS
      by_cases hl : k < s.lasted.length
      · rw [List.getElem?_eq_getElem hl, List.getElem?_eq_getElem (show k < (lastW s.lasted PS).length by omega)]
        simp only [Option.map_some]
        rw [getD_at (show k < (lastW s.lasted PS).length by omega)]
      · rw [List.getElem?_eq_none (show s.lasted.length ≤ k by omega), List.getElem?_eq_none (show (lastW s.lasted PS).length ≤ k by omega)]
        rfl
    · rw [lastW_far]
      · have e : (k / 8 == j) = false := by simpa using hk
        simp only [St.fenV, List.getElem?_mapIdx, e, Bool.or_false]
      · intro p hp'
        have hm := List.mem_of_mem_take hp'
        rw [getD_at (by omega)] at hm
        have := (ok.put j _ (List.getElem?_eq_getElem (by omega)) p hm).2.1
        omega
  · show (s.fenV c V).pend.set j (((s.fenV c V).pend.getD j []).drop (s.mm j c)) = _
    rw [hpj]
    apply List.ext_getElem?
    intro k
    rw [List.getElem?_set]
    by_cases hk : j = k
    · subst hk
      rw [if_pos rfl, if_pos (by simp [St.fenV]; omega)]
      simp only [St.fenV, List.getElem?_mapIdx, beq_self_eq_true, Bool.or_true, if_true]
      rw [List.getElem?_eq_getElem (by omega), getD_at (by omega)]
      rfl
    · rw [if_neg hk]
      have e : (k == j) = false := by simpa using fun x => hk x.symm
      simp only [St.fenV, List.getElem?_mapIdx, e, Bool.or_false]
  · funext i
    show umk (s.fenV c V).mm j (s.mm j c) i = _
    by_cases hi : i = j
    · subst hi
      funext q
      rw [umk_at]
      simp [St.fenV, hV]
    · funext q
      rw [umk_far hi]
      have e : (i == j) = false := by simpa using hi
      show (if V i = true then (fun k => s.mm i k - s.mm i c) else s.mm i) q = (if (V i || i == j) = true then (fun k => s.mm i k - s.mm i c) else s.mm i) q
      rw [e, Bool.or_false]
theorem fenV_ok {s : St} (ok : s.Ok) (c : Nat) (V : Nat → Bool) : (s.fenV c V).Ok := by
  refine ⟨?_, ok.vie, ?_, ?_, ?_, ok.num⟩
  · intro x hx
    simp only [St.fenV, List.mem_mapIdx] at hx
    obtain ⟨k, hk, rfl⟩ := hx
    split
    · rw [getD_at (by rw [lastW_length]; exact hk)]
      refine lastW_fits ok.las ?_ _ (List.getElem_mem _)
      intro p hp
      have hm := List.mem_of_mem_take hp
      by_cases hl : k / 8 < s.pend.length
      · rw [getD_at hl] at hm
        exact (ok.put _ _ (List.getElem?_eq_getElem hl) p hm).2.2
      · rw [List.getD_eq_getElem?_getD, List.getElem?_eq_none (by omega)] at hm
        cases hm
    · exact ok.las _ (List.getElem_mem hk)
  · intro j l hl p hp
    simp only [St.fenV, List.getElem?_mapIdx] at hl
    cases e : s.pend[j]? with
    | none => rw [e] at hl; cases hl
    | some l0 =>
      rw [e] at hl
      simp only [Option.map_some, Option.some.injEq] at hl
      subst hl
      refine ok.put j l0 e p ?_
      split at hp
      · exact List.mem_of_mem_drop hp
      · exact hp
  · intro l hl
    simp only [St.fenV, List.mem_mapIdx] at hl
    obtain ⟨k, hk, rfl⟩ := hl
    have := ok.few _ (List.getElem_mem hk)
    split
    · rw [List.length_drop]; omega
    · exact this
  · intro j q
    have h1 := ok.mks j q
    by_cases hl : j < s.pend.length
    · rw [getD_at hl] at h1
      rw [getD_at (by simpa [St.fenV] using hl)]
      simp only [St.fenV, List.getElem_mapIdx]
      split
      · rw [List.length_drop]
        show s.mm j q - s.mm j c ≤ _
        omega
      · exact h1
    · rw [List.getD_eq_getElem?_getD, List.getElem?_eq_none (by omega)] at h1
      have h1' : s.mm j q = 0 := by simpa using h1
      simp only [St.fenV]
      split
      · show s.mm j q - s.mm j c ≤ _
        omega
      · omega
theorem fenV_all {s : St} (ok : s.Ok) (hp : s.pend.length = s.nl) (hl : s.lasted.length = 8 * s.nl) {c : Nat} {V : Nat → Bool} (h : ∀ j, j < s.nl → V j = false → s.mm j c = 0) : s.fenV c V = s.fenV c (fun _ => true) := by
  refine st_ext rfl ?_ rfl ?_ ?_ rfl rfl rfl rfl
  · apply List.ext_getElem
    · simp [St.fenV]
    · intro k h1 h2
      have hk : k < s.lasted.length := by simpa [St.fenV] using h1
      simp only [St.fenV, List.getElem_mapIdx, if_true]
      cases hv : V (k / 8)
      · simp only [Bool.false_eq_true, if_false]
        rw [h (k / 8) (by omega) hv, List.take_zero]
        show _ = (lastW s.lasted []).getD k 0
        rw [getD_at (by rw [lastW_length]; exact hk)]
        rfl
      · simp
  · apply List.ext_getElem
    · simp [St.fenV]
    · intro k h1 h2
      have hk : k < s.pend.length := by simpa [St.fenV] using h1
      simp only [St.fenV, List.getElem_mapIdx, if_true]
      cases hv : V k
      · simp only [Bool.false_eq_true, if_false]
        rw [h k (by omega) hv, List.drop_zero]
      · simp
  · funext j q
    simp only [St.fenV, if_true]
    cases hv : V j
    · simp only [Bool.false_eq_true, if_false]
      by_cases hj : j < s.nl
      · rw [h j hj hv]; omega
      · have h1 := ok.mks j q
        rw [List.getD_eq_getElem?_getD, List.getElem?_eq_none (by omega)] at h1
        have h1' : s.mm j q = 0 := by simpa using h1
        omega
    · simp
/-- A fence: the state behind it. -/
def St.fence (s : St) (c : Nat) : St := { s with fe := s.fe + 1 }.fenV c (fun _ => true)
end Go.Proofs.YtahojhaeebmpoaaGreatDoor
/- lose: a line is what has lasted of it, with nothing pending, or marked; for lines that there are. -/
namespace Go.Proofs.YtahojhaeebmpoaaGreatDoor
open Go.RowKit
set_option linter.unusedVariables false
attribute [local go_sem ↓] Go.wp_at_zero Go.wp_at_succ

theorem size23 : (Tryz.prog.info? 23).map (·.size) = some 1 := by kernel_rfl
/-- copy into a row that is known whole, at a step of a region that draws its order. -/
theorem step_copy_set {ops : Array Oper} {o : Oper} {a : Act} {w : World} {K : Act → World → Prop} {Q : Exit → Act → World → Prop} {E : Prop} (hgd : o.guard = none) (d s : Operand) (dT sT : TypeId)
    (ho : o.op = .call { callee := .builtin .copy, args := #[d, s], argTypes := #[dT, sT] }) (elem : TypeId) (hu : Tryz.prog.underlying dT = some (.slice elem)) (hsz : (Tryz.prog.info? elem).map (·.size) = some 1)
    (ad : Addr) (dLen dCap sLen sCap : Nat) (g off : Nat) (hd : a.eval d = .slice (some ⟨g, off, none⟩) dLen dCap) (hs : a.eval s = .slice (some ad) sLen sCap)
    (cur : List Value) (t : TypeId) (hg : w.heap[g]? = some (.cells cur.toArray t (0, 0))) (cs : List Value) (hn : cs.length = Nat.min sLen dLen) (h0 : 0 < cs.length)
    (hsrc : ∀ j v, cs[j]? = some v → w.cell? (ad.add j) = some v) (hfit : off + cs.length ≤ cur.length) (h1 : ∀ v ∈ cs, v.oneCell' = true)
    (h : ∀ w', w'.heap[g]? = some (.cells (splice cur off cs).toArray t (0, 0)) → But w w' (fun k => k = g) → K (a.put o.dst (goInt cs.length)) w') :
    if Region.wanted o (yielded ops a.tmps) = true then Oper.wp Tryz.prog o a w K Q else E := by
  have hw : Region.wanted o (yielded ops a.tmps) = true := by simp [Region.wanted, hgd]
  rw [if_pos hw]
  have hrun := run_copy_row (P := Tryz.prog) w dT sT o.type elem g off dLen dCap ad sLen sCap cur.toArray t cs hu hsz hg hn hsrc (by simpa using hfit) h1
  unfold Oper.wp
  simp [execOp, ho, resolve, invoke, builtin, hd, hs, hrun, Result.andThen]
  exact h _ (show _ = _ by simpa [splice] using setRow_heap w g _ _ t _ hg) ⟨rfl, rfl, rfl, by simp, fun k hk hn => setRow_other w g k _ hn⟩

/-- The state behind it. -/
def loseV (las vie : List Nat) (i : Nat) : List Nat := vie.mapIdx fun k x => if k / 8 = i then las.getD k 0 else x
def St.lose (s : St) (i : Nat) : St := { s with view := loseV s.lasted s.view i, pend := s.pend.set i [], mm := upd s.mm i fun _ => 0 }
theorem loseV_splice {las vie : List Nat} {nl i : Nat} (h1 : las.length = 8 * nl) (h2 : vie.length = 8 * nl) (hi : i < nl) : loseV las vie i = splice vie (8 * i) ((las.drop (8 * i)).take 8) := by
  have hL : ((las.drop (8 * i)).take 8).length = 8 := by rw [List.length_take, List.length_drop]; omega
  apply List.ext_getElem?
  intro k
  unfold loseV splice
  rw [List.getElem?_mapIdx]
  by_cases a1 : k < 8 * i
  · rw [List.getElem?_append_left (by rw [List.length_take]; omega), List.getElem?_take_of_lt a1, List.getElem?_eq_getElem (by omega)]
    simp only [Option.map_some]
    rw [if_neg (by omega)]
  · have e1 : (vie.take (8 * i)).length = 8 * i := by rw [List.length_take]; omega
    rw [List.getElem?_append_right (by omega), e1]
    by_cases a2 : k < 8 * i + 8
    · rw [List.getElem?_append_left (by omega), List.getElem?_take_of_lt (by omega), List.getElem?_drop, show 8 * i + (k - 8 * i) = k from by omega, List.getElem?_eq_getElem (show k < vie.length by omega), List.getElem?_eq_getElem (show k < las.length by omega)]
      simp only [Option.map_some]
      rw [if_pos (by omega), getD_at (by omega)]
    · rw [List.getElem?_append_right (by omega), hL, List.getElem?_drop, show 8 * i + 8 + (k - 8 * i - 8) = k from by omega]
      by_cases a3 : k < vie.length
      · rw [List.getElem?_eq_getElem a3]
        simp only [Option.map_some]
        rw [if_neg (by omega)]
      · rw [List.getElem?_eq_none (by omega)]
        rfl
theorem splice_take {α : Type} {cur : List α} {n off : Nat} {xs cs : List α} (h : cur.take n = xs) (hf : off + cs.length ≤ n) (hn : n ≤ cur.length) : (splice cur off cs).take n = splice xs off cs := by
  subst h
  unfold splice
  rw [List.take_append, List.take_append, List.take_take, List.length_take, Nat.min_eq_left (show off ≤ cur.length by omega), Nat.min_eq_right (show off ≤ n by omega), List.take_take, Nat.min_eq_left (show off ≤ n by omega), List.take_of_length_le (show cs.length ≤ n - off by omega), List.drop_take]
  congr 3
  omega
theorem splice_map {α β : Type} (f : α → β) (l cs : List α) (off : Nat) : (splice l off cs).map f = splice (l.map f) off (cs.map f) := by simp [splice, List.map_take, List.map_drop]
set_option maxRecDepth 100000 in
set_option maxHeartbeats 3200000 in
theorem lose_ok {w : World} {y : Lay} {s : St} (h : MemAt w y s) (i : Nat) (hi : i < s.nl) :
    Calls Tryz.prog 64 #[.pointer (some ⟨y.g, 0, none⟩), .int .i64 (i : Int)] w fun e w' => e = .returned (.tuple #[]) ∧ ∃ y', MemAt w' y' (s.lose i) ∧ Turn w w' y y' ∧ y.Near y' i := by
  have hmost := h.most
  have hd := h.differ
  obtain ⟨V, l, hV, hl, ht⟩ := ps_get h hi
  have c2 := h.row.cell 2
  simp only [List.getElem?_toArray, List.getElem?_cons_succ, List.getElem?_cons_zero] at c2
  obtain ⟨cpr, hpr⟩ := own_at h.pen
  have fp : w.frozen? ⟨y.gp, i, none⟩ = false := hpr.free i
  have cpp : w.cell? ⟨y.gp, i, none⟩ = some V := by rw [h.pen.cellAt i (by omega), hV]
  obtain ⟨m1, t1⟩ := mem_tail (R := .slice none 0 0) h hi hV (.inl rfl) (.inl ⟨rfl, rfl⟩)
  obtain ⟨W1, hW1⟩ : ∃ W1, W1 = w.setCell ⟨y.gp, i, none⟩ (.slice none 0 0) := ⟨_, rfl⟩
  rw [← hW1] at m1 t1
  obtain ⟨y1, hy1⟩ : ∃ y1, y1 = y.tail i (.slice none 0 0) := ⟨_, rfl⟩
  have hyg : y1.g = y.g := by rw [hy1]; rfl
  have hnear : y.Near y1 i := by rw [hy1]; exact near_tail _ _ _
  rw [← hy1] at m1 t1
  obtain ⟨s1, hs1⟩ : ∃ s1 : St, s1 = { s with pend := s.pend.set i [] } := ⟨_, rfl⟩
  rw [← hs1] at m1
  have hnl : s1.nl = s.nl := by rw [hs1]
  obtain ⟨W2, hdel, hm2, hg2⟩ := marks_del (f := fun _ => 0) (ty := 0) m1.marks (by rw [hnl]; exact hi) (by rw [hnl]; exact hmost) (by rintro ⟨c, _, hc⟩; exact hc rfl)
  obtain ⟨m2, t2⟩ := mem_mks m1 hm2 ⟨hg2.os, hg2.tape, hg2.output, hg2.size, fun k hk hn => hg2.block k hk (fun e => hn (Option.some.inj e))⟩
  obtain ⟨s2, hs2⟩ : ∃ s2 : St, s2 = { s1 with mm := upd s1.mm i fun _ => 0 } := ⟨_, rfl⟩
  rw [← hs2] at m2
  have hnl2 : s2.nl = s.nl := by rw [hs2, hs1]
  have b3 : W1.cell? ⟨y.g, 3, none⟩ = some (.map (some y1.mb)) := by
    have := m1.row.cell 3
    rw [hyg] at this
    exact this
  have e0 := m2.row.cell 0
  have e1 := m2.row.cell 1
  rw [hyg] at e0 e1
  simp only [List.getElem?_toArray, List.getElem?_cons_succ, List.getElem?_cons_zero] at e0 e1
  obtain ⟨cur, hcur, hsz, htk⟩ : ∃ cur : Array Value, Row W2 y1.gv 23 cur ∧ 8 * s2.nl ≤ cur.size ∧ cur.toList.take (8 * s2.nl) = s2.view.map wv := by
    rcases m2.vie.2 with ⟨h0, _⟩ | ⟨g', cap, cur, h0, _, hh, hnc, _, hcs, htk⟩
    · cases h0
    · simp only [Value.slice.injEq, Option.some.injEq, Addr.mk.injEq, and_true, true_and] at h0
      obtain ⟨rfl, rfl⟩ := h0
      exact ⟨cur, hh, by omega, by rw [Nat.mul_one] at htk; exact htk⟩
  have hcv : 8 * s2.nl ≤ y1.cv ∧ y1.cv ≤ maxLen := by
    rcases m2.vie.2 with ⟨h0, _⟩ | ⟨g', cap, cur, h0, _, hh, hnc, hm, hcs, htk⟩
    · cases h0
    · simp only [Value.slice.injEq] at h0
      omega
  have hcl : 8 * s2.nl ≤ y1.cl ∧ y1.cl ≤ maxLen := by
    rcases m2.las.2 with ⟨h0, _⟩ | ⟨g', cap, cur, h0, _, hh, hnc, hm, hcs, htk⟩
    · cases h0
    · simp only [Value.slice.injEq] at h0
      omega
  unfold maxLen at hcv hcl
  have hll := ownsRow_len m2.las
  have hvl := ownsRow_len m2.vie
  obtain ⟨L8, hL8⟩ : ∃ L8, L8 = ((s2.lasted.drop (i * 8)).take 8).map wv := ⟨_, rfl⟩
  have hL8n : L8.length = 8 := by rw [hL8, List.length_map, List.length_take, List.length_drop]; omega
  have hL8c : ∀ j v, L8[j]? = some v → W2.cell? ((⟨y1.gl, i * 8, none⟩ : Addr).add j) = some v := by
    intro j v hv
    have e : (⟨y1.gl, i * 8, none⟩ : Addr).add j = ⟨y1.gl, i * 8 + j, none⟩ := by unfold Addr.add; split <;> simp_all
    have hj : j < 8 := by
      have := (List.getElem?_eq_some_iff.1 hv).1
      omega
    rw [e, m2.las.cellAt (i * 8 + j) (by omega), List.getElem?_map]
    rw [hL8, List.getElem?_map, List.getElem?_take_of_lt hj, List.getElem?_drop] at hv
    exact hv
  have hL8o : ∀ v ∈ L8, v.oneCell' = true := by rw [hL8]; exact wv_ones _
  obtain ⟨CL, hCL⟩ : ∃ CL, CL = cur.toList := ⟨_, rfl⟩
  have hg : W2.heap[y1.gv]? = some (.cells CL.toArray 23 (0, 0)) := by rw [hCL]; exact hcur
  have hCLn : 8 * s2.nl ≤ CL.length := by have := Array.length_toList (xs := cur); rw [hCL]; omega
  rw [← hCL] at htk
  obtain ⟨N, hN⟩ : ∃ N, N = 8 * s2.nl := ⟨_, rfl⟩
  rw [← hN] at e0 e1 hcv hcl htk hCLn
  have hi8 : i * 8 + 8 ≤ N := by omega
  have HM1 := Lib.hid m1
  have HNEAR := Lib.hid hnear
  have HM2 := Lib.hid m2
  have HT := Lib.hid (t1.trans t2)
  have HTK := Lib.hid htk
  have HL8 := Lib.hid hL8
  have HNN := Lib.hid hN
  have HS1 := Lib.hid hs1
  have HS2 := Lib.hid hs2
  have HNL := Lib.hid hnl2
  have HLL := Lib.hid hll
  have HVL := Lib.hid hvl
  have HYG := Lib.hid hyg
  have HC := Lib.hid hL8c
  have HN8 := Lib.hid hL8n
  have HG := Lib.hid hg
  have HD := Lib.hid m2.differ
  subst hW1
  clear hnear h hd hV hl ht hpr m1 t1 m2 t2 hy1 hs1 hs2 hnl hnl2 hm2 hg2 htk hL8 hN hll hvl hyg hcur hCL hL8c hL8n hg
  go_enter Tryz.func64, Tryz.ntmps64
  go_wp2_with fail
  have x0 : (0 : Int) ≤ (i : Int) * 8 := by omega
  have x1 : (i : Int) * 8 ≤ (i : Int) * 8 + 8 := by omega
  have x2 : (i : Int) * 8 + 8 ≤ (y1.cv : Int) := by omega
  have x3 : (i : Int) * 8 + 8 ≤ (y1.cl : Int) := by omega
  have x4 : IntKind.i64.wrap ((i : Int) * 8 + 8) = (i : Int) * 8 + 8 := IntWalk.i64_in _ (by omega)
  have x5 : ((i : Int) * 8).toNat = i * 8 := by omega
  have x6 : ((i : Int) * 8 + 8).toNat = i * 8 + 8 := by omega
  have x7 : ¬ y1.cv = i * 8 := by omega
  have x8 : ¬ y1.cl = i * 8 := by omega
  have x9 : i * 8 + 8 - i * 8 = 8 := by omega
  have hgv : y1.gv ≠ y.g := by rw [← HYG.out]; exact Ne.symm HD.out.g_gv
  go_region_held3 (fun w' => w'.cell? ⟨y.g, 0, none⟩ = some (.slice (some ⟨y1.gl, 0, none⟩) N y1.cl) ∧ w'.cell? ⟨y.g, 1, none⟩ = some (.slice (some ⟨y1.gv, 0, none⟩) N y1.cv))
    (first | exact ⟨e0, e1⟩ | exact ⟨hbt.cell e0 (Ne.symm hgv), hbt.cell e1 (Ne.symm hgv)⟩)
    ((refine step_copy_set (by rfl) (.tmp 25) (.tmp 33) 111 111 (by rfl) 23 Tryz.underlying111 size23 ⟨y1.gl, i * 8, none⟩ 8 (y1.cv - i * 8) 8 (y1.cl - i * 8) y1.gv (i * 8) (by rfl) (by rfl) CL 23 HG.out L8 HN8.out (by rw [HN8.out]; decide) HC.out (by rw [HN8.out]; omega) hL8o ?_; intro w' hrow hbt))
  go_wp2
  go_end0
  have hvie : w'.ownsRow 0 23 1 (.slice (some ⟨y1.gv, 0, none⟩) (8 * s2.nl) y1.cv) (8 * s2.nl) ((loseV s2.lasted s2.view i).map wv) := by
    have hlv : loseV s2.lasted s2.view i = splice s2.view (i * 8) ((s2.lasted.drop (i * 8)).take 8) := by
      rw [Nat.mul_comm i 8]
      exact loseV_splice HLL.out HVL.out (by rw [HNL.out]; exact hi)
    have h1 := HM2.out.vie
    have hv := HVL.out
    have hcsz : CL.length = y1.cv := by
      rcases h1.2 with ⟨h0, _⟩ | ⟨g', cap, cur', h0, _, hh, hnc, hm, hcs, htk⟩
      · cases h0
      · simp only [Value.slice.injEq, Option.some.injEq, Addr.mk.injEq, and_true, true_and] at h0
        obtain ⟨rfl, rfl⟩ := h0
        have h2 := HG.out
        rw [hh] at h2
        injection h2 with h2
        injection h2 with h2 _ _
        rw [h2] at hcs
        simpa using hcs
    refine ⟨?_, .inr ⟨y1.gv, y1.cv, _, rfl, Nat.zero_le _, hrow, by rw [← HNN.out]; exact hcv.1, by unfold maxLen; omega, ?_, ?_⟩⟩
    · rw [List.length_map]
      unfold loseV
      rw [List.length_mapIdx]
      omega
    · rw [List.size_toArray, length_splice _ _ _ (by rw [HN8.out]; omega), hcsz, Nat.mul_one]
    · rw [List.toList_toArray, Nat.mul_one, ← HNN.out, splice_take HTK.out (by rw [HN8.out]; omega) hCLn, hlv, splice_map, ← HL8.out]
  obtain ⟨m3, t3⟩ := mem_vie HM2.out hvie ⟨hbt.os, hbt.tape, hbt.output, hbt.size, hbt.block⟩
  have e : { s2 with view := loseV s2.lasted s2.view i } = s.lose i := by rw [HS2.out, HS1.out]; rfl
  rw [e] at m3
  exact ⟨rfl, y1, m3, HT.out.trans t3, HNEAR.out⟩
end Go.Proofs.YtahojhaeebmpoaaGreatDoor
