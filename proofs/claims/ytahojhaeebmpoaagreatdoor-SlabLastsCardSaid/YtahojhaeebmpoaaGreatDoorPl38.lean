/- Texts of this claim, packed: 6Gp, 6Gw, 6Gd, 6Ge, 6Dq, 6Sq, 6Do6. -/
import Derived.Test.YtahojhaeebmpoaaGreatDoorPlQ
import Derived.Test.YtahojhaeebmpoaaGreatDoorPl35
import Derived.Test.YtahojhaeebmpoaaGreatDoorPl36
import Derived.Test.YtahojhaeebmpoaaGreatDoorPl29
import Derived.Test.YtahojhaeebmpoaaGreatDoorPl37
import Derived.Test.YtahojhaeebmpoaaGreatDoorPl24
import Derived.Test.YtahojhaeebmpoaaGreatDoorPl30
import Derived.Maps.AppendAt
import Derived.Laws.AppendOwnNone
import Derived.Deep.QuietTactic
import Derived.Deep.DeepCutAuto
import Derived.Deep.CutBlock
/- What the law's game holds, in plain words: the memory's state, the slabs, the document's blocks, turns on their way; what an act makes of it. -/
namespace Go.Proofs.YtahojhaeebmpoaaGreatDoor
open Go.RowKit Go.Sort
set_option linter.unusedVariables false
structure Tu where
  gt : Nat
  i : Nat
  j : Nat
  a : Nat
  cl : Nat
  k : Nat
  v : Nat
def plF (k : Nat) : FuncId := if k = 0 then 99 else if k = 1 then 109 else if k = 2 then 125 else 135
def flatT (T : List Tu) : List Value := T.flatMap fun t => turn6V (fpt t.gt) t.a (settled t.v) t.k
structure S6 where
  s : St
  hs : List Hd
  cls : List Nat
  L : List (Nat × Nat)
  T : List Tu
def TnOk (hs : List Hd) (t : Tu) : Prop := ∃ x, hs[t.i]? = some x ∧ x.bl[t.j]? = some t.v ∧ adr x.no x.cls t.j = t.a ∧ (t.v = 3 ∨ t.v = 4) ∧ t.k ≤ 3 ∧ t.cl ≤ 64
structure Inv6 (n : Nat) (z : S6) : Prop where
  wis : W6Is z.hs z.cls z.L
  bits : ∀ x ∈ z.hs, x.bits < 18446744073709551616
  tn : ∀ t ∈ z.T, TnOk z.hs t
  two : z.T.Pairwise fun t u => t.a ≠ u.a
  did : didN z.s ≤ n
  pend : ∀ l ∈ z.s.pend, l.length ≤ n
  ll : z.L.length ≤ 260 + n
  tl : z.T.length ≤ n
theorem TnOk.set_bl {hs : List Hd} {t : Tu} (h : TnOk hs t) {i j v : Nat} {x : Hd} (hx : hs[i]? = some x) (hn : ¬ (t.i = i ∧ t.j = j)) : TnOk (hs.set i { x with bl := x.bl.set j v }) t := by
  obtain ⟨y, hy, h1, h2, h3⟩ := h
  have hi := (List.getElem?_eq_some_iff.1 hx).1
  by_cases hk : i = t.i
  · subst hk
    rw [hx] at hy
    cases hy
    refine ⟨{ x with bl := x.bl.set j v }, by rw [List.getElem?_set, if_pos rfl, if_pos hi], ?_, h2, h3⟩
    show (x.bl.set j v)[t.j]? = _
    rw [List.getElem?_set, if_neg fun e => hn ⟨rfl, e.symm⟩]
    exact h1
  · exact ⟨y, by rw [List.getElem?_set, if_neg hk]; exact hy, h1, h2, h3⟩
theorem TnOk.set_bits {hs : List Hd} {t : Tu} (h : TnOk hs t) {i b : Nat} {x : Hd} (hx : hs[i]? = some x) : TnOk (hs.set i { x with bits := b }) t := by
  obtain ⟨y, hy, h1, h2, h3⟩ := h
  have hi := (List.getElem?_eq_some_iff.1 hx).1
  by_cases hk : i = t.i
  · subst hk
    rw [hx] at hy
    cases hy
    exact ⟨{ x with bits := b }, by rw [List.getElem?_set, if_pos rfl, if_pos hi], h1, h2, h3⟩
  · exact ⟨y, by rw [List.getElem?_set, if_neg hk]; exact hy, h1, h2, h3⟩
theorem TnOk.ne_st {hs : List Hd} {t : Tu} (h : TnOk hs t) {i j u : Nat} {x : Hd} (hx : hs[i]? = some x) (hu : x.bl[j]? = some u) (h34 : u ≠ 3 ∧ u ≠ 4) : ¬ (t.i = i ∧ t.j = j) := by
  rintro ⟨rfl, rfl⟩
  obtain ⟨y, hy, h1, _, h3, _⟩ := h
  rw [hx] at hy
  cases hy
  rw [hu] at h1
  cases h1
  omega
theorem TnOk.ne_a {hs : List Hd} {t u : Tu} (h : TnOk hs t) (h2 : TnOk hs u) (hn : t.a ≠ u.a) : ¬ (t.i = u.i ∧ t.j = u.j) := by
  rintro ⟨e1, e2⟩
  obtain ⟨y, hy, _, h1, _⟩ := h
  obtain ⟨y2, hy2, _, h3, _⟩ := h2
  rw [← e1, hy] at hy2
  cases hy2
  rw [← e2, h1] at h3
  exact hn h3
theorem TnOk.claim {hs : List Hd} {t : Tu} (h : TnOk hs t) (ok : HsOk hs) {i c : Nat} {x : Hd} (hx : hs[i]? = some x) (h0 : x.cls = 0) : TnOk (hs.set i ⟨x.no, c, 0, blK (blN c) 0 (blN c)⟩) t := by
  obtain ⟨y, hy, h1, h2, h3⟩ := h
  refine ⟨y, ?_, h1, h2, h3⟩
  rw [List.getElem?_set]
  by_cases hk : i = t.i
  · subst hk
    rw [hx] at hy
    cases hy
    have hl := (ok t.i x hx).2
    rw [h0] at hl
    have := (List.getElem?_eq_some_iff.1 h1).1
    rw [hl] at this
    simp [blN] at this
  · rw [if_neg hk]; exact hy
theorem bits_set {hs : List Hd} {i : Nat} {y : Hd} (h : ∀ z ∈ hs, z.bits < 18446744073709551616) (hy : y.bits < 18446744073709551616) : ∀ z ∈ hs.set i y, z.bits < 18446744073709551616 := fun z hz => by
  rcases List.mem_or_eq_of_mem_set hz with h1 | rfl
  · exact h z h1
  · exact hy
theorem bits_mem {hs : List Hd} {i : Nat} {x : Hd} (h : ∀ z ∈ hs, z.bits < 18446744073709551616) (hx : hs[i]? = some x) : x.bits < 18446744073709551616 := h x (List.mem_of_getElem? hx)
theorem W6Is.pos {hs : List Hd} {cls : List Nat} {L : List (Nat × Nat)} (h : W6Is hs cls L) (ok : HsOk hs) (hm : hs.length ≤ 64) : ∀ p ∈ L, p.1 ≠ 0 := fun p hp e => by
  obtain ⟨v, hv⟩ := isAt_some hs p.1
  have h1 := h.at_ p.1 v hv
  have h2 := isL_mem h.nd hp
  have h3 := h.nz p hp
  rcases hv with ⟨i, j, x, hx, hj, ha, hb⟩ | ⟨_, rfl⟩
  · have := (found_range ok hm (⟨x, hx, hj, ha⟩ : Found hs p.1 i j)).1
    omega
  · rw [h1] at h2; omega
inductive Step6 : S6 → S6 → Prop
  | stay (z : S6) : Step6 z z
  | res (z : S6) (hs1 hs' : List Hd) (cls' : List Nat) (L' : List (Nat × Nat)) (c : Nat) (e : Ending) : 1 ≤ c → c ≤ 3 → Claimed z.hs hs1 c → Took hs1 hs' c e → W6Is hs' cls' L' → L'.length ≤ z.L.length + 1 → Step6 z ⟨z.s, hs', cls', L', z.T⟩
  | rel (z : S6) (i j : Nat) (x : Hd) : z.hs[i]? = some x → x.bl[j]? = some 1 → Step6 z ⟨z.s, z.hs.set i { x with bl := x.bl.set j 0 }, z.cls, setL z.L (adr x.no x.cls j) 0, z.T⟩
  | start (z : S6) (i j : Nat) (x : Hd) (u v gt cl : Nat) : z.hs[i]? = some x → x.bl[j]? = some u → (u = 1 ∧ v = 4 ∨ u = 2 ∧ v = 3) → cl ≤ 64 →
      Step6 z ⟨z.s, z.hs.set i { x with bl := x.bl.set j v }, z.cls, setL z.L (adr x.no x.cls j) v, z.T ++ [⟨gt, i, j, adr x.no x.cls j, cl, 0, v⟩]⟩
  | t0 (z : S6) (q : Nat) (t : Tu) (x : Hd) : z.T[q]? = some t → t.k = 0 → z.hs[t.i]? = some x → Step6 z ⟨z.s.store (1024 * x.no) x.cls, z.hs, z.cls, z.L, z.T.set q { t with k := 1 }⟩
  | t1 (z : S6) (q : Nat) (t : Tu) (x : Hd) : z.T[q]? = some t → t.k = 1 → z.hs[t.i]? = some x → Step6 z ⟨z.s.store (1024 * x.no + 8) (bitV t.v x.bits t.j), z.hs.set t.i { x with bits := bitV t.v x.bits t.j }, z.cls, z.L, z.T.set q { t with k := 2 }⟩
  | t2 (z : S6) (q : Nat) (t : Tu) (x : Hd) : z.T[q]? = some t → t.k = 2 → z.hs[t.i]? = some x → Step6 z ⟨z.s.flush t.cl (1024 * x.no), z.hs, z.cls, z.L, z.T.set q { t with k := 3 }⟩
  | t3 (z : S6) (q : Nat) (t : Tu) (x : Hd) : z.T[q]? = some t → t.k = 3 → z.hs[t.i]? = some x → Step6 z ⟨z.s.fence t.cl, z.hs.set t.i { x with bl := x.bl.set t.j (settled t.v) }, z.cls, setL z.L t.a (settled t.v), z.T.eraseIdx q⟩
  | ev (z : S6) (i m : Nat) : i < z.s.nl → m ≤ (z.s.pend.getD i []).length → Step6 z ⟨z.s.last i m, z.hs, z.cls, z.L, z.T⟩
theorem pend_last {s : St} {i m n : Nat} (h : ∀ l ∈ s.pend, l.length ≤ n) : ∀ l ∈ (s.last i m).pend, l.length ≤ n := by
  intro l hl
  have hl' : l ∈ s.pend.set i ((s.pend.getD i []).drop m) := hl
  rcases List.mem_or_eq_of_mem_set hl' with h1 | rfl
  · exact h l h1
  · rw [List.length_drop, List.getD_eq_getElem?_getD]
    cases hg : s.pend[i]? with
    | none => simp
    | some z => have := h z (List.mem_of_getElem? hg); simp; omega
theorem pend_fence {s : St} {c n : Nat} (h : ∀ l ∈ s.pend, l.length ≤ n) : ∀ l ∈ (s.fence c).pend, l.length ≤ n := by
  intro l hl
  have hl' : l ∈ s.pend.mapIdx fun j l => if (fun _ => true) j = true then l.drop (s.mm j c) else l := hl
  obtain ⟨i, hi, rfl⟩ := List.mem_mapIdx.1 hl'
  have := h _ (List.getElem_mem hi)
  simp
  omega
theorem W6Is.bits {hs : List Hd} {cls : List Nat} {L : List (Nat × Nat)} (h : W6Is hs cls L) {i b : Nat} {x : Hd} (hx : hs[i]? = some x) : W6Is (hs.set i { x with bits := b }) cls L := by
  have hi := (List.getElem?_eq_some_iff.1 hx).1
  have get : ∀ k (y : Hd), (hs.set i { x with bits := b })[k]? = some y → ∃ y0 : Hd, hs[k]? = some y0 ∧ y0.no = y.no ∧ y0.cls = y.cls ∧ y0.bl = y.bl := fun k y hy => by
    rw [List.getElem?_set] at hy
    by_cases hk : i = k
    · subst hk
      rw [if_pos rfl, if_pos hi] at hy
      cases hy
      exact ⟨x, hx, rfl, rfl, rfl⟩
    · rw [if_neg hk] at hy
      exact ⟨y, hy, rfl, rfl, rfl⟩
  have put : ∀ k (y0 : Hd), hs[k]? = some y0 → ∃ y : Hd, (hs.set i { x with bits := b })[k]? = some y ∧ y0.no = y.no ∧ y0.cls = y.cls ∧ y0.bl = y.bl := fun k y0 hy => by
    by_cases hk : i = k
    · subst hk
      rw [hx] at hy
      cases hy
      exact ⟨{ x with bits := b }, by rw [List.getElem?_set, if_pos rfl, if_pos hi], rfl, rfl, rfl⟩
    · exact ⟨y0, by rw [List.getElem?_set, if_neg hk]; exact hy, rfl, rfl, rfl⟩
  refine ⟨?_, h.nd, h.nz, fun a u hb => ?_⟩
  · rw [h.cls]
    apply List.ext_getElem?
    intro k
    rw [List.getElem?_map, List.getElem?_map]
    by_cases hk : i = k
    · subst hk; rw [hx, List.getElem?_set, if_pos rfl, if_pos hi]; rfl
    · rw [List.getElem?_set, if_neg hk]
  · rcases hb with ⟨k, j, y, hy, hj, ha, hv⟩ | ⟨hno, rfl⟩
    · obtain ⟨y0, h0, e1, e2, e3⟩ := get k y hy
      exact h.at_ a u (.inl ⟨k, j, y0, h0, by rw [e3]; exact hj, by rw [e1, e2]; exact ha, by rw [e3]; exact hv⟩)
    · refine h.at_ a 0 (.inr ⟨fun k j ⟨y0, h0, hj, ha⟩ => ?_, rfl⟩)
      obtain ⟨y, hy, e1, e2, e3⟩ := put k y0 h0
      exact hno k j ⟨y, hy, by rw [← e3]; exact hj, by rw [← e1, ← e2]; exact ha⟩
theorem two_set {T : List Tu} {q k : Nat} {t : Tu} (h : T.Pairwise fun t u => t.a ≠ u.a) (ht : T[q]? = some t) : (T.set q { t with k := k }).Pairwise fun t u => t.a ≠ u.a := by
  have e : (T.set q { t with k := k }).map Tu.a = T.map Tu.a := by
    apply List.ext_getElem?
    intro i
    rw [List.getElem?_map, List.getElem?_map, List.getElem?_set]
    by_cases hi : q = i
    · subst hi; rw [if_pos rfl, if_pos (List.getElem?_eq_some_iff.1 ht).1, ht]; rfl
    · rw [if_neg hi]
  have h1 : (T.map Tu.a).Pairwise (· ≠ ·) := List.pairwise_map.2 h
  rw [← e] at h1
  exact List.pairwise_map.1 h1
theorem tn_setk {hs : List Hd} {T : List Tu} {q k : Nat} {t : Tu} (h : ∀ u ∈ T, TnOk hs u) (ht : T[q]? = some t) (hk : k ≤ 3) : ∀ u ∈ T.set q { t with k := k }, TnOk hs u := fun u hu => by
  rcases List.mem_or_eq_of_mem_set hu with h1 | rfl
  · exact h u h1
  · obtain ⟨x, h1, h2, h3, h4, _, h6⟩ := h t (List.mem_of_getElem? ht)
    exact ⟨x, h1, h2, h3, h4, hk, h6⟩
theorem erase_mem {T : List Tu} {q : Nat} {t u : Tu} (h2 : T.Pairwise fun t u => t.a ≠ u.a) (ht : T[q]? = some t) (hu : u ∈ T.eraseIdx q) : u ∈ T ∧ u.a ≠ t.a := by
  obtain ⟨k, hk, hk2⟩ := List.mem_eraseIdx_iff_getElem?.1 hu
  refine ⟨List.mem_of_getElem? hk2, fun e => ?_⟩
  have h3 := List.pairwise_iff_getElem.1 h2
  obtain ⟨q1, rfl⟩ := List.getElem?_eq_some_iff.1 ht
  obtain ⟨k1, rfl⟩ := List.getElem?_eq_some_iff.1 hk2
  rcases Nat.lt_or_gt_of_ne hk with hl | hl
  · exact h3 k q k1 q1 hl e
  · exact h3 q k q1 k1 hl e.symm
theorem Inv6.step {n : Nat} {z z' : S6} (h : Inv6 n z) (ok : HsOk z.hs) (hm : z.hs.length ≤ 64) (st : Step6 z z') : Inv6 (n + 1) z' := by
  cases st with
  | stay => exact ⟨h.wis, h.bits, h.tn, h.two, by have := h.did; omega, fun l hl => by have := h.pend l hl; omega, by have := h.ll; omega, by have := h.tl; omega⟩
  | res hs1 hs' cls' L' c e hc1 hc3 hcl htk hw hl =>
    have b1 : (∀ x ∈ hs1, x.bits < 18446744073709551616) ∧ (∀ t ∈ z.T, TnOk hs1 t) ∧ HsOk hs1 := by
      rcases hcl with ⟨_, rfl⟩ | ⟨_, ⟨i, x, hz, hx, rfl⟩ | ⟨_, rfl⟩⟩
      · exact ⟨h.bits, h.tn, ok⟩
      · obtain ⟨⟨y, hy, h0⟩, _⟩ := hz
        rw [hx] at hy
        cases hy
        exact ⟨bits_set h.bits (show 0 < _ from by decide), fun t ht => (h.tn t ht).claim ok hx h0, ok.claim hx⟩
      · exact ⟨h.bits, h.tn, ok⟩
    have b2 : (∀ x ∈ hs', x.bits < 18446744073709551616) ∧ (∀ t ∈ z.T, TnOk hs' t) := by
      rcases htk with ⟨i, j, x, hx, _, hb, _, rfl, _⟩ | ⟨_, rfl, _⟩
      · exact ⟨bits_set b1.1 (show x.bits < _ from bits_mem b1.1 hx), fun t ht => (b1.2.1 t ht).set_bl hx ((b1.2.1 t ht).ne_st hx hb (by decide))⟩
      · exact ⟨b1.1, b1.2.1⟩
    exact ⟨hw, b2.1, b2.2, h.two, by have := h.did; show didN z.s ≤ _; omega, fun l hl => by have := h.pend l hl; omega, by have := h.ll; show L'.length ≤ _; omega, by have := h.tl; show z.T.length ≤ _; omega⟩
  | rel i j x hx hb =>
    have hj := (List.getElem?_eq_some_iff.1 hb).1
    exact ⟨h.wis.set ok hm hx hj, bits_set h.bits (show x.bits < _ from bits_mem h.bits hx), fun t ht => (h.tn t ht).set_bl hx ((h.tn t ht).ne_st hx hb (by decide)), h.two, by have := h.did; show didN z.s ≤ _; omega, fun l hl => by have := h.pend l hl; omega, by have := h.ll; have := setL_len z.L (adr x.no x.cls j) 0; show (setL _ _ _).length ≤ _; omega, by have := h.tl; show z.T.length ≤ _; omega⟩
  | start i j x u v gt cl hx hb huv hcl =>
    have hj := (List.getElem?_eq_some_iff.1 hb).1
    have hi := (List.getElem?_eq_some_iff.1 hx).1
    have hne : ∀ t ∈ z.T, ¬ (t.i = i ∧ t.j = j) := fun t ht => (h.tn t ht).ne_st hx hb (by omega)
    have hnew : TnOk (z.hs.set i { x with bl := x.bl.set j v }) ⟨gt, i, j, adr x.no x.cls j, cl, 0, v⟩ :=
      ⟨{ x with bl := x.bl.set j v }, by rw [List.getElem?_set, if_pos rfl, if_pos hi], by show (x.bl.set j v)[j]? = some v; rw [List.getElem?_set, if_pos rfl, if_pos hj], rfl, by show v = 3 ∨ v = 4; omega, Nat.zero_le _, hcl⟩
    refine ⟨h.wis.set ok hm hx hj, bits_set h.bits (show x.bits < _ from bits_mem h.bits hx), fun t ht => ?_, ?_, by have := h.did; show didN z.s ≤ _; omega, fun l hl => by have := h.pend l hl; omega, by have := h.ll; have := setL_len z.L (adr x.no x.cls j) v; show (setL _ _ _).length ≤ _; omega, by have := h.tl; show (z.T ++ [_]).length ≤ _; simp; omega⟩
    · rcases List.mem_append.1 ht with h1 | h1
      · exact (h.tn t h1).set_bl hx (hne t h1)
      · rw [List.mem_singleton.1 h1]; exact hnew
    · show (z.T ++ [_]).Pairwise _
      rw [List.pairwise_append]
      refine ⟨h.two, List.pairwise_singleton _ _, fun t ht u hu e => ?_⟩
      rw [List.mem_singleton.1 hu] at e
      obtain ⟨y, hy, h1, h2, _⟩ := h.tn t ht
      have hF : Found z.hs t.a t.i t.j := ⟨y, hy, (List.getElem?_eq_some_iff.1 h1).1, h2⟩
      have hF2 : Found z.hs t.a i j := ⟨x, hx, hj, e.symm⟩
      exact hne t ht (found_one ok hm hF hF2)
  | t0 q t x ht hk hx =>
    exact ⟨h.wis, h.bits, tn_setk h.tn ht (by decide), two_set h.two ht, by rw [did_store]; have := h.did; omega, fun l hl => by have := pend_store h.pend l hl; omega, by have := h.ll; show z.L.length ≤ _; omega, by have := h.tl; show (z.T.set _ _).length ≤ _; rw [List.length_set]; omega⟩
  | t1 q t x ht hk hx =>
    refine ⟨h.wis.bits hx, bits_set h.bits (bitV_lt (bits_mem h.bits hx)), fun u hu => ?_, two_set h.two ht, by rw [did_store]; have := h.did; omega, fun l hl => by have := pend_store h.pend l hl; omega, by have := h.ll; show z.L.length ≤ _; omega, by have := h.tl; show (z.T.set _ _).length ≤ _; rw [List.length_set]; omega⟩
    exact (tn_setk h.tn ht (by decide) u hu).set_bits hx
  | t2 q t x ht hk hx =>
    exact ⟨h.wis, h.bits, tn_setk h.tn ht (by decide), two_set h.two ht, by rw [did_flush]; have := h.did; omega, fun l hl => by have : l ∈ z.s.pend := hl; have := h.pend l this; omega, by have := h.ll; show z.L.length ≤ _; omega, by have := h.tl; show (z.T.set _ _).length ≤ _; rw [List.length_set]; omega⟩
  | t3 q t x ht hk hx =>
    obtain ⟨y, hy, h1, h2, h3⟩ := h.tn t (List.mem_of_getElem? ht)
    rw [hx] at hy
    cases hy
    have hj := (List.getElem?_eq_some_iff.1 h1).1
    have hw := h.wis.set ok hm (v := settled t.v) hx hj
    rw [h2] at hw
    refine ⟨hw, bits_set h.bits (show x.bits < _ from bits_mem h.bits hx), fun u hu => ?_, h.two.sublist (List.eraseIdx_sublist _ _), by rw [did_fence]; have := h.did; omega, fun l hl => by have := pend_fence h.pend l hl; omega, by have := h.ll; have := setL_len z.L t.a (settled t.v); show (setL _ _ _).length ≤ _; omega, by have := h.tl; have := List.length_eraseIdx_le z.T q; show (z.T.eraseIdx q).length ≤ _; omega⟩
    obtain ⟨hu1, hu2⟩ := erase_mem h.two ht hu
    exact (h.tn u hu1).set_bl hx ((h.tn u hu1).ne_a (h.tn t (List.mem_of_getElem? ht)) hu2)
  | ev i m hi hm2 =>
    exact ⟨h.wis, h.bits, h.tn, h.two, by have := h.did; show didN z.s ≤ _; omega, fun l hl => by have := pend_last h.pend l hl; omega, by have := h.ll; show z.L.length ≤ _; omega, by have := h.tl; show z.T.length ≤ _; omega⟩
theorem Step6.hs {z z' : S6} (st : Step6 z z') : z'.hs.length = z.hs.length ∧ z'.s.nl = z.s.nl := by
  cases st with
  | stay => exact ⟨rfl, rfl⟩
  | res hs1 hs' cls' L' c e hc1 hc3 hcl htk hw hl =>
    have h1 : hs1.length = z.hs.length := by rcases hcl with ⟨_, rfl⟩ | ⟨_, ⟨i, x, hz, hx, rfl⟩ | ⟨_, rfl⟩⟩ <;> simp
    refine ⟨?_, rfl⟩
    show hs'.length = _
    rcases htk with ⟨i, j, x, hx, _, hb, _, rfl, _⟩ | ⟨_, rfl, _⟩
    · rw [List.length_set, h1]
    · exact h1
  | rel => exact ⟨by simp, rfl⟩
  | start => exact ⟨by simp, rfl⟩
  | t0 => exact ⟨rfl, rfl⟩
  | t1 => exact ⟨by simp, rfl⟩
  | t2 => exact ⟨rfl, rfl⟩
  | t3 => exact ⟨by simp, rfl⟩
  | ev => exact ⟨rfl, rfl⟩
end Go.Proofs.YtahojhaeebmpoaaGreatDoor
/- Where the law's game lies, and that what is not touched stays. -/
namespace Go.Proofs.YtahojhaeebmpoaaGreatDoor
open Go Go.RowKit Go.Sort
set_option linter.unusedVariables false
structure Z6 where
  m : Lay
  s : SLay
  gg : Nat
  gw : Nat
  vt : Value
  vc : Value
  vl : Value
def Z6.fp (y : Z6) (T : List Tu) (k : Nat) : Prop := y.m.fp k ∨ y.s.fp k ∨ k = y.gg ∨ k = y.gw ∨ y.vt.ownBlock = some k ∨ y.vc.ownBlock = some k ∨ ∃ t ∈ T, k = t.gt
structure G6 (w0 : World) (P0 : Nat → Prop) (w : World) (B size : Nat) (y : Z6) (z : S6) (n : Nat) (xs : List Value) : Prop where
  row : Row w y.gg 51 #[fpt y.m.g, fpt y.s.gs, fpt y.gw, y.vt]
  gm : ∃ fs, Game w y.m z.s y.s z.hs fs
  w6 : W6At w B y.gw size z.cls z.L y.vc y.vl
  tn : w.ownsRow B 154 4 y.vt n xs
  ta : ∀ t ∈ z.T, TAt w y.m y.s t.gt (t.cl : Int) t.i t.j (plF t.k) false 0
  gts : (z.T.map Tu.gt).Nodup
  vcn : ∀ k, y.vc.ownBlock = some k → ¬ y.s.fp k
  rb : 0 < B
  but : But w0 w P0
  fp : ∀ k, y.fp z.T k → P0 k ∨ w0.heap.size ≤ k
  pb : ∀ k, P0 k → B ≤ k
  wb : B ≤ w0.heap.size
section
variable {w0 w w' : World} {P0 : Nat → Prop} {B size n : Nat} {y : Z6} {z : S6} {xs : List Value}
theorem W6At.keep {gw : Nat} {cls : List Nat} {L : List (Nat × Nat)} {vc vl : Value} {p : Nat → Prop} (h : W6At w B gw size cls L vc vl) (hb : But w w' p) (h1 : ¬ p gw) (h2 : ∀ k, vc.ownBlock = some k → ¬ p k) (h3 : ∀ k, vl.ownBlock = some k → ¬ p k) : W6At w' B gw size cls L vc vl :=
  ⟨hb.row h.row h1, own_block h.cls fun g hg => hb.block g (by obtain ⟨cs, f, e⟩ := own_tag h.cls hg; exact heap_lt e) (h2 g hg), own_block h.bl fun g hg => hb.block g (by obtain ⟨cs, f, e⟩ := own_tag h.bl hg; exact heap_lt e) (h3 g hg), h.low⟩
theorem Tag.lt {k : Nat} {t : TypeId} (h : Tag w k t) : k < w.heap.size := by obtain ⟨cs, f, e⟩ := h; exact heap_lt e
theorem SlabMem.apart_tag {ys : SLay} {hs : List Hd} {fs : Nat → List Nat} (h : SlabMem w ys hs fs) {k : Nat} {t : TypeId} (ht : Tag w k t) (h1 : t ≠ 87) (h2 : t ≠ 91) (h3 : t ≠ 145) (h4 : t ≠ 24) (h5 : t ≠ 3) : ¬ ys.fp k := fun hk => by
  rcases h.tag hk with h' | h' | h' | h' | h'
  · exact h1 (ht.same h')
  · exact h2 (ht.same h')
  · exact h3 (ht.same h')
  · exact h4 (ht.same h')
  · exact h5 (ht.same h')
theorem G6.far (G : G6 w0 P0 w B size y z n xs) {k : Nat} {t : TypeId} (ht : Tag w k t) (h : t = 51 ∨ t = 69 ∨ t = 154 ∨ t = 99 ∨ t = 165) : ¬ y.m.fp k ∧ ¬ y.s.fp k := by
  obtain ⟨fs, g⟩ := G.gm
  rcases h with rfl | rfl | rfl | rfl | rfl <;> exact ⟨g.pm.apart_tag ht (by decide) (by decide) (by decide) (by decide), g.mem.apart_tag ht (by decide) (by decide) (by decide) (by decide) (by decide)⟩
theorem G6.vc_far (G : G6 w0 P0 w B size y z n xs) {k : Nat} (hk : y.vc.ownBlock = some k) : ¬ y.m.fp k ∧ ¬ y.s.fp k := by
  obtain ⟨fs, g⟩ := G.gm
  exact ⟨g.pm.apart_tag (own_tag G.w6.cls hk) (by decide) (by decide) (by decide) (by decide), G.vcn k hk⟩
theorem G6.tat (G : G6 w0 P0 w B size y z n xs) {t : Tu} (ht : t ∈ z.T) : Tag w t.gt 165 := Row.tag (G.ta t ht)
theorem G6.bw (G : G6 w0 P0 w B size y z n xs) : B ≤ w.heap.size := Nat.le_trans G.w6.low (Nat.le_of_lt G.w6.row.lt)
theorem G6.w0w (G : G6 w0 P0 w B size y z n xs) : w0.heap.size ≤ w.heap.size := G.but.size
theorem But.more (h : But w0 w P0) {q : Nat → Prop} (h2 : But w w' q) (hq : ∀ k, q k → P0 k ∨ w0.heap.size ≤ k) : But w0 w' P0 := h.trans h2 hq
theorem G6.below (G : G6 w0 P0 w B size y z n xs) (hb : Below w.heap.size w w') : G6 w0 P0 w' B size y z n xs := by
  obtain ⟨fs, g⟩ := G.gm
  exact { G with
    row := G.row.below hb G.row.lt
    gm := ⟨fs, g.below hb⟩
    w6 := G.w6.below hb
    tn := own_low (C := 0) G.tn hb
    ta := fun t ht => Row.below (G.ta t ht) hb (Row.lt (G.ta t ht))
    but := G.but.more (But.of_below hb (fun _ => False)) (fun _ h => h.elim) }
theorem G6.gturn (G : G6 w0 P0 w B size y z n xs) {m' : Lay} {s' : SLay} {st' : St} {hs' : List Hd} {fs' : Nat → List Nat} {gt : Nat} (g' : Game w' m' st' s' hs' fs') (t : GTurn w w' y.m m' y.s s' gt)
    (hgt : Tag w gt 165 ∧ (P0 gt ∨ w0.heap.size ≤ gt) ∨ w.heap.size ≤ gt) (hn : ∀ u ∈ z.T, u.gt ≠ gt) :
    G6 w0 P0 w' B size ⟨m', s', y.gg, y.gw, y.vt, y.vc, y.vl⟩ ⟨st', hs', z.cls, z.L, z.T⟩ n xs := by
  obtain ⟨fs, g⟩ := G.gm
  have fgt : ∀ k u, Tag w k u → u ≠ 165 → k ≠ gt := fun k u hk hu e => by
    subst e
    rcases hgt with ⟨h1, _⟩ | h1
    · exact hu (hk.same h1)
    · have := hk.lt; omega
  have hf : ∀ (k : Nat) (u : TypeId), Tag w k u → (u = 51 ∨ u = 69 ∨ u = 154 ∨ u = 99 ∨ u = 165) → k ≠ gt → ¬ (y.m.fp k ∨ y.s.fp k ∨ k = gt) := fun k u hk h h2 h' => by
    rcases h' with h' | h' | h'
    · exact (G.far hk h).1 h'
    · exact (G.far hk h).2 h'
    · exact h2 h'
  have hfc : ∀ k, y.vc.ownBlock = some k → ¬ (y.m.fp k ∨ y.s.fp k ∨ k = gt) := fun k hk h' => by
    rcases h' with h' | h' | h'
    · exact (G.vc_far hk).1 h'
    · exact (G.vc_far hk).2 h'
    · exact fgt k _ (own_tag G.w6.cls hk) (by decide) h'
  have hq : ∀ k, (y.m.fp k ∨ y.s.fp k ∨ k = gt) → P0 k ∨ w0.heap.size ≤ k := fun k hk => by
    rcases hk with h | h | h
    · exact G.fp k (.inl h)
    · exact G.fp k (.inr (.inl h))
    · subst h
      rcases hgt with ⟨_, h1⟩ | h1
      · exact h1
      · exact .inr (Nat.le_trans G.w0w h1)
  refine {
    row := ?_, gm := ⟨fs', g'⟩, w6 := G.w6.keep t.but (hf _ _ G.w6.row.tag (by decide) (fgt _ _ G.w6.row.tag (by decide))) hfc (fun k hk => hf _ _ (own_tag G.w6.bl hk) (by decide) (fgt _ _ (own_tag G.w6.bl hk) (by decide))),
    tn := own_block G.tn fun k hk => t.but.block k (own_tag G.tn hk).lt (hf _ _ (own_tag G.tn hk) (by decide) (fgt _ _ (own_tag G.tn hk) (by decide))), ta := fun u hu => ?_, gts := G.gts, vcn := fun k hk h => ?_, rb := G.rb, but := G.but.more t.but hq, fp := fun k hk => ?_, pb := G.pb, wb := G.wb }
  · have h1 := t.but.row G.row (hf _ _ G.row.tag (by decide) (fgt _ _ G.row.tag (by decide)))
    show Row w' y.gg _ #[fpt m'.g, fpt s'.gs, _, _]
    rw [t.g, t.gs]
    exact h1
  · have h1 : Row w u.gt 165 _ := G.ta u hu
    have h2 := t.but.row h1 (hf _ _ h1.tag (by decide) (hn u hu))
    unfold TAt
    show Row w' u.gt 165 (tcells s'.gs m'.g _ s'.gh _ _ _ _ _)
    rw [t.g, t.gs, t.gh]
    exact h2
  · rcases t.fy k h with h | h
    · exact G.vcn k hk h
    · have := (own_tag G.w6.cls hk).lt; omega
  · rcases hk with h | h | h
    · rcases t.fm k h with h | h
      · exact G.fp k (.inl h)
      · exact .inr (Nat.le_trans G.w0w h)
    · rcases t.fy k h with h | h
      · exact G.fp k (.inr (.inl h))
      · exact .inr (Nat.le_trans G.w0w h)
    · exact G.fp k (.inr (.inr h))
theorem G6.onMem (G : G6 w0 P0 w B size y z n xs) {m' : Lay} {st' : St} (hm : MemAt w' m' st') (ok : st'.Ok) (hn : st'.nl = z.s.nl) (t : Turn w w' y.m m') :
    G6 w0 P0 w' B size ⟨m', y.s, y.gg, y.gw, y.vt, y.vc, y.vl⟩ ⟨st', z.hs, z.cls, z.L, z.T⟩ n xs := by
  obtain ⟨fs, g⟩ := G.gm
  refine G.gturn (gt := w.heap.size) (g.onMem hm ok hn t) (GTurn.of_mem y.s _ t) (.inr (Nat.le_refl _)) fun u hu => ?_
  have := (G.tat hu).lt
  omega
theorem G6.onSlab (G : G6 w0 P0 w B size y z n xs) {s' : SLay} {hs' : List Hd} {fs' : Nat → List Nat} (hm : SlabMem w' s' hs' fs') (ho : HsOk hs') (fo : FsOk hs' fs') (hl : hs'.length = z.hs.length) (t : STurn w w' y.s s') :
    G6 w0 P0 w' B size ⟨y.m, s', y.gg, y.gw, y.vt, y.vc, y.vl⟩ ⟨z.s, hs', z.cls, z.L, z.T⟩ n xs := by
  obtain ⟨fs, g⟩ := G.gm
  refine G.gturn (gt := w.heap.size) (g.onSlab hm ho fo hl t) (GTurn.of_slab y.m _ t) (.inr (Nat.le_refl _)) fun u hu => ?_
  have := (G.tat hu).lt
  omega
theorem G6.own (G : G6 w0 P0 w B size y z n xs) {cls' : List Nat} {L' : List (Nat × Nat)} {vl' vt' : Value} {n' : Nat} {xs' : List Value}
    (hr : Row w' y.gg 51 #[fpt y.m.g, fpt y.s.gs, fpt y.gw, vt']) (h6 : W6At w' B y.gw size cls' L' y.vc vl') (ht : w'.ownsRow B 154 4 vt' n' xs')
    (hb : But w w' (fun q => q = y.gw ∨ q = y.gg ∨ y.vt.ownBlock = some q ∨ y.vc.ownBlock = some q)) (hv : vt'.ownBlock = y.vt.ownBlock ∨ ∀ k, vt'.ownBlock = some k → w.heap.size ≤ k) :
    G6 w0 P0 w' B size ⟨y.m, y.s, y.gg, y.gw, vt', y.vc, vl'⟩ ⟨z.s, z.hs, cls', L', z.T⟩ n' xs' := by
  obtain ⟨fs, g⟩ := G.gm
  have hmf : ∀ k, y.m.fp k → ¬ (k = y.gw ∨ k = y.gg ∨ y.vt.ownBlock = some k ∨ y.vc.ownBlock = some k) := fun k hk h => by
    rcases h with rfl | rfl | h | h
    · exact (G.far G.w6.row.tag (by decide)).1 hk
    · exact (G.far G.row.tag (by decide)).1 hk
    · exact (G.far (own_tag G.tn h) (by decide)).1 hk
    · exact (G.vc_far h).1 hk
  have hsf : ∀ k, y.s.fp k → ¬ (k = y.gw ∨ k = y.gg ∨ y.vt.ownBlock = some k ∨ y.vc.ownBlock = some k) := fun k hk h => by
    rcases h with rfl | rfl | h | h
    · exact (G.far G.w6.row.tag (by decide)).2 hk
    · exact (G.far G.row.tag (by decide)).2 hk
    · exact (G.far (own_tag G.tn h) (by decide)).2 hk
    · exact (G.vc_far h).2 hk
  have hrm : ¬ (0 = y.gw ∨ 0 = y.gg ∨ y.vt.ownBlock = some 0 ∨ y.vc.ownBlock = some 0) := fun h => by
    have hb0 := G.rb
    rcases h with h | h | h | h
    · have := G.w6.low; omega
    · have h1 := G.fp y.gg (.inr (.inr (.inl rfl)))
      rw [← h] at h1
      rcases h1 with h1 | h1
      · have := G.pb _ h1; omega
      · have := G.wb; omega
    · have := own_base G.tn h; omega
    · have := own_base G.w6.cls h; omega
  have hq : ∀ k, (k = y.gw ∨ k = y.gg ∨ y.vt.ownBlock = some k ∨ y.vc.ownBlock = some k) → P0 k ∨ w0.heap.size ≤ k := fun k hk => by
    rcases hk with h | h | h | h
    · exact G.fp k (.inr (.inr (.inr (.inl h))))
    · exact G.fp k (.inr (.inr (.inl h)))
    · exact G.fp k (.inr (.inr (.inr (.inr (.inl h)))))
    · exact G.fp k (.inr (.inr (.inr (.inr (.inr (.inl h))))))
  refine {
    row := hr, gm := ⟨fs, ⟨g.pm.but hb hmf, g.ok, g.mem.keep hb hsf, g.ho, g.fo, ⟨g.rs.1.but hb hrm, g.rs.2⟩, g.rm, g.size⟩⟩, w6 := h6, tn := ht, ta := fun u hu => ?_, gts := G.gts, vcn := G.vcn, rb := G.rb, but := G.but.more hb hq, fp := fun k hk => ?_, pb := G.pb, wb := G.wb }
  · have h1 : Row w u.gt 165 _ := G.ta u hu
    refine hb.row h1 fun h => ?_
    rcases h with h | h | h | h
    · exact tagNe h1.tag G.w6.row.tag (by decide) h
    · exact tagNe h1.tag G.row.tag (by decide) h
    · exact tagNe h1.tag (own_tag G.tn h) (by decide) rfl
    · exact tagNe h1.tag (own_tag G.w6.cls h) (by decide) rfl
  · rcases hk with h | h | h | h | h | h
    · exact G.fp k (.inl h)
    · exact G.fp k (.inr (.inl h))
    · exact G.fp k (.inr (.inr (.inl h)))
    · exact G.fp k (.inr (.inr (.inr (.inl h))))
    · rcases hv with hv | hv
      · exact G.fp k (.inr (.inr (.inr (.inr (.inl (hv ▸ h))))))
      · exact .inr (Nat.le_trans G.w0w (hv k h))
    · exact G.fp k (.inr (.inr (.inr (.inr (.inr h)))))
theorem G6.turns (G : G6 w0 P0 w B size y z n xs) (T' : List Tu) (h1 : ∀ t ∈ T', TAt w y.m y.s t.gt (t.cl : Int) t.i t.j (plF t.k) false 0) (h2 : (T'.map Tu.gt).Nodup) (h3 : ∀ t ∈ T', P0 t.gt ∨ w0.heap.size ≤ t.gt) :
    G6 w0 P0 w B size y ⟨z.s, z.hs, z.cls, z.L, T'⟩ n xs :=
  { G with
    ta := h1
    gts := h2
    fp := fun k hk => by
      rcases hk with h | h | h | h | h | h | ⟨t, ht, rfl⟩
      · exact G.fp k (.inl h)
      · exact G.fp k (.inr (.inl h))
      · exact G.fp k (.inr (.inr (.inl h)))
      · exact G.fp k (.inr (.inr (.inr (.inl h))))
      · exact G.fp k (.inr (.inr (.inr (.inr (.inl h)))))
      · exact G.fp k (.inr (.inr (.inr (.inr (.inr (.inl h))))))
      · exact h3 t ht }
theorem G6.tfp (G : G6 w0 P0 w B size y z n xs) {t : Tu} (ht : t ∈ z.T) : P0 t.gt ∨ w0.heap.size ≤ t.gt := G.fp _ (.inr (.inr (.inr (.inr (.inr (.inr ⟨t, ht, rfl⟩))))))
theorem G6.same (G : G6 w0 P0 w B size y z n xs) (hI : W6Is z.hs z.cls z.L) (hL : z.L.length ≤ 1000) :
    Calls Tryz.prog 11 #[fpt y.s.gs, fpt y.gw] w fun e w' => e = .returned (.bool true) ∧ G6 w0 P0 w' B size y z n xs := by
  obtain ⟨fs, g⟩ := G.gm
  exact (same6_any g.mem g.ho g.fo g.rs G.w6 hI hL (hI.pos g.ho g.mem.most)).mono fun e w' ⟨he, hb⟩ => ⟨he, G.below hb⟩
end
end Go.Proofs.YtahojhaeebmpoaaGreatDoor
/- Each call of the law's game, over one predicate of the world: what is taken, what is given back. -/
namespace Go.Proofs.YtahojhaeebmpoaaGreatDoor
open Go Go.RowKit Go.Sort
set_option linter.unusedVariables false
def GD (w0 : World) (P0 : Nat → Prop) (B size gg mg gs gw : Nat) (Q : World → Z6 → S6 → Nat → List Value → Prop) (w : World) : Prop :=
  ∃ y z n xs, G6 w0 P0 w B size y z n xs ∧ y.gg = gg ∧ y.m.g = mg ∧ y.s.gs = gs ∧ y.gw = gw ∧ Q w y z n xs
def RQ (z0 : S6) (w : World) (y : Z6) (z : S6) (n : Nat) (xs : List Value) : Prop := z = z0 ∧ n = z0.T.length ∧ xs = flatT z0.T
section
variable {w0 w w' : World} {P0 : Nat → Prop} {B size gg mg gs gw : Nat} {Q Q' : World → Z6 → S6 → Nat → List Value → Prop} {z : S6}
theorem GD.cells (G : GD w0 P0 B size gg mg gs gw Q w) : w.cell? ⟨gg, 0, none⟩ = some (.pointer (some ⟨mg, 0, none⟩)) ∧ w.cell? ⟨gg, 1, none⟩ = some (.pointer (some ⟨gs, 0, none⟩)) ∧ w.cell? ⟨gg, 2, none⟩ = some (.pointer (some ⟨gw, 0, none⟩)) := by
  obtain ⟨y, z, n, xs, G, rfl, rfl, rfl, rfl, _⟩ := G
  refine ⟨?_, ?_, ?_⟩ <;> (rw [G.row.cell]; rfl)
theorem GD.below (G : GD w0 P0 B size gg mg gs gw (RQ z) w) (hb : Below w.heap.size w w') : GD w0 P0 B size gg mg gs gw (RQ z) w' := by
  obtain ⟨y, z, n, xs, G, h1, h2, h3, h4, h5⟩ := G
  exact ⟨y, z, n, xs, G.below hb, h1, h2, h3, h4, h5⟩
theorem GD.drew (G : GD w0 P0 B size gg mg gs gw (RQ z) w) : GD w0 P0 B size gg mg gs gw (RQ z) w.drew := G.below (drew_below w)
theorem GD.ok (G : GD w0 P0 B size gg mg gs gw (RQ z) w) : HsOk z.hs ∧ z.hs.length ≤ 64 ∧ 64 * z.s.nl = 1024 * (z.hs.length + 1) ∧ z.s.Ok ∧ z.s.pend.length = z.s.nl ∧ (∀ x ∈ z.hs, x.cls ≤ 3) := by
  obtain ⟨y, z, n, xs, ⟨_, ⟨fs, g⟩, _⟩, h1, h2, h3, h4, rfl, _⟩ := G
  exact ⟨g.ho, g.mem.most, g.size, g.ok, g.pm.plen, fun x hx => (g.mem.lens x hx).2⟩
theorem GD.inv {n : Nat} {z' : S6} (G : GD w0 P0 B size gg mg gs gw (RQ z) w) (h : Inv6 n z) (st : Step6 z z') : Inv6 (n + 1) z' := h.step G.ok.1 G.ok.2.1 st
theorem GD.same (G : GD w0 P0 B size gg mg gs gw (RQ z) w) {n : Nat} (h : Inv6 n z) (hn : n ≤ 740) :
    Calls Tryz.prog 11 #[.pointer (some ⟨gs, 0, none⟩), .pointer (some ⟨gw, 0, none⟩)] w fun e w' => e = .returned (.bool true) ∧ GD w0 P0 B size gg mg gs gw (RQ z) w' := by
  obtain ⟨y, z, m, xs, G, rfl, h2, rfl, rfl, rfl, h6⟩ := G
  exact (G.same h.wis (by have := h.ll; omega)).mono fun e w' ⟨he, hg⟩ => ⟨he, y, z, m, xs, hg, rfl, h2, rfl, rfl, rfl, h6⟩
theorem GD.block (G : GD w0 P0 B size gg mg gs gw (RQ z) w) (hL : z.L.length ≤ 1000000) (k m c : Int) (a : Nat) :
    Calls Tryz.prog 50 #[.pointer (some ⟨gg, 0, none⟩), .agg #[.int .i64 k, .int .i64 m, .int .u64 (a : Int), .int .i64 c]] w fun e w' => e = .returned (.int .u64 (blkOf z.L m a : Nat)) ∧ GD w0 P0 B size gg mg gs gw (RQ z) w' := by
  obtain ⟨y, z, n, xs, G, rfl, h2, h3, rfl, rfl, h6⟩ := G
  exact (block6_any G.row G.w6 hL k m c a).mono fun e w' ⟨he, hb⟩ => ⟨he, y, z, n, xs, G.below hb, rfl, h2, h3, rfl, rfl, h6⟩
theorem GD.is (G : GD w0 P0 B size gg mg gs gw (RQ z) w) (hL : z.L.length ≤ 1000000) (a : Nat) :
    Calls Tryz.prog 13 #[.pointer (some ⟨gw, 0, none⟩), .int .u64 (a : Int)] w fun e w' => e = .returned (.int .i64 (isL z.L a : Nat)) ∧ w = w' := by
  obtain ⟨y, z, n, xs, G, h1, h2, h3, rfl, rfl, h6⟩ := G
  exact r6Is_any G.w6 hL a
theorem GD.is_eq (G : GD w0 P0 B size gg mg gs gw (RQ z) w) (hL : z.L.length ≤ 1000000) (a : Nat) (k : Int) (hk : ((isL z.L a : Nat) : Int) = k) :
    Calls Tryz.prog 13 #[.pointer (some ⟨gw, 0, none⟩), .int .u64 (a : Int)] w fun e w' => e = .returned (.int .i64 k) ∧ w = w' := by
  rw [← hk]
  exact G.is hL a
theorem GD.set (G : GD w0 P0 B size gg mg gs gw (RQ z) w) (hL : z.L.length ≤ 1000000) (a v : Nat) :
    Calls Tryz.prog 52 #[.pointer (some ⟨gw, 0, none⟩), .int .u64 (a : Int), .int .i64 (v : Int)] w fun e w' => e = .returned (.tuple #[]) ∧ GD w0 P0 B size gg mg gs gw (RQ ⟨z.s, z.hs, z.cls, setL z.L a v, z.T⟩) w' := by
  obtain ⟨y, z, n, xs, G, h1, h2, h3, rfl, rfl, rfl, rfl⟩ := G
  refine (r6Set_any G.w6 hL G.bw a v).mono fun e w' ⟨vl', W1, he, h6, hb, hw⟩ => ⟨he, ?_⟩
  subst hw
  have hbut : But w (W1.setCell ⟨y.gw, 2, none⟩ vl') (fun q => q = y.gw) := but_set6 hb rfl
  have hr : Row (W1.setCell ⟨y.gw, 2, none⟩ vl') y.gg 51 _ := hbut.row G.row (tagNe G.row.tag G.w6.row.tag (by decide))
  have ht := own_block G.tn fun k hk => hbut.block k (own_tag G.tn hk).lt (tagNe (own_tag G.tn hk) G.w6.row.tag (by decide))
  exact ⟨_, _, _, _, G.own hr h6 ht (hbut.mono fun k h => .inl h) (.inl rfl), h1, h2, h3, rfl, rfl, rfl, rfl⟩
theorem GD.resArg (G : GD w0 P0 B size gg mg gs gw (RQ z) w) {c : Int} (hc : ¬ (1 ≤ c ∧ c ≤ 3)) :
    Calls Tryz.prog 26 #[.pointer (some ⟨gs, 0, none⟩), .int .i64 c] w fun e w' => e = .returned (.tuple #[.int .u64 0, .int .i64 2]) ∧ w = w' := by
  obtain ⟨y, z, n, xs, G, h1, h2, rfl, h4, h5, h6⟩ := G
  obtain ⟨fs, g⟩ := G.gm
  exact reserve_arg g.mem hc
def ResD (w0 : World) (P0 : Nat → Prop) (B size gg mg gs gw : Nat) (z : S6) (c : Nat) (A E : Int) (w : World) : Prop :=
  ∃ hs1 hs', Claimed z.hs hs1 c ∧ Took hs1 hs' c (.returned (.tuple #[.int .u64 A, .int .i64 E])) ∧ GD w0 P0 B size gg mg gs gw (RQ ⟨z.s, hs', z.cls, z.L, z.T⟩) w
theorem GD.res (G : GD w0 P0 B size gg mg gs gw (RQ z) w) {c : Nat} (hc : 1 ≤ c ∧ c ≤ 3) :
    Calls Tryz.prog 26 #[.pointer (some ⟨gs, 0, none⟩), .int .i64 (c : Int)] w fun e w' => ∃ A E : Int, e = .returned (.tuple #[.int .u64 A, .int .i64 E]) ∧ ResD w0 P0 B size gg mg gs gw z c A E w' := by
  obtain ⟨y, z, n, xs, G, h1, h2, rfl, h4, rfl, h6⟩ := G
  obtain ⟨fs, g⟩ := G.gm
  refine (reserve_any g.mem g.ho g.fo g.rs hc.1 hc.2).mono fun e w' ⟨hs1, hs', y', fs', hcl, htk, hm, ho, fo, t⟩ => ?_
  have he : ∃ A E : Int, e = .returned (.tuple #[.int .u64 A, .int .i64 E]) := by
    rcases htk with ⟨_, _, _, _, _, _, _, _, rfl⟩ | ⟨_, _, rfl⟩
    · exact ⟨_, _, rfl⟩
    · exact ⟨_, _, rfl⟩
  obtain ⟨A, E, rfl⟩ := he
  have hl : hs'.length = z.hs.length := by
    have h1 : hs1.length = z.hs.length := by rcases hcl with ⟨_, rfl⟩ | ⟨_, ⟨i, x, hz, hx, rfl⟩ | ⟨_, rfl⟩⟩ <;> simp
    rcases htk with ⟨i, j, x, hx, _, hb, _, rfl, _⟩ | ⟨_, rfl, _⟩
    · rw [List.length_set, h1]
    · exact h1
  exact ⟨A, E, rfl, hs1, hs', hcl, htk, _, _, _, _, G.onSlab hm ho fo hl t, h1, h2, t.gs, h4, rfl, h6.1, h6.2⟩
theorem GD.resR {c : Nat} {A E : Int} {n : Nat} (hI : Inv6 n z) (hn : n ≤ 900) (hc : 1 ≤ c ∧ c ≤ 3) (ho : HsOk z.hs) (hm : z.hs.length ≤ 64) (h3 : ∀ x ∈ z.hs, x.cls ≤ 3) (G : ResD w0 P0 B size gg mg gs gw z c A E w) :
    Calls Tryz.prog 27 #[.pointer (some ⟨gw, 0, none⟩), .int .i64 (c : Int)] w fun e w' => e = .returned (.tuple #[.int .u64 A, .int .i64 E]) ∧ ∃ z', Step6 z z' ∧ GD w0 P0 B size gg mg gs gw (RQ z') w' := by
  obtain ⟨hs1, hs', hcl, htk, y, z1, m, xs, G, h1, h2, h3', rfl, rfl, rfl, rfl⟩ := G
  refine (r6Res_any G.w6 (by have := hI.ll; show z.L.length ≤ _; omega) G.bw (by show z.cls.length ≤ 64; rw [hI.wis.cls, List.length_map]; exact hm) (fun x hx => by
    have hx : x ∈ z.cls := hx
    rw [hI.wis.cls] at hx
    obtain ⟨d, hd, rfl⟩ := List.mem_map.1 hx
    have := h3 d hd
    omega) hc).mono fun e w' hp => ?_
  obtain ⟨cls', L', vl', hr, h6, hb⟩ := hp.plain G.w6
  have hr' : ResL z.cls z.L c e cls' L' := hr
  obtain ⟨he, hw⟩ := res_same hI.wis ho hm hc hcl htk hr'
  have hl : L'.length ≤ z.L.length + 1 := by
    rcases hr' with ⟨_, _, _, _, _, _, rfl⟩ | ⟨_, _, _, _, _, _, _, rfl⟩ | ⟨_, _, _, _, rfl⟩
    · exact setL_len _ _ _
    · exact setL_len _ _ _
    · exact Nat.le_succ _
  refine ⟨he.symm, _, .res z hs1 hs' cls' L' c _ hc.1 hc.2 hcl htk hw hl, ?_⟩
  have hnv : ∀ k, (k = y.gw ∨ y.vc.ownBlock = some k) → (k = y.gw ∨ k = y.gg ∨ y.vt.ownBlock = some k ∨ y.vc.ownBlock = some k) := fun k h => by
    rcases h with h | h
    · exact .inl h
    · exact .inr (.inr (.inr h))
  have hrow : Row w' y.gg 51 _ := hb.row G.row fun h => by
    rcases h with h | h
    · exact tagNe G.row.tag G.w6.row.tag (by decide) h
    · exact tagNe G.row.tag (own_tag G.w6.cls h) (by decide) rfl
  have ht := own_block G.tn fun k hk => hb.block k (own_tag G.tn hk).lt fun h => by
    rcases h with h | h
    · exact tagNe (own_tag G.tn hk) G.w6.row.tag (by decide) h
    · exact tagNe (own_tag G.tn hk) (own_tag G.w6.cls h) (by decide) rfl
  exact ⟨_, _, _, _, G.own hrow h6 ht (hb.mono hnv) (.inl rfl), h1, h2, h3', rfl, rfl, rfl, rfl⟩
theorem GD.rel (G : GD w0 P0 B size gg mg gs gw (RQ z) w) (a : Nat) :
    Calls Tryz.prog 51 #[.pointer (some ⟨gs, 0, none⟩), .int .u64 (a : Int)] w fun e w' =>
      (∃ i j x, z.hs[i]? = some x ∧ x.bl[j]? = some 1 ∧ adr x.no x.cls j = a ∧ e = .returned (.int .i64 0) ∧ GD w0 P0 B size gg mg gs gw (RQ ⟨z.s, z.hs.set i { x with bl := x.bl.set j 0 }, z.cls, z.L, z.T⟩) w') ∨
      (¬ isAt z.hs a 1 ∧ e = .returned (.int .i64 7) ∧ GD w0 P0 B size gg mg gs gw (RQ z) w') := by
  obtain ⟨y, z, n, xs, G, h1, h2, rfl, h4, rfl, h6⟩ := G
  obtain ⟨fs, g⟩ := G.gm
  refine (release_any g.mem g.ho g.fo g.rs a).mono fun e w' hp => ?_
  rcases hp with ⟨i, j, x, y', fs', hx, hb, ha, he, hm, ho, fo, t⟩ | ⟨hn, he, hb⟩
  · exact .inl ⟨i, j, x, hx, hb, ha, he, _, _, _, _, G.onSlab hm ho fo (by simp) t, h1, h2, t.gs, h4, rfl, h6.1, h6.2⟩
  · exact .inr ⟨hn, he, y, z, n, xs, G.below hb, h1, h2, rfl, h4, rfl, h6⟩
end
end Go.Proofs.YtahojhaeebmpoaaGreatDoor
/- Publish, Free, the turn that begins; an eviction; a step of a turn; over one predicate of the world. -/
namespace Go.Proofs.YtahojhaeebmpoaaGreatDoor
open Go Go.RowKit Go.Sort
set_option linter.unusedVariables false
def BegD (w0 : World) (P0 : Nat → Prop) (B size gg mg gs gw : Nat) (z : S6) (i j : Nat) (x : Hd) (v cl gt : Nat) (w : World) : Prop :=
  ∃ y n xs, G6 w0 P0 w B size y ⟨z.s, z.hs.set i { x with bl := x.bl.set j v }, z.cls, z.L, z.T⟩ n xs ∧ y.gg = gg ∧ y.m.g = mg ∧ y.s.gs = gs ∧ y.gw = gw ∧ n = z.T.length ∧ xs = flatT z.T ∧
    TAt w y.m y.s gt (cl : Int) i j (plF 0) false 0 ∧ w0.heap.size ≤ gt ∧ (∀ u ∈ z.T, u.gt ≠ gt)
theorem flatT_len (T : List Tu) : (flatT T).length = 4 * T.length := by
  unfold flatT
  induction T with
  | nil => rfl
  | cons t T ih => rw [List.flatMap_cons, List.length_append, ih]; simp [turn6V]; omega
theorem flatT_snoc (T : List Tu) (t : Tu) : flatT (T ++ [t]) = flatT T ++ turn6V (fpt t.gt) t.a (settled t.v) t.k := by unfold flatT; simp
theorem flatT_get : ∀ (T : List Tu) (q : Nat) (t : Tu), T[q]? = some t → (flatT T)[q * 4]? = some (fpt t.gt) ∧ (flatT T)[q * 4 + 1]? = some (wv t.a) ∧ (flatT T)[q * 4 + 2]? = some (jv (settled t.v)) ∧ (flatT T)[q * 4 + 3]? = some (jv t.k)
  | [], q, t, h => by simp at h
  | u :: T, 0, t, h => by
    simp at h
    subst h
    exact ⟨rfl, rfl, rfl, rfl⟩
  | u :: T, q + 1, t, h => by
    have h1 := flatT_get T q t (by simpa using h)
    have e : flatT (u :: T) = turn6V (fpt u.gt) u.a (settled u.v) u.k ++ flatT T := by unfold flatT; simp
    rw [e]
    have hl : (turn6V (fpt u.gt) u.a (settled u.v) u.k).length = 4 := rfl
    have g : ∀ m, (turn6V (fpt u.gt) u.a (settled u.v) u.k ++ flatT T)[m + 4]? = (flatT T)[m]? := fun m => by
      rw [List.getElem?_append_right (by rw [hl]; omega), hl]; congr 1
    refine ⟨?_, ?_, ?_, ?_⟩
    · rw [show (q + 1) * 4 = q * 4 + 4 from by omega, g]; exact h1.1
    · rw [show (q + 1) * 4 + 1 = q * 4 + 1 + 4 from by omega, g]; exact h1.2.1
    · rw [show (q + 1) * 4 + 2 = q * 4 + 2 + 4 from by omega, g]; exact h1.2.2.1
    · rw [show (q + 1) * 4 + 3 = q * 4 + 3 + 4 from by omega, g]; exact h1.2.2.2
theorem flatT_setk : ∀ (T : List Tu) (q : Nat) (t : Tu) (k : Nat), T[q]? = some t → (flatT T).set (q * 4 + 3) (jv k) = flatT (T.set q { t with k := k })
  | [], q, t, k, h => by simp at h
  | u :: T, 0, t, k, h => by
    simp at h
    subst h
    rfl
  | u :: T, q + 1, t, k, h => by
    have h1 := flatT_setk T q t k (by simpa using h)
    have e : ∀ (v : Tu) (M : List Tu), flatT (v :: M) = turn6V (fpt v.gt) v.a (settled v.v) v.k ++ flatT M := fun v M => by unfold flatT; simp
    rw [List.set_cons_succ, e, e, ← h1, show (q + 1) * 4 + 3 = (q * 4 + 3) + 4 from by omega]
    rfl
theorem flatT_take (T : List Tu) (q : Nat) : (flatT T).take (4 * q) = flatT (T.take q) := by
  induction q generalizing T with
  | zero => simp [flatT]
  | succ q ih =>
    cases T with
    | nil => simp [flatT]
    | cons t T =>
      have e : ∀ (v : Tu) (M : List Tu), flatT (v :: M) = turn6V (fpt v.gt) v.a (settled v.v) v.k ++ flatT M := fun v M => by unfold flatT; simp
      rw [List.take_succ_cons, e, e, ← ih, show 4 * (q + 1) = 4 * q + 4 from by omega]
      rfl
theorem flatT_drop (T : List Tu) (q : Nat) : (flatT T).drop (4 * q) = flatT (T.drop q) := by
  induction q generalizing T with
  | zero => simp
  | succ q ih =>
    cases T with
    | nil => simp [flatT]
    | cons t T =>
      have e : ∀ (v : Tu) (M : List Tu), flatT (v :: M) = turn6V (fpt v.gt) v.a (settled v.v) v.k ++ flatT M := fun v M => by unfold flatT; simp
      rw [List.drop_succ_cons, e, ← ih, show 4 * (q + 1) = 4 * q + 4 from by omega]
      rfl
theorem flatT_append (T U : List Tu) : flatT (T ++ U) = flatT T ++ flatT U := by unfold flatT; simp
section
variable {w0 w w' : World} {P0 : Nat → Prop} {B size gg mg gs gw n : Nat} {z : S6} {y : Z6} {xs : List Value}
theorem G6.place (G : G6 w0 P0 w B size y z n xs) {q : Nat} {t : Tu} (ht : z.T[q]? = some t) {c code : Int} {f : FuncId} {d : Bool} {s' : St} {hs' : List Hd} (hp : PlacePost w y.m y.s t.gt c t.i t.j f d code s' hs' w') :
    ∃ m' s1, G6 w0 P0 w' B size ⟨m', s1, y.gg, y.gw, y.vt, y.vc, y.vl⟩ ⟨s', hs', z.cls, z.L, z.T.eraseIdx q⟩ n xs ∧ TAt w' m' s1 t.gt c t.i t.j f d code ∧ m'.g = y.m.g ∧ s1.gs = y.s.gs := by
  obtain ⟨m', s1, fs', g', T', t'⟩ := hp
  have htm := List.mem_of_getElem? ht
  have hne : ∀ u ∈ z.T.eraseIdx q, u.gt ≠ t.gt := fun u hu e => by
    obtain ⟨k, hk, hk2⟩ := List.mem_eraseIdx_iff_getElem?.1 hu
    have hnd := List.pairwise_iff_getElem.1 (List.pairwise_map.1 G.gts)
    obtain ⟨q1, rfl⟩ := List.getElem?_eq_some_iff.1 ht
    obtain ⟨k1, rfl⟩ := List.getElem?_eq_some_iff.1 hk2
    rcases Nat.lt_or_gt_of_ne hk with hl | hl
    · exact hnd k q k1 q1 hl e
    · exact hnd q k q1 k1 hl e.symm
  have hsub : ∀ u ∈ z.T.eraseIdx q, u ∈ z.T := fun u hu => List.mem_of_mem_eraseIdx hu
  have G1 := G.turns (z.T.eraseIdx q) (fun u hu => G.ta u (hsub u hu)) (G.gts.sublist ((List.eraseIdx_sublist _ _).map _)) (fun u hu => G.tfp (hsub u hu))
  exact ⟨m', s1, G1.gturn g' t' (.inl ⟨G.tat htm, G.tfp htm⟩) hne, T', t'.g, t'.gs⟩
theorem G6.back {q : Nat} (G : G6 w0 P0 w B size y ⟨z.s, z.hs, z.cls, z.L, z.T.eraseIdx q⟩ n xs) {t : Tu} (ht : z.T[q]? = some t) (hg : (z.T.map Tu.gt).Nodup) (hf : P0 t.gt ∨ w0.heap.size ≤ t.gt) {k : Nat} (T : TAt w y.m y.s t.gt (t.cl : Int) t.i t.j (plF k) false 0) :
    G6 w0 P0 w B size y ⟨z.s, z.hs, z.cls, z.L, z.T.set q { t with k := k }⟩ n xs := by
  have hmem : ∀ u ∈ z.T.set q { t with k := k }, u = { t with k := k } ∨ u ∈ z.T.eraseIdx q := fun u hu => by
    obtain ⟨p, hp⟩ := List.mem_iff_getElem?.1 hu
    rw [List.getElem?_set] at hp
    by_cases e : q = p
    · subst e
      rw [if_pos rfl, if_pos (List.getElem?_eq_some_iff.1 ht).1] at hp
      exact .inl (Option.some.inj hp).symm
    · rw [if_neg e] at hp
      exact .inr (List.mem_eraseIdx_iff_getElem?.2 ⟨p, fun h => e h.symm, hp⟩)
  have hmap : (z.T.set q { t with k := k }).map Tu.gt = z.T.map Tu.gt := by
    apply List.ext_getElem?
    intro i
    rw [List.getElem?_map, List.getElem?_map, List.getElem?_set]
    by_cases hi : q = i
    · subst hi; rw [if_pos rfl, if_pos (List.getElem?_eq_some_iff.1 ht).1, ht]; rfl
    · rw [if_neg hi]
  refine G.turns _ (fun u hu => ?_) (by rw [hmap]; exact hg) (fun u hu => ?_)
  · rcases hmem u hu with rfl | h
    · exact T
    · exact G.ta u h
  · rcases hmem u hu with rfl | h
    · exact hf
    · exact G.tfp (t := u) h
def TD (w0 : World) (P0 : Nat → Prop) (B size gg mg gs gw : Nat) (vt : Value) (z : S6) (n : Nat) (xs : List Value) (w : World) : Prop :=
  ∃ y, G6 w0 P0 w B size y z n xs ∧ y.gg = gg ∧ y.m.g = mg ∧ y.s.gs = gs ∧ y.gw = gw ∧ y.vt = vt
theorem GD.open (G : GD w0 P0 B size gg mg gs gw (RQ z) w) : ∃ vt, TD w0 P0 B size gg mg gs gw vt z z.T.length (flatT z.T) w := by
  obtain ⟨y, z, n, xs, G, h1, h2, h3, h4, rfl, rfl, rfl⟩ := G
  exact ⟨_, y, G, h1, h2, h3, h4, rfl⟩
theorem TD.shut {vt : Value} (G : TD w0 P0 B size gg mg gs gw vt z z.T.length (flatT z.T) w) : GD w0 P0 B size gg mg gs gw (RQ z) w := by
  obtain ⟨y, G, h1, h2, h3, h4, h5⟩ := G
  exact ⟨y, z, _, _, G, h1, h2, h3, h4, rfl, rfl, rfl⟩
def stepT (z : S6) (q : Nat) (t : Tu) (x : Hd) : S6 :=
  if t.k = 0 then ⟨z.s.store (1024 * x.no) x.cls, z.hs, z.cls, z.L, z.T.set q { t with k := 1 }⟩
  else if t.k = 1 then ⟨z.s.store (1024 * x.no + 8) (bitV t.v x.bits t.j), z.hs.set t.i { x with bits := bitV t.v x.bits t.j }, z.cls, z.L, z.T.set q { t with k := 2 }⟩
  else if t.k = 2 then ⟨z.s.flush t.cl (1024 * x.no), z.hs, z.cls, z.L, z.T.set q { t with k := 3 }⟩
  else ⟨z.s.fence t.cl, z.hs.set t.i { x with bl := x.bl.set t.j (settled t.v) }, z.cls, z.L, z.T.eraseIdx q⟩
theorem TD.stepq {vt : Value} (G : TD w0 P0 B size gg mg gs gw vt z n xs w) {N q : Nat} {t : Tu} {x : Hd} (hI : Inv6 N z) (hN : N ≤ 900) (ht : z.T[q]? = some t) (hx : z.hs[t.i]? = some x) :
    Calls Tryz.prog 73 #[.pointer (some ⟨mg, 0, none⟩), .pointer (some ⟨t.gt, 0, none⟩)] w fun e w' => e = .returned (.tuple #[.bool (decide (t.k = 3)), .bool true]) ∧ TD w0 P0 B size gg mg gs gw vt (stepT z q t x) n xs w' := by
  obtain ⟨y, G, rfl, rfl, rfl, rfl, rfl⟩ := G
  obtain ⟨fs, g⟩ := G.gm
  have htm := List.mem_of_getElem? ht
  obtain ⟨x', hx', hv, ha, h34, hk3, hcl⟩ := hI.tn t htm
  rw [hx] at hx'
  cases hx'
  have hd := hI.did
  have hdd : didN z.s = z.s.ld + z.s.st + z.s.fl + z.s.fe := rfl
  have hT := G.ta t htm
  have hgt : t.gt ≠ 0 := fun e => by
    have h1 := G.tfp htm
    have h2 := G.rb
    rw [e] at h1
    rcases h1 with h1 | h1
    · have := G.pb _ h1; omega
    · have := G.wb; omega
  have hpend : ∀ l ∈ z.s.pend, l.length + 1 ≤ 1000000000 := fun l hl => by have := hI.pend l hl; omega
  have TB := fun (W : World) (hb : Below w.heap.size w W) => (Row.below hT hb hT.lt : TAt W y.m y.s t.gt (t.cl : Int) t.i t.j (plF t.k) false 0)
  have hk : t.k = 0 ∨ t.k = 1 ∨ t.k = 2 ∨ t.k = 3 := by omega
  unfold stepT
  rcases hk with h | h | h | h
  · rw [h] at TB
    rw [if_pos h, h]
    refine (step6_any g.pm (by omega) (did_store _ _ _) fun W hb => step0 (g.below hb) (TB W hb) hgt hx (by omega) hpend).mono fun e w' ⟨he, hp⟩ => ⟨he, ?_⟩
    obtain ⟨m', s1, G1, T1, e1, e2⟩ := G.place ht hp
    exact ⟨_, G6.back (z := ⟨_, _, z.cls, z.L, z.T⟩) G1 ht G.gts (G.tfp htm) (k := 1) T1, rfl, e1, e2, rfl, rfl⟩
  · rw [h] at TB
    rw [if_neg (by omega), if_pos h, h]
    refine (step6_any g.pm (by omega) (did_store _ _ _) fun W hb => step1 (g.below hb) (TB W hb) hgt hx hv (bits_mem hI.bits hx) (by omega) hpend).mono fun e w' ⟨he, hp⟩ => ⟨he, ?_⟩
    obtain ⟨m', s1, G1, T1, e1, e2⟩ := G.place ht hp
    exact ⟨_, G6.back (z := ⟨_, _, z.cls, z.L, z.T⟩) G1 ht G.gts (G.tfp htm) (k := 2) T1, rfl, e1, e2, rfl, rfl⟩
  · rw [h] at TB
    rw [if_neg (by omega), if_neg (by omega), if_pos h, h]
    refine (step6_any g.pm (by omega) (did_flush _ _ _) fun W hb => step2 (g.below hb) (TB W hb) hgt hcl hx (by omega)).mono fun e w' ⟨he, hp⟩ => ⟨he, ?_⟩
    obtain ⟨m', s1, G1, T1, e1, e2⟩ := G.place ht hp
    exact ⟨_, G6.back (z := ⟨_, _, z.cls, z.L, z.T⟩) G1 ht G.gts (G.tfp htm) (k := 3) T1, rfl, e1, e2, rfl, rfl⟩
  · rw [h] at TB
    rw [if_neg (by omega), if_neg (by omega), if_neg (by omega), h]
    refine (step6_any g.pm (by omega) (did_fence _ _) fun W hb => step3 (g.below hb) (TB W hb) hgt hcl hx hv (by omega) (by omega)).mono fun e w' ⟨he, hp⟩ => ⟨he, ?_⟩
    obtain ⟨m', s1, G1, T1, e1, e2⟩ := G.place ht hp
    exact ⟨_, G1, rfl, e1, e2, rfl, rfl⟩
theorem GD.evict (G : GD w0 P0 B size gg mg gs gw (RQ z) w) (r : Nat) (hr : r < z.hs.length) (K : Int) :
    Calls Tryz.prog 56 #[.pointer (some ⟨mg, 0, none⟩), .int .u64 ((1024 * (1 + r) : Nat) : Int), .int .i64 K] w fun e w' => (∃ a b : Int, e = .returned (.tuple #[.int .i64 a, .int .i64 b])) ∧ (∀ u, w.cell? ⟨gw, 1, none⟩ = some u → w'.cell? ⟨gw, 1, none⟩ = some u) ∧ ∃ z', Step6 z z' ∧ GD w0 P0 B size gg mg gs gw (RQ z') w' := by
  have G0 := G
  obtain ⟨y, z, n, xs, G, h1, rfl, h3, h4, rfl, h5, h6⟩ := G
  obtain ⟨fs, g⟩ := G.gm
  by_cases hk : K < 0
  · exact (evict_arg g.pm _ _ hk).mono fun e w' ⟨he, hw⟩ => by
      subst hw
      exact ⟨⟨_, _, he⟩, fun u h => h, z, .stay z, G0⟩
  · obtain ⟨K', rfl⟩ : ∃ K' : Nat, K = (K' : Int) := ⟨K.toNat, by omega⟩
    have hsz := g.size
    have hln := g.pm.plen
    exact (evict_ok g.pm g.ok (1024 * (1 + r)) K' (by omega) (by omega)).mono fun e w' ⟨he, m', hm', t'⟩ =>
      ⟨⟨_, _, he⟩, fun u h => t'.but.cell h (by rw [← h4]; exact (G.far G.w6.row.tag (by decide)).1), _, .ev z (1024 * (1 + r) / 64) _ (by omega) (Nat.min_le_right _ _), _, _, _, _, G.onMem hm' (last_Ok g.ok (by omega) (Nat.min_le_right _ _)) rfl t', h1, t'.g, h3, h4, rfl, h5, h6⟩
theorem GD.clsCell (hI : W6Is z.hs z.cls z.L) (G : GD w0 P0 B size gg mg gs gw (RQ z) w) : ∃ A c, w.cell? ⟨gw, 1, none⟩ = some (.slice A z.hs.length c) := by
  obtain ⟨y, z, n, xs, G, h1, h2, h3, rfl, rfl, h5, h6⟩ := G
  obtain ⟨A, cap, hv, _⟩ := own_sl G.w6.cls
  have h := G.w6.row.cell 1
  rw [hv] at h
  refine ⟨A, cap, h.trans ?_⟩
  rw [hI.cls, List.length_map]
  rfl
theorem GD.hpos (G : GD w0 P0 B size gg mg gs gw (RQ z) w) : 0 < z.hs.length := by
  obtain ⟨y, z, n, xs, ⟨_, ⟨fs, g⟩, _⟩, h1, h2, h3, h4, rfl, _⟩ := G
  exact g.mem.pos
theorem GD.pub_arg (G : GD w0 P0 B size gg mg gs gw (RQ z) w) {c : Int} (hc : ¬ (0 ≤ c ∧ c ≤ 64)) (a : Int) :
    Calls Tryz.prog 31 #[.pointer (some ⟨gs, 0, none⟩), .pointer (some ⟨mg, 0, none⟩), .int .i64 c, .int .u64 a] w fun e w' => e = .returned (.tuple #[.pointer none, .int .i64 2]) ∧ GD w0 P0 B size gg mg gs gw (RQ z) w' := by
  obtain ⟨y, z, n, xs, G, h1, rfl, rfl, h4, rfl, h6⟩ := G
  obtain ⟨fs, g⟩ := G.gm
  have hf : fitsM z.s.nl z.hs.length c = false := by
    unfold fitsM
    rw [inB_no (by omega), Bool.and_false]
  exact (publish_arg g.mem g.pm hf a).mono fun e w' ⟨he, hb⟩ => ⟨he, y, z, n, xs, G.below hb, h1, rfl, rfl, h4, rfl, h6⟩
theorem GD.pub_state (G : GD w0 P0 B size gg mg gs gw (RQ z) w) {c : Int} (hc : 0 ≤ c ∧ c ≤ 64) {a v : Nat} (hv : isAt z.hs a v) (hn : v ≠ 1) :
    Calls Tryz.prog 31 #[.pointer (some ⟨gs, 0, none⟩), .pointer (some ⟨mg, 0, none⟩), .int .i64 c, .int .u64 (a : Int)] w fun e w' => e = .returned (.tuple #[.pointer none, .int .i64 7]) ∧ GD w0 P0 B size gg mg gs gw (RQ z) w' := by
  obtain ⟨y, z, n, xs, G, h1, rfl, rfl, h4, rfl, h6⟩ := G
  obtain ⟨fs, g⟩ := G.gm
  have hf : fitsM z.s.nl z.hs.length c = true := by
    unfold fitsM
    rw [inB_yes hc, Bool.and_true]
    exact decide_eq_true g.size
  exact (publish_state g.mem g.ho g.rs.1 g.pm hf hv hn).mono fun e w' ⟨he, hb⟩ => ⟨he, y, z, n, xs, G.below hb, h1, rfl, rfl, h4, rfl, h6⟩
theorem GD.pub_ok (G : GD w0 P0 B size gg mg gs gw (RQ z) w) {cl : Nat} (hc : cl ≤ 64) {i j a : Nat} {x : Hd} (hx : z.hs[i]? = some x) (hj : x.bl[j]? = some 1) (ha : adr x.no x.cls j = a) :
    Calls Tryz.prog 31 #[.pointer (some ⟨gs, 0, none⟩), .pointer (some ⟨mg, 0, none⟩), .int .i64 (cl : Int), .int .u64 (a : Int)] w fun e w' => ∃ gt, e = .returned (.tuple #[.pointer (some ⟨gt, 0, none⟩), .int .i64 0]) ∧ BegD w0 P0 B size gg mg gs gw z i j x 4 cl gt w' := by
  obtain ⟨y, z, n, xs, G, h1, rfl, rfl, h4, rfl, h5, h6⟩ := G
  obtain ⟨fs, g⟩ := G.gm
  have hf : fitsM z.s.nl z.hs.length (cl : Int) = true := by
    unfold fitsM
    rw [inB_yes (by omega), Bool.and_true]
    exact decide_eq_true g.size
  refine (publish_ok g.mem g.ho g.rs g.pm hf hx hj ha).mono fun e w' ⟨gt, he, hr, hgt, hm, t⟩ => ⟨gt, he, ?_⟩
  exact ⟨_, n, xs, G.onSlab hm (g.ho.set_bl hx) (g.fo.turn hx hj (by decide) (by decide)) (by simp) t, h1, rfl, rfl, h4, h5, h6, hr, Nat.le_trans G.w0w hgt, fun u hu => by have := (G.tat hu).lt; omega⟩
theorem GD.free_arg (G : GD w0 P0 B size gg mg gs gw (RQ z) w) {c : Int} (hc : ¬ (0 ≤ c ∧ c ≤ 64)) (a : Int) :
    Calls Tryz.prog 54 #[.pointer (some ⟨gs, 0, none⟩), .pointer (some ⟨mg, 0, none⟩), .int .i64 c, .int .u64 a] w fun e w' => e = .returned (.tuple #[.pointer none, .int .i64 2]) ∧ GD w0 P0 B size gg mg gs gw (RQ z) w' := by
  obtain ⟨y, z, n, xs, G, h1, rfl, rfl, h4, rfl, h6⟩ := G
  obtain ⟨fs, g⟩ := G.gm
  have hf : fitsM z.s.nl z.hs.length c = false := by
    unfold fitsM
    rw [inB_no (by omega), Bool.and_false]
  exact (Go.Proofs.YtahojhaeebmpoaaGreatDoor.free_arg g.mem g.pm hf a).mono fun e w' ⟨he, hb⟩ => ⟨he, y, z, n, xs, G.below hb, h1, rfl, rfl, h4, rfl, h6⟩
theorem GD.free_state (G : GD w0 P0 B size gg mg gs gw (RQ z) w) {c : Int} (hc : 0 ≤ c ∧ c ≤ 64) {a v : Nat} (hv : isAt z.hs a v) (hn : v ≠ 2) :
    Calls Tryz.prog 54 #[.pointer (some ⟨gs, 0, none⟩), .pointer (some ⟨mg, 0, none⟩), .int .i64 c, .int .u64 (a : Int)] w fun e w' => e = .returned (.tuple #[.pointer none, .int .i64 7]) ∧ GD w0 P0 B size gg mg gs gw (RQ z) w' := by
  obtain ⟨y, z, n, xs, G, h1, rfl, rfl, h4, rfl, h6⟩ := G
  obtain ⟨fs, g⟩ := G.gm
  have hf : fitsM z.s.nl z.hs.length c = true := by
    unfold fitsM
    rw [inB_yes hc, Bool.and_true]
    exact decide_eq_true g.size
  exact (Go.Proofs.YtahojhaeebmpoaaGreatDoor.free_state g.mem g.ho g.rs.1 g.pm hf hv hn).mono fun e w' ⟨he, hb⟩ => ⟨he, y, z, n, xs, G.below hb, h1, rfl, rfl, h4, rfl, h6⟩
theorem GD.free_ok (G : GD w0 P0 B size gg mg gs gw (RQ z) w) {cl : Nat} (hc : cl ≤ 64) {i j a : Nat} {x : Hd} (hx : z.hs[i]? = some x) (hj : x.bl[j]? = some 2) (ha : adr x.no x.cls j = a) :
    Calls Tryz.prog 54 #[.pointer (some ⟨gs, 0, none⟩), .pointer (some ⟨mg, 0, none⟩), .int .i64 (cl : Int), .int .u64 (a : Int)] w fun e w' => ∃ gt, e = .returned (.tuple #[.pointer (some ⟨gt, 0, none⟩), .int .i64 0]) ∧ BegD w0 P0 B size gg mg gs gw z i j x 3 cl gt w' := by
  obtain ⟨y, z, n, xs, G, h1, rfl, rfl, h4, rfl, h5, h6⟩ := G
  obtain ⟨fs, g⟩ := G.gm
  have hf : fitsM z.s.nl z.hs.length (cl : Int) = true := by
    unfold fitsM
    rw [inB_yes (by omega), Bool.and_true]
    exact decide_eq_true g.size
  refine (Go.Proofs.YtahojhaeebmpoaaGreatDoor.free_ok g.mem g.ho g.rs g.pm hf hx hj ha).mono fun e w' ⟨gt, he, hr, hgt, hm, t⟩ => ⟨gt, he, ?_⟩
  exact ⟨_, n, xs, G.onSlab hm (g.ho.set_bl hx) (g.fo.turn hx hj (by decide) (by decide)) (by simp) t, h1, rfl, rfl, h4, h5, h6, hr, Nat.le_trans G.w0w hgt, fun u hu => by have := (G.tat hu).lt; omega⟩
theorem GD.start_arg {c : Int} (hc : ¬ (0 ≤ c ∧ c ≤ 64)) (G : GD w0 P0 B size gg mg gs gw (RQ z) w) (a was now tt : Nat) :
    Calls Tryz.prog 53 #[.pointer (some ⟨gg, 0, none⟩), .int .u64 (a : Int), .int .i64 c, .int .i64 (was : Int), .int .i64 (now : Int), .int .i64 (tt : Int), .pointer none, .int .i64 2] w fun e w' => e = .returned (.bool true) ∧ GD w0 P0 B size gg mg gs gw (RQ z) w' :=
  (start6_arg (gg := gg) (a := a) (now := now) (tt := tt) hc).mono fun e w' ⟨he, hw⟩ => by subst hw; exact ⟨he, G⟩
theorem GD.start_state {c : Int} (hc : 0 ≤ c ∧ c ≤ 64) (G : GD w0 P0 B size gg mg gs gw (RQ z) w) (hL : z.L.length ≤ 1000000) {a was : Nat} (now tt : Nat) (hw : isL z.L a ≠ was) :
    Calls Tryz.prog 53 #[.pointer (some ⟨gg, 0, none⟩), .int .u64 (a : Int), .int .i64 c, .int .i64 (was : Int), .int .i64 (now : Int), .int .i64 (tt : Int), .pointer none, .int .i64 7] w fun e w' => e = .returned (.bool true) ∧ GD w0 P0 B size gg mg gs gw (RQ z) w' := by
  have G0 := G
  obtain ⟨y, z, n, xs, G, rfl, h2, h3, rfl, rfl, h6⟩ := G
  exact (start6_state (now := now) (tt := tt) G.row G.w6 hL hc hw).mono fun e w' ⟨he, hw⟩ => by subst hw; exact ⟨he, G0⟩
theorem BegD.start {N i j u v cl gt a : Nat} {x : Hd} (G : BegD w0 P0 B size gg mg gs gw z i j x v cl gt w) (hI : Inv6 N z) (hN : N ≤ 900) (hc : cl ≤ 64) (hx : z.hs[i]? = some x) (hj : x.bl[j]? = some u) (ha : adr x.no x.cls j = a) (huv : u = 1 ∧ v = 4 ∨ u = 2 ∧ v = 3) :
    Calls Tryz.prog 53 #[.pointer (some ⟨gg, 0, none⟩), .int .u64 (a : Int), .int .i64 (cl : Int), .int .i64 (u : Int), .int .i64 (v : Int), .int .i64 (settled v : Int), .pointer (some ⟨gt, 0, none⟩), .int .i64 0] w fun e w' => e = .returned (.bool true) ∧ ∃ z', Step6 z z' ∧ z' = ⟨z.s, z.hs.set i { x with bl := x.bl.set j v }, z.cls, setL z.L a v, z.T ++ [⟨gt, i, j, a, cl, 0, v⟩]⟩ ∧ GD w0 P0 B size gg mg gs gw (RQ z') w' := by
  obtain ⟨y, n, xs, G, rfl, h2, h3, rfl, rfl, rfl, T, hgt, hne⟩ := G
  have hjl := (List.getElem?_eq_some_iff.1 hj).1
  have hL := hI.ll
  have hw : isL z.L a = u := hI.wis.at_ a u (.inl ⟨i, j, x, hx, hjl, ha, hj⟩)
  refine (start6_ok (now := v) (tt := settled v) (gt := gt) G.row G.w6 G.tn (by show z.L.length ≤ _; omega) G.bw (by have := hI.tl; omega) (c := (cl : Int)) ⟨by omega, by omega⟩ hw).mono fun e w' ⟨he, vl', vt', hr, h6, htn, hv, hb⟩ => ⟨he, _, .start z i j x u v gt cl hx hj huv hc, by rw [ha], ?_⟩
  have hb2 : But w w' (fun q => q = y.gw ∨ q = y.gg ∨ y.vt.ownBlock = some q ∨ y.vc.ownBlock = some q) := hb.mono fun k h => by
    rcases h with h | h | h
    · exact .inl h
    · exact .inr (.inl h)
    · exact .inr (.inr (.inl h))
  have G2 := G.own hr h6 htn hb2 hv
  have Tr : Row w gt 165 _ := T
  have T2 : TAt w' y.m y.s gt (cl : Int) i j (plF 0) false 0 := hb.row Tr fun h => by
    rcases h with h | h | h
    · exact tagNe Tr.tag G.w6.row.tag (by decide) h
    · exact tagNe Tr.tag G.row.tag (by decide) h
    · exact tagNe Tr.tag (own_tag G.tn h) (by decide) rfl
  have G3 := G2.turns (z.T ++ [⟨gt, i, j, a, cl, 0, v⟩]) (fun u hu => by
    rcases List.mem_append.1 hu with h | h
    · exact G2.ta u h
    · rw [List.mem_singleton.1 h]; exact T2) (by
    rw [List.map_append, List.nodup_append]
    refine ⟨G.gts, by simp, fun p hp r hr e => ?_⟩
    obtain ⟨u, hu, rfl⟩ := List.mem_map.1 hp
    simp at hr
    exact hne u hu (e.trans hr)) (fun u hu => by
    rcases List.mem_append.1 hu with h | h
    · exact G2.tfp (t := u) h
    · rw [List.mem_singleton.1 h]; exact .inr hgt)
  refine ⟨_, _, _, _, G3, rfl, h2, h3, rfl, by rw [ha], by simp, ?_⟩
  rw [flatT_snoc]
  rw [ha]
end
end Go.Proofs.YtahojhaeebmpoaaGreatDoor
/- The law's game within one of its acts: what holds at each moment. -/
namespace Go.Proofs.YtahojhaeebmpoaaGreatDoor
open Go Go.RowKit Go.Sort
set_option linter.unusedVariables false
def SG6 (gg ad mg gs gw : Nat) (n : Int) (a : Nat) (c : Int) (W : World) : Prop :=
  W.cell? ⟨gg, 0, none⟩ = some (.pointer (some ⟨mg, 0, none⟩)) ∧ W.cell? ⟨gg, 1, none⟩ = some (.pointer (some ⟨gs, 0, none⟩)) ∧ W.cell? ⟨gg, 2, none⟩ = some (.pointer (some ⟨gw, 0, none⟩)) ∧
  W.cell? ⟨ad, 1, none⟩ = some (.int .i64 n) ∧ W.cell? ⟨ad, 2, none⟩ = some (.int .u64 (a : Int)) ∧ W.cell? ⟨ad, 3, none⟩ = some (.int .i64 c)
def AA6 (W1 : World) (P : Nat → Prop) (ad : Nat) (k n : Int) (a : Nat) (c : Int) : Prop := Row W1 ad 45 #[.int .i64 k, .int .i64 n, .int .u64 (a : Int), .int .i64 c] ∧ ¬ P ad
section
variable {w0 w w' W1 : World} {P0 P : Nat → Prop} {B size gg mg gs gw ad : Nat} {Q : World → Z6 → S6 → Nat → List Value → Prop} {z : S6} {k n c : Int} {a : Nat}
theorem G6.sg {y : Z6} {m : Nat} {xs : List Value} (G : G6 W1 P w B size y z m xs) (A : AA6 W1 P ad k n a c) : SG6 y.gg ad y.m.g y.s.gs y.gw n a c w := by
  have hr := G.but.row A.1 A.2
  refine ⟨?_, ?_, ?_, ?_, ?_, ?_⟩
  · rw [G.row.cell]; rfl
  · rw [G.row.cell]; rfl
  · rw [G.row.cell]; rfl
  · rw [hr.cell]; rfl
  · rw [hr.cell]; rfl
  · rw [hr.cell]; rfl
theorem GD.sg (G : GD W1 P B size gg mg gs gw Q w) (A : AA6 W1 P ad k n a c) : SG6 gg ad mg gs gw n a c w := by
  obtain ⟨y, z, m, xs, G, rfl, rfl, rfl, rfl, _⟩ := G
  exact G.sg A
theorem ResD.sg {q : Nat} {X E : Int} (G : ResD W1 P B size gg mg gs gw z q X E w) (A : AA6 W1 P ad k n a c) : SG6 gg ad mg gs gw n a c w := by
  obtain ⟨_, _, _, _, G⟩ := G
  exact G.sg A
theorem BegD.sg {i j v cl gt : Nat} {x : Hd} (G : BegD W1 P B size gg mg gs gw z i j x v cl gt w) (A : AA6 W1 P ad k n a c) : SG6 gg ad mg gs gw n a c w := by
  obtain ⟨y, m, xs, G, rfl, rfl, rfl, rfl, _⟩ := G
  exact G.sg A
theorem ResD.drew {q : Nat} {X E : Int} (G : ResD W1 P B size gg mg gs gw z q X E w) : ResD W1 P B size gg mg gs gw z q X E w.drew := by
  obtain ⟨h1, h2, h3, h4, G⟩ := G
  exact ⟨h1, h2, h3, h4, G.drew⟩
theorem G6.fp_lt {y : Z6} {m : Nat} {xs : List Value} (G : G6 W1 P w B size y z m xs) {q : Nat} (hq : y.fp z.T q) : q < w.heap.size := by
  obtain ⟨fs, g⟩ := G.gm
  rcases hq with h | h | h | h | h | h | ⟨t, ht, h⟩
  · exact g.pm.lt _ h
  · exact g.mem.lt h
  · rw [h]; exact G.row.lt
  · rw [h]; exact G.w6.row.lt
  · exact (own_tag G.tn h).lt
  · exact (own_tag G.w6.cls h).lt
  · rw [h]; exact (G.tat ht).lt
theorem GD.start (G : GD w0 P0 B size gg mg gs gw (RQ z) w) (k n c : Int) (a : Nat) :
    ∃ W1 P, GD W1 P B size gg mg gs gw (RQ z) (w.alloc (.cells #[.int .i64 k, .int .i64 n, .int .u64 (a : Int), .int .i64 c] 45)) ∧ AA6 W1 P w.heap.size k n a c ∧ ∀ z' w', GD W1 P B size gg mg gs gw (RQ z') w' → GD w0 P0 B size gg mg gs gw (RQ z') w' := by
  have hb := alloc_below w (.cells #[.int .i64 k, .int .i64 n, .int .u64 (a : Int), .int .i64 c] 45)
  have hA : Row (w.alloc (.cells #[.int .i64 k, .int .i64 n, .int .u64 (a : Int), .int .i64 c] 45)) w.heap.size 45 #[.int .i64 k, .int .i64 n, .int .u64 (a : Int), .int .i64 c] := Row.new _ _ _
  obtain ⟨y, z, m, xs, g, h1, h2, h3, h4, h5⟩ := G
  have g2 := g.below hb
  have hpb : ∀ q, y.fp z.T q → B ≤ q := fun q hq => by
    rcases g.fp q hq with h | h
    · exact g.pb q h
    · exact Nat.le_trans g.wb h
  refine ⟨_, y.fp z.T, ⟨y, z, m, xs, { g2 with but := But.refl _ _, fp := fun q hq => .inl hq, pb := hpb, wb := g2.bw }, h1, h2, h3, h4, h5⟩, ⟨hA, fun h => Nat.lt_irrefl _ (g.fp_lt h)⟩, ?_⟩
  rintro z' w' ⟨y', z2, m', xs', G', e1, e2, e3, e4, e5⟩
  exact ⟨y', z2, m', xs', { G' with
    but := g2.but.more G'.but (fun q hq => g.fp q hq)
    pb := g.pb
    wb := g.wb
    fp := fun q hq => by
     rcases G'.fp q hq with h | h
     · exact g.fp q h
     · exact .inr (Nat.le_trans g2.w0w h) }, e1, e2, e3, e4, e5⟩
end
theorem r6Res_arg {w : World} {gw : Nat} {c : Int} (hc : ¬ (1 ≤ c ∧ c ≤ 3)) : Calls Tryz.prog 27 #[.pointer (some ⟨gw, 0, none⟩), .int .i64 c] w fun e w' => e = .returned (.tuple #[.int .u64 0, .int .i64 2]) ∧ w = w' := by
  by_cases h1 : c < 1
  · have d1 : decide (c < 1) = true := by simp; omega
    clear hc
    go_enter Tryz.func27, Tryz.ntmps27
    go_wp2
    go_ret2
    exact ⟨rfl, rfl⟩
  · have d1 : decide (c < 1) = false := by simp; omega
    have d2 : decide (3 < c) = true := by simp; omega
    clear hc
    go_enter Tryz.func27, Tryz.ntmps27
    go_wp2
    go_ret2
    exact ⟨rfl, rfl⟩
def Do6P (w0 : World) (P0 : Nat → Prop) (B size gg mg gs gw : Nat) (z : S6) (R : S6 → Prop) (e : Ending) (w' : World) : Prop := e = .returned (.bool true) ∧ ∃ z', Step6 z z' ∧ R z' ∧ GD w0 P0 B size gg mg gs gw (RQ z') w'
end Go.Proofs.YtahojhaeebmpoaaGreatDoor
/- A step of a turn in the law's game: what holds at each moment, and what its stores, its appends leave. -/
namespace Go.Proofs.YtahojhaeebmpoaaGreatDoor
open Go Go.RowKit Go.Sort
set_option linter.unusedVariables false
theorem own_at4 {w : World} {B n : Nat} {v : Value} {xs : List Value} (h : w.ownsRow B 154 4 v n xs) : ∃ A c, v = .slice A n c := by
  rcases h.2 with ⟨rfl, h0⟩ | ⟨g, cap, cur, rfl, _⟩
  · subst h0; exact ⟨_, _, rfl⟩
  · exact ⟨_, _, rfl⟩
theorem own_form4 {w : World} {B n : Nat} {v : Value} {xs : List Value} (h : w.ownsRow B 154 4 v n xs) (hn : 0 < n) : ∃ g cap, v = .slice (some ⟨g, 0, none⟩) n cap ∧ n ≤ cap := by
  rcases h.2 with ⟨_, h0⟩ | ⟨g, cap, cur, rfl, _, _, hnc, _⟩
  · omega
  · exact ⟨g, cap, rfl, hnc⟩
theorem own_cellset {w : World} {B n k g j : Nat} {e : TypeId} {A : Option Addr} {m c : Nat} {xs : List Value} (h : w.ownsRow B e k (.slice A m c) n xs) (hg : A = some ⟨g, 0, none⟩) (u : Value) (hj : j < xs.length) : (w.setCell ⟨g, j, none⟩ u).ownsRow B e k (.slice A m c) n (xs.set j u) := by
  subst hg
  refine ⟨by rw [List.length_set]; exact h.1, ?_⟩
  rcases h.2 with ⟨h0, _⟩ | ⟨g2, cap, cur, hv, hB, hgr, hnc, hcm, hcs, htake⟩
  · cases h0
  · cases hv
    refine .inr ⟨g, c, cur.setIfInBounds j u, rfl, hB, heap_setCell_same w g j cur e u hgr, hnc, hcm, by rw [Array.size_setIfInBounds]; exact hcs, ?_⟩
    rw [Array.toList_setIfInBounds, List.take_set, htake]
section
variable {w0 w w' : World} {P0 : Nat → Prop} {B size gg mg gs gw n : Nat} {vt : Value} {z : S6} {xs : List Value}
theorem TD.below (G : TD w0 P0 B size gg mg gs gw vt z n xs w) (hb : Below w.heap.size w w') : TD w0 P0 B size gg mg gs gw vt z n xs w' := by
  obtain ⟨y, G, h⟩ := G
  exact ⟨y, G.below hb, h⟩
theorem TD.own (G : TD w0 P0 B size gg mg gs gw vt z n xs w) : w.ownsRow B 154 4 vt n xs := by
  obtain ⟨y, G, h1, h2, h3, h4, rfl⟩ := G
  exact G.tn
def ST6 (gg mg gw tb m cap o : Nat) (x0 x1 x2 x3 : Value) (W : World) : Prop :=
  W.cell? ⟨gg, 0, none⟩ = some (.pointer (some ⟨mg, 0, none⟩)) ∧ W.cell? ⟨gg, 2, none⟩ = some (.pointer (some ⟨gw, 0, none⟩)) ∧ W.cell? ⟨gg, 3, none⟩ = some (.slice (some ⟨tb, 0, none⟩) m cap) ∧
  W.cell? ⟨tb, o * 4, none⟩ = some x0 ∧ W.cell? ⟨tb, o * 4 + 1, none⟩ = some x1 ∧ W.cell? ⟨tb, o * 4 + 2, none⟩ = some x2 ∧ W.cell? ⟨tb, o * 4 + 3, none⟩ = some x3
theorem own_cell4 {w : World} {B n g : Nat} {v : Value} {xs : List Value} (h : w.ownsRow B 154 4 v n xs) (hg : v.ownBlock = some g) {j : Nat} {u : Value} (hj : xs[j]? = some u) : w.cell? ⟨g, j, none⟩ = some u := by
  have := h.cells hg j u hj
  rwa [Addr.add_lit, Nat.zero_add] at this
theorem TD.st {tb m cap : Nat} {U : List Tu} (G : TD w0 P0 B size gg mg gs gw (.slice (some ⟨tb, 0, none⟩) m cap) z n (flatT U) w) {q : Nat} {t : Tu} (ht : U[q]? = some t) :
    ST6 gg mg gw tb m cap q (.pointer (some ⟨t.gt, 0, none⟩)) (.int .u64 (t.a : Int)) (.int .i64 (settled t.v : Int)) (.int .i64 (t.k : Int)) w := by
  have ho := G.own
  obtain ⟨y, G, rfl, rfl, rfl, rfl, hv⟩ := G
  have hf := flatT_get U q t ht
  have hr := G.row
  rw [hv] at hr
  refine ⟨?_, ?_, ?_, own_cell4 ho rfl hf.1, own_cell4 ho rfl hf.2.1, own_cell4 ho rfl hf.2.2.1, own_cell4 ho rfl hf.2.2.2⟩
  · rw [hr.cell]; rfl
  · rw [hr.cell]; rfl
  · rw [hr.cell]; rfl
theorem TD.free {tb m cap : Nat} (G : TD w0 P0 B size gg mg gs gw (.slice (some ⟨tb, 0, none⟩) m cap) z n xs w) (j : Nat) : w.frozen? ⟨tb, j, none⟩ = false := by
  have ho := G.own
  rcases ho.2 with ⟨h0, _⟩ | ⟨g2, cap2, cur, hv, hB, hgr, _⟩
  · cases h0
  · cases hv
    exact frozen_of_row w tb j cur 154 hgr
theorem TD.gfree (G : TD w0 P0 B size gg mg gs gw vt z n xs w) (j : Nat) : w.frozen? ⟨gg, j, none⟩ = false := by
  obtain ⟨y, G, rfl, _⟩ := G
  exact G.row.free j
theorem TD.g3 (G : TD w0 P0 B size gg mg gs gw vt z n xs w) : w.cell? ⟨gg, 3, none⟩ = some vt := by
  obtain ⟨y, G, rfl, h2, h3, h4, rfl⟩ := G
  rw [G.row.cell]; rfl
theorem TD.setk {tb m cap : Nat} {U : List Tu} (G : TD w0 P0 B size gg mg gs gw (.slice (some ⟨tb, 0, none⟩) m cap) z n (flatT U) w) {q : Nat} {t : Tu} (ht : U[q]? = some t) (k : Nat) :
    TD w0 P0 B size gg mg gs gw (.slice (some ⟨tb, 0, none⟩) m cap) z n (flatT (U.set q { t with k := k })) (w.setCell ⟨tb, q * 4 + 3, none⟩ (.int .i64 (k : Int))) := by
  have ho := G.own
  obtain ⟨y, G, rfl, rfl, rfl, rfl, hv⟩ := G
  have hq := (List.getElem?_eq_some_iff.1 ht).1
  have ho2 := own_cellset ho rfl (jv k) (j := q * 4 + 3) (by rw [flatT_len]; omega)
  rw [flatT_setk U q t k ht] at ho2
  have htag : Tag w tb 154 := own_tag ho rfl
  have hr : Row (w.setCell ⟨tb, q * 4 + 3, none⟩ (.int .i64 (k : Int))) y.gg 51 _ := G.row.other (tagNe G.row.tag htag (by decide)) _
  have h6 : W6At (w.setCell ⟨tb, q * 4 + 3, none⟩ (.int .i64 (k : Int))) B y.gw size z.cls z.L y.vc y.vl :=
    ⟨G.w6.row.other (tagNe G.w6.row.tag htag (by decide)) _, own_setc G.w6.cls _ (fun g hg => tagNe (own_tag G.w6.cls hg) htag (by decide)), own_setc G.w6.bl _ (fun g hg => tagNe (own_tag G.w6.bl hg) htag (by decide)), G.w6.low⟩
  have hb : But w (w.setCell ⟨tb, q * 4 + 3, none⟩ (.int .i64 (k : Int))) (fun p => p = y.gw ∨ p = y.gg ∨ y.vt.ownBlock = some p ∨ y.vc.ownBlock = some p) := (But.refl _ _).set (.inr (.inr (.inl (by rw [hv]; rfl)))) _
  have G2 := G.own hr h6 (vt' := y.vt) (by rw [hv]; exact ho2) hb (.inl rfl)
  exact ⟨_, G2, rfl, rfl, rfl, rfl, hv⟩
theorem TD.set (G : TD w0 P0 B size gg mg gs gw vt z n xs w) (hL : z.L.length ≤ 1000000) (a v : Nat) :
    Calls Tryz.prog 52 #[.pointer (some ⟨gw, 0, none⟩), .int .u64 (a : Int), .int .i64 (v : Int)] w fun e w' => e = .returned (.tuple #[]) ∧ TD w0 P0 B size gg mg gs gw vt ⟨z.s, z.hs, z.cls, setL z.L a v, z.T⟩ n xs w' := by
  obtain ⟨y, G, h1, h2, h3, rfl, h5⟩ := G
  refine (r6Set_any G.w6 hL G.bw a v).mono fun e w' ⟨vl', W1, he, h6, hb, hw⟩ => ⟨he, ?_⟩
  subst hw
  have hbut : But w (W1.setCell ⟨y.gw, 2, none⟩ vl') (fun q => q = y.gw) := but_set6 hb rfl
  have hr : Row (W1.setCell ⟨y.gw, 2, none⟩ vl') y.gg 51 _ := hbut.row G.row (tagNe G.row.tag G.w6.row.tag (by decide))
  have ht := own_block G.tn fun k hk => hbut.block k (own_tag G.tn hk).lt (tagNe (own_tag G.tn hk) G.w6.row.tag (by decide))
  exact ⟨_, G.own hr h6 ht (hbut.mono fun k h => .inl h) (.inl rfl), h1, h2, h3, rfl, h5⟩
theorem TD.slice (G : TD w0 P0 B size gg mg gs gw vt z n xs w) {W : World} (hb : Below w.heap.size w W) {v' : Value} {n' : Nat} {xs' : List Value} (ho : W.ownsRow w.heap.size 154 4 v' n' xs') :
    TD w0 P0 B size gg mg gs gw v' z n' xs' (W.setCell ⟨gg, 3, none⟩ v') := by
  obtain ⟨y, G, rfl, rfl, rfl, rfl, rfl⟩ := G
  have hB := G.bw
  have hr0 := G.row.below hb G.row.lt
  have h60 := G.w6.below hb
  have hr : Row (W.setCell ⟨y.gg, 3, none⟩ v') y.gg 51 #[fpt y.m.g, fpt y.s.gs, fpt y.gw, v'] := hr0.set 3 v'
  have h6 := h60.setc (p := ⟨y.gg, 3, none⟩) v' hr0.tag
  have ho2 : (W.setCell ⟨y.gg, 3, none⟩ v').ownsRow B 154 4 v' n' xs' := own_setc (own_less ho hB) v' (fun g hg => tagNe (own_tag ho hg) hr0.tag (by decide))
  have hbut : But w (W.setCell ⟨y.gg, 3, none⟩ v') (fun p => p = y.gw ∨ p = y.gg ∨ y.vt.ownBlock = some p ∨ y.vc.ownBlock = some p) := But.set (But.of_below hb _) (.inr (.inl rfl)) _
  exact ⟨_, G.own hr h6 ho2 hbut (.inr fun k hk => own_base ho hk), rfl, rfl, rfl, rfl, rfl⟩
end
theorem info_turn6 : (Tryz.prog.info? 154).map (fun i => (i.zero, i.size, i.bytes)) = some (some (.agg #[.pointer none, .int .u64 0, .int .i64 0, .int .i64 0]), 4, 32) := by kernel_rfl
theorem step_app6 {ops : Array Oper} {o : Oper} {a : Act} {w : World} {K : Act → World → Prop} {Q : Exit → Act → World → Prop} {E : Prop} (hw : Region.wanted o (yielded ops a.tmps) = true) (s x : Operand)
    (ho : o.op = .call { callee := .builtin .append, args := #[s, x], argTypes := #[49, 49] }) (B : Nat) (V : Value) (n : Nat) (xs : List Value) (hs : a.eval s = V) (hown : w.ownsRow B 154 4 V n xs)
    (ad : Addr) (m c : Nat) (news : List Value) (hx : a.eval x = .slice (some ad) m c) (hl : news.length = m * 4) (hc : ∀ j u, news[j]? = some u → w.cell? (ad.add j) = some u) (h1 : ∀ u ∈ news, u.oneCell' = true) (hn : n + m ≤ 1000000) (hB : B ≤ w.heap.size)
    (h : ∀ v' w', w'.ownsRow B 154 4 v' (n + m) (xs ++ news) → w.grownBy w' V.ownBlock → K (a.put o.dst v') w') : if Region.wanted o (yielded ops a.tmps) = true then Oper.wp Tryz.prog o a w K Q else E := by
  rw [if_pos hw]
  obtain ⟨i0, hi, hz0, hz1, hz2⟩ := info_parts info_turn6
  obtain ⟨v', w', hr, h2, h3, _⟩ := run_append_own_at (P := Tryz.prog) w B 49 o.type 154 i0 (.agg #[.pointer none, .int .u64 0, .int .i64 0, .int .i64 0]) 4 32 Tryz.underlying49 hi hz0 hz1 hz2 rfl (by decide) V n xs hown ad m c news hl hc h1 (by unfold maxLen; omega) (by omega) hB
  unfold Oper.wp execOp
  simp only [ho, resolve, invoke, builtin, Sem.run_bind, Sem.run_pure, Result.andThen_ok, List.map_toArray, List.map_cons, List.map_nil, hs, hx, hr]
  exact h v' w' h2 h3
theorem flatT_ones (T : List Tu) : ∀ u ∈ flatT T, u.oneCell' = true := by
  intro u hu
  obtain ⟨t, _, h⟩ := List.mem_flatMap.1 hu
  simp [turn6V] at h
  rcases h with rfl | rfl | rfl | rfl <;> rfl
def finT (z : S6) (q : Nat) (t : Tu) (x : Hd) : S6 := if t.k = 3 then ⟨z.s.fence t.cl, z.hs.set t.i { x with bl := x.bl.set t.j (settled t.v) }, z.cls, setL z.L t.a (settled t.v), z.T.eraseIdx q⟩ else stepT z q t x
theorem finT_step {n : Nat} {z : S6} {q : Nat} {t : Tu} {x : Hd} (hI : Inv6 n z) (ht : z.T[q]? = some t) (hx : z.hs[t.i]? = some x) : Step6 z (finT z q t x) := by
  obtain ⟨_, _, _, _, _, hk3, _⟩ := hI.tn t (List.mem_of_getElem? ht)
  unfold finT stepT
  by_cases h3 : t.k = 3
  · rw [if_pos h3]; exact .t3 z q t x ht h3 hx
  · rw [if_neg h3]
    by_cases h0 : t.k = 0
    · rw [if_pos h0]; exact .t0 z q t x ht h0 hx
    · rw [if_neg h0]
      by_cases h1 : t.k = 1
      · rw [if_pos h1]; exact .t1 z q t x ht h1 hx
      · rw [if_neg h1, if_pos (by omega)]; exact .t2 z q t x ht (by omega) hx
theorem stepT_T {z : S6} {q : Nat} {t : Tu} {x : Hd} (hk : t.k < 3) : (stepT z q t x).T = z.T.set q { t with k := t.k + 1 } := by
  unfold stepT
  by_cases h0 : t.k = 0
  · rw [if_pos h0, h0]
  · rw [if_neg h0]
    by_cases h1 : t.k = 1
    · rw [if_pos h1, h1]
    · rw [if_neg h1, if_pos (by omega), show t.k = 2 from by omega]
theorem stepT_L {z : S6} {q : Nat} {t : Tu} {x : Hd} : (stepT z q t x).L = z.L := by unfold stepT; split <;> (try split) <;> (try split) <;> rfl
end Go.Proofs.YtahojhaeebmpoaaGreatDoor
/- The law's game, an act: an eviction. -/
namespace Go.Proofs.YtahojhaeebmpoaaGreatDoor
open Go Go.RowKit Go.Sort
set_option linter.unusedVariables false
set_option maxRecDepth 100000 in
set_option maxHeartbeats 4000000 in
theorem gdo6_6 {w0 w : World} {P0 : Nat → Prop} {B size gg mg gs gw N : Nat} {z : S6} (G : GD w0 P0 B size gg mg gs gw (RQ z) w) (hI : Inv6 N z) (hN : N ≤ 700) (n : Int) (c : Int) (a : Nat) (ha : a < 18446744073709551616) :
    Calls Tryz.prog 18 #[.pointer (some ⟨gg, 0, none⟩), .agg #[.int .i64 6, .int .i64 n, .int .u64 (a : Int), .int .i64 c]] w (Do6P w0 P0 B size gg mg gs gw z (fun _ => True)) := by
  have hL := hI.ll
  obtain ⟨W1, P, hg, hA, hback⟩ := G.start 6 n c a
  have H := Lib.hid hg
  have HA := Lib.hid hA
  have HBK := Lib.hid hback
  have HI0 := Lib.hid hI
  have HOK := Lib.hid G.ok
  have EGEvict := Lib.hid (enters_of Tryz.func56 (by kernel_rfl) rfl)
  have EGsame6 := Lib.hid (enters_of Tryz.func11 (by kernel_rfl) rfl)
  have mixed : Tryz.prog.follows .mixedOrders = true := by kernel_rfl
  clear G hg hA hback hI
  obtain ⟨A, cap, hcell⟩ := GD.clsCell HI0.out.wis H.out.drew
  have hpos := GD.hpos H.out
  have hle := HOK.out.2.1
  have HEV := Lib.hid (show ∀ W, GD W1 P B size gg mg gs gw (RQ z) W → ∀ r, r < z.hs.length → ∀ K : Int, Calls Tryz.prog 56 #[.pointer (some ⟨mg, 0, none⟩), .int .u64 ((1024 * (1 + r) : Nat) : Int), .int .i64 K] W fun e w' => (∃ a b : Int, e = .returned (.tuple #[.int .i64 a, .int .i64 b])) ∧ (∀ u, W.cell? ⟨gw, 1, none⟩ = some u → w'.cell? ⟨gw, 1, none⟩ = some u) ∧ ∃ z', Step6 z z' ∧ GD W1 P B size gg mg gs gw (RQ z') w' from fun W hW r hr K => hW.evict r hr K)
  obtain ⟨m, hm⟩ : ∃ m, m = z.hs.length := ⟨_, rfl⟩
  rw [← hm] at hcell hpos hle HEV
  obtain ⟨r, hr⟩ : ∃ r : Nat, (r : Int) = (a : Int) % (m : Int) := ⟨((a : Int) % (m : Int)).toNat, by have := Int.emod_nonneg (a : Int) (show (m : Int) ≠ 0 by omega); omega⟩
  have hrm : r < m := by have := Int.emod_lt_of_pos (a : Int) (show (0 : Int) < (m : Int) by omega); omega
  have t3 : (a : Int).tmod (m : Int) = (r : Int) := by rw [Int.tmod_eq_emod_of_nonneg (by omega)]; exact hr.symm
  have t1 : IntKind.u64.wrap (m : Int) = (m : Int) := by rw [IntKind.wrap_u64]; omega
  have t4 : IntKind.i64.wrap (r : Int) = (r : Int) := by rw [IntKind.wrap_i64]; omega
  have t5 : IntKind.i64.wrap (1 + (r : Int)) = 1 + (r : Int) := by rw [IntKind.wrap_i64]; omega
  have t6 : IntKind.i64.wrap (1024 * (1 + (r : Int))) = 1024 * (1 + (r : Int)) := by rw [IntKind.wrap_i64]; omega
  have t7 : IntKind.u64.wrap (1024 * (1 + (r : Int))) = ((1024 * (1 + r) : Nat) : Int) := by rw [IntKind.wrap_u64]; omega
  have t9 : ¬ m = 0 := by omega
  have HRM := Lib.hid hrm
  have HCL := Lib.hid hcell
  clear hcell hm hr hL hpos hrm hle
  go_enter Tryz.func18, Tryz.ntmps18
  go_upto_region 25 with (fail)
  refine wp_region_noPanic ?_
  refine wp_region_held_drew (S := fun W => SG6 gg w.heap.size mg gs gw n a c W ∧ W.cell? ⟨gw, 1, none⟩ = some (.slice A m cap)) (by kernel_rfl) ⟨H.out.drew.sg HA.out, HCL.out⟩ (fun hHeld => ?_)
  have H2 := Lib.hid H.out.drew
  clear H
  have H := H2
  clear H2
  refine tkH (i := 0) (oi := ⟨some 140, _, _, _, _, _⟩) (v := .pointer (some ⟨gg, 0, none⟩)) rfl (Or.inl ⟨by kernel_rfl, by intro WW hSw; obtain ⟨⟨s0, s1, s2, s3, s4, s5⟩, s6⟩ := hSw; go_simp⟩) (by assumption) ?_
  (try simp only [Act.put, q1, q2, q3])
  refine tkH (i := 1) (oi := ⟨some 141, _, _, _, _, _⟩) (v := .pointer (some ⟨gg, 0, none⟩)) rfl (Or.inl ⟨by kernel_rfl, by intro WW hSw; obtain ⟨⟨s0, s1, s2, s3, s4, s5⟩, s6⟩ := hSw; go_simp⟩) (by assumption) ?_
  (try simp only [Act.put, q1, q2, q3])
  refine tkH (i := 2) (oi := ⟨some 142, _, _, _, _, _⟩) (v := .pointer (some ⟨gg, 0, none⟩)) rfl (Or.inl ⟨by kernel_rfl, by intro WW hSw; obtain ⟨⟨s0, s1, s2, s3, s4, s5⟩, s6⟩ := hSw; go_simp⟩) (by assumption) ?_
  (try simp only [Act.put, q1, q2, q3])
  refine tkH (i := 3) (oi := ⟨some 143, _, _, _, _, _⟩) (v := .pointer (some ⟨mg, 0, none⟩)) rfl (Or.inl ⟨by kernel_rfl, by intro WW hSw; obtain ⟨⟨s0, s1, s2, s3, s4, s5⟩, s6⟩ := hSw; go_simp⟩) (by assumption) ?_
  (try simp only [Act.put, q1, q2, q3])
  refine tkH (i := 4) (oi := ⟨some 144, _, _, _, _, _⟩) (v := .pointer (some ⟨w.heap.size, 2, none⟩)) rfl (Or.inl ⟨by kernel_rfl, by intro WW hSw; obtain ⟨⟨s0, s1, s2, s3, s4, s5⟩, s6⟩ := hSw; go_simp⟩) (by assumption) ?_
  (try simp only [Act.put, q1, q2, q3])
  refine tkH (i := 5) (oi := ⟨some 145, _, _, _, _, _⟩) (v := .int .u64 (a : Int)) rfl (Or.inl ⟨by kernel_rfl, by intro WW hSw; obtain ⟨⟨s0, s1, s2, s3, s4, s5⟩, s6⟩ := hSw; go_simp⟩) (by assumption) ?_
  (try simp only [Act.put, q1, q2, q3])
  refine tkH (i := 6) (oi := ⟨some 146, _, _, _, _, _⟩) (v := .pointer (some ⟨gg, 0, none⟩)) rfl (Or.inl ⟨by kernel_rfl, by intro WW hSw; obtain ⟨⟨s0, s1, s2, s3, s4, s5⟩, s6⟩ := hSw; go_simp⟩) (by assumption) ?_
  (try simp only [Act.put, q1, q2, q3])
  refine tkH (i := 7) (oi := ⟨some 147, _, _, _, _, _⟩) (v := .pointer (some ⟨gg, 0, none⟩)) rfl (Or.inl ⟨by kernel_rfl, by intro WW hSw; obtain ⟨⟨s0, s1, s2, s3, s4, s5⟩, s6⟩ := hSw; go_simp⟩) (by assumption) ?_
  (try simp only [Act.put, q1, q2, q3])
  refine tkH (i := 8) (oi := ⟨some 148, _, _, _, _, _⟩) (v := .pointer (some ⟨gg, 2, none⟩)) rfl (Or.inl ⟨by kernel_rfl, by intro WW hSw; obtain ⟨⟨s0, s1, s2, s3, s4, s5⟩, s6⟩ := hSw; go_simp⟩) (by assumption) ?_
  (try simp only [Act.put, q1, q2, q3])
  refine tkH (i := 9) (oi := ⟨some 149, _, _, _, _, _⟩) (v := .pointer (some ⟨gw, 0, none⟩)) rfl (Or.inl ⟨by kernel_rfl, by intro WW hSw; obtain ⟨⟨s0, s1, s2, s3, s4, s5⟩, s6⟩ := hSw; go_simp⟩) (by assumption) ?_
  (try simp only [Act.put, q1, q2, q3])
  refine tkH (i := 10) (oi := ⟨some 150, _, _, _, _, _⟩) (v := .pointer (some ⟨gw, 0, none⟩)) rfl (Or.inl ⟨by kernel_rfl, by intro WW hSw; obtain ⟨⟨s0, s1, s2, s3, s4, s5⟩, s6⟩ := hSw; go_simp⟩) (by assumption) ?_
  (try simp only [Act.put, q1, q2, q3])
  refine tkH (i := 11) (oi := ⟨some 151, _, _, _, _, _⟩) (v := .pointer (some ⟨gw, 1, none⟩)) rfl (Or.inl ⟨by kernel_rfl, by intro WW hSw; obtain ⟨⟨s0, s1, s2, s3, s4, s5⟩, s6⟩ := hSw; go_simp⟩) (by assumption) ?_
  (try simp only [Act.put, q1, q2, q3])
  refine tkH (i := 12) (oi := ⟨some 152, _, _, _, _, _⟩) (v := .slice A m cap) rfl (Or.inl ⟨by kernel_rfl, by intro WW hSw; obtain ⟨⟨s0, s1, s2, s3, s4, s5⟩, s6⟩ := hSw; go_simp⟩) (by assumption) ?_
  (try simp only [Act.put, q1, q2, q3])
  refine tkH (i := 13) (oi := ⟨some 153, _, _, _, _, _⟩) (v := .int .i64 (m : Int)) rfl (Or.inl ⟨by kernel_rfl, by intro WW hSw; obtain ⟨⟨s0, s1, s2, s3, s4, s5⟩, s6⟩ := hSw; go_simp⟩) (by assumption) ?_
  (try simp only [Act.put, q1, q2, q3])
  refine tkH (i := 14) (oi := ⟨some 154, _, _, _, _, _⟩) (v := .int .u64 (m : Int)) rfl (Or.inl ⟨by kernel_rfl, by intro WW hSw; obtain ⟨⟨s0, s1, s2, s3, s4, s5⟩, s6⟩ := hSw; go_simp⟩) (by assumption) ?_
  (try simp only [Act.put, q1, q2, q3])
  refine tkH (i := 15) (oi := ⟨some 155, _, _, _, _, _⟩) (v := .int .u64 (r : Int)) rfl (Or.inl ⟨by kernel_rfl, by intro WW hSw; obtain ⟨⟨s0, s1, s2, s3, s4, s5⟩, s6⟩ := hSw; go_simp⟩) (by assumption) ?_
  (try simp only [Act.put, q1, q2, q3])
  refine tkH (i := 16) (oi := ⟨some 156, _, _, _, _, _⟩) (v := .int .i64 (r : Int)) rfl (Or.inl ⟨by kernel_rfl, by intro WW hSw; obtain ⟨⟨s0, s1, s2, s3, s4, s5⟩, s6⟩ := hSw; go_simp⟩) (by assumption) ?_
  (try simp only [Act.put, q1, q2, q3])
  refine tkH (i := 17) (oi := ⟨some 157, _, _, _, _, _⟩) (v := .int .i64 (1 + (r : Int))) rfl (Or.inl ⟨by kernel_rfl, by intro WW hSw; obtain ⟨⟨s0, s1, s2, s3, s4, s5⟩, s6⟩ := hSw; go_simp⟩) (by assumption) ?_
  (try simp only [Act.put, q1, q2, q3])
  refine tkH (i := 18) (oi := ⟨some 158, _, _, _, _, _⟩) (v := .int .i64 (1024 * (1 + (r : Int)))) rfl (Or.inl ⟨by kernel_rfl, by intro WW hSw; obtain ⟨⟨s0, s1, s2, s3, s4, s5⟩, s6⟩ := hSw; go_simp⟩) (by assumption) ?_
  (try simp only [Act.put, q1, q2, q3])
  refine tkH (i := 19) (oi := ⟨some 159, _, _, _, _, _⟩) (v := .int .u64 ((1024 * (1 + r) : Nat) : Int)) rfl (Or.inl ⟨by kernel_rfl, by intro WW hSw; obtain ⟨⟨s0, s1, s2, s3, s4, s5⟩, s6⟩ := hSw; go_simp⟩) (by assumption) ?_
  (try simp only [Act.put, q1, q2, q3])
  refine tkH (i := 20) (oi := ⟨some 160, _, _, _, _, _⟩) (v := .pointer (some ⟨w.heap.size, 1, none⟩)) rfl (Or.inl ⟨by kernel_rfl, by intro WW hSw; obtain ⟨⟨s0, s1, s2, s3, s4, s5⟩, s6⟩ := hSw; go_simp⟩) (by assumption) ?_
  (try simp only [Act.put, q1, q2, q3])
  refine tkH (i := 21) (oi := ⟨some 161, _, _, _, _, _⟩) (v := .int .i64 n) rfl (Or.inl ⟨by kernel_rfl, by intro WW hSw; obtain ⟨⟨s0, s1, s2, s3, s4, s5⟩, s6⟩ := hSw; go_simp⟩) (by assumption) ?_
  (try simp only [Act.put, q1, q2, q3])
  refine wpAnyH_one (i := 22) (oi := ⟨_, _, _, _, _, _⟩) rfl (by kernel_rfl) (fun K hK => ?_)
  refine step_calls (by rfl) 56 EGEvict.out [.tmp 143, .tmp 159, .tmp 161] _ rfl [.pointer (some ⟨mg, 0, none⟩), .int .u64 ((1024 * (1 + r) : Nat) : Int), .int .i64 n] rfl (HEV.out _ H.out r HRM.out n) ?_
  rintro e x1 ⟨⟨r1, r2, rfl⟩, hkeep, z1, hst, hH⟩
  refine ⟨_, rfl, hK _ _ ⟨hH.sg HA.out, hkeep _ hHeld.2⟩ (fun _ => ?_)⟩
  clear hK K H hHeld hkeep
  have H := Lib.hid hH
  have HS := Lib.hid hst
  have HI := Lib.hid (HI0.out.step HOK.out.1 HOK.out.2.1 hst)
  clear hH hst
  (try simp only [Act.put, q1, q2, q3])
  refine wpAnyH_done (by kernel_rfl) ?_ _
  unfold NoPanic
  go_wp2
  go_upto_region 26 with (fail)
  refine wp_region_noPanic ?_
  refine wp_region_held_drew (S := SG6 gg w.heap.size mg gs gw n a c) (by kernel_rfl) (H.out.drew.sg HA.out) (fun hHeld => ?_)
  have H2 := Lib.hid H.out.drew
  clear H
  have H := H2
  clear H2
  refine tkH (i := 0) (oi := ⟨some 163, _, _, _, _, _⟩) (v := .bool true) rfl (Or.inl ⟨by kernel_rfl, by intro WW hSw; obtain ⟨s0, s1, s2, s3, s4, s5⟩ := hSw; go_simp⟩) (by assumption) ?_
  (try simp only [Act.put, q1, q2, q3])
  refine tkH (i := 1) (oi := ⟨some 164, _, _, _, _, _⟩) (v := .bool true) rfl (Or.inl ⟨by kernel_rfl, by intro WW hSw; obtain ⟨s0, s1, s2, s3, s4, s5⟩ := hSw; go_simp⟩) (by assumption) ?_
  (try simp only [Act.put, q1, q2, q3])
  refine tkH (i := 2) (oi := ⟨some 165, _, _, _, _, _⟩) (v := .pointer (some ⟨gg, 0, none⟩)) rfl (Or.inl ⟨by kernel_rfl, by intro WW hSw; obtain ⟨s0, s1, s2, s3, s4, s5⟩ := hSw; go_simp⟩) (by assumption) ?_
  (try simp only [Act.put, q1, q2, q3])
  refine tkH (i := 3) (oi := ⟨some 166, _, _, _, _, _⟩) (v := .pointer (some ⟨gg, 0, none⟩)) rfl (Or.inl ⟨by kernel_rfl, by intro WW hSw; obtain ⟨s0, s1, s2, s3, s4, s5⟩ := hSw; go_simp⟩) (by assumption) ?_
  (try simp only [Act.put, q1, q2, q3])
  refine tkH (i := 4) (oi := ⟨some 167, _, _, _, _, _⟩) (v := .pointer (some ⟨gg, 1, none⟩)) rfl (Or.inl ⟨by kernel_rfl, by intro WW hSw; obtain ⟨s0, s1, s2, s3, s4, s5⟩ := hSw; go_simp⟩) (by assumption) ?_
  (try simp only [Act.put, q1, q2, q3])
  refine tkH (i := 5) (oi := ⟨some 168, _, _, _, _, _⟩) (v := .pointer (some ⟨gs, 0, none⟩)) rfl (Or.inl ⟨by kernel_rfl, by intro WW hSw; obtain ⟨s0, s1, s2, s3, s4, s5⟩ := hSw; go_simp⟩) (by assumption) ?_
  (try simp only [Act.put, q1, q2, q3])
  refine tkH (i := 6) (oi := ⟨some 169, _, _, _, _, _⟩) (v := .pointer (some ⟨gg, 0, none⟩)) rfl (Or.inl ⟨by kernel_rfl, by intro WW hSw; obtain ⟨s0, s1, s2, s3, s4, s5⟩ := hSw; go_simp⟩) (by assumption) ?_
  (try simp only [Act.put, q1, q2, q3])
  refine tkH (i := 7) (oi := ⟨some 170, _, _, _, _, _⟩) (v := .pointer (some ⟨gg, 0, none⟩)) rfl (Or.inl ⟨by kernel_rfl, by intro WW hSw; obtain ⟨s0, s1, s2, s3, s4, s5⟩ := hSw; go_simp⟩) (by assumption) ?_
  (try simp only [Act.put, q1, q2, q3])
  refine tkH (i := 8) (oi := ⟨some 171, _, _, _, _, _⟩) (v := .pointer (some ⟨gg, 2, none⟩)) rfl (Or.inl ⟨by kernel_rfl, by intro WW hSw; obtain ⟨s0, s1, s2, s3, s4, s5⟩ := hSw; go_simp⟩) (by assumption) ?_
  (try simp only [Act.put, q1, q2, q3])
  refine tkH (i := 9) (oi := ⟨some 172, _, _, _, _, _⟩) (v := .pointer (some ⟨gw, 0, none⟩)) rfl (Or.inl ⟨by kernel_rfl, by intro WW hSw; obtain ⟨s0, s1, s2, s3, s4, s5⟩ := hSw; go_simp⟩) (by assumption) ?_
  (try simp only [Act.put, q1, q2, q3])
  refine wpAnyH_one (i := 10) (oi := ⟨_, _, _, _, _, _⟩) rfl (by kernel_rfl) (fun K hK => ?_)
  refine step_calls (by rfl) 11 EGsame6.out [.tmp 168, .tmp 172] _ rfl [.pointer (some ⟨gs, 0, none⟩), .pointer (some ⟨gw, 0, none⟩)] rfl (H.out.same HI.out (by omega)) ?_
  rintro e x1 ⟨rfl, hH⟩
  refine ⟨_, rfl, hK _ _ (hH.sg HA.out) (fun _ => ?_)⟩
  have hHeld := hH.sg HA.out
  clear hK K H
  have H := Lib.hid hH
  clear hH
  (try simp only [Act.put, q1, q2, q3])
  refine tkH (i := 11) (oi := ⟨some 174, _, _, _, _, _⟩) (v := .bool true) rfl (Or.inl ⟨by kernel_rfl, by intro WW hSw; obtain ⟨s0, s1, s2, s3, s4, s5⟩ := hSw; go_simp⟩) (by assumption) ?_
  (try simp only [Act.put, q1, q2, q3])
  refine tkH (i := 12) (oi := ⟨some 4, _, _, _, _, _⟩) (v := .bool true) rfl (Or.inl ⟨by kernel_rfl, by intro WW hSw; obtain ⟨s0, s1, s2, s3, s4, s5⟩ := hSw; go_simp⟩) (by assumption) ?_
  (try simp only [Act.put, q1, q2, q3])
  refine wpAnyH_done (by kernel_rfl) ?_ _
  unfold NoPanic
  clear hHeld
  have HE := Lib.hid (HBK.out _ _ H.out)
  clear H
  go_wp2
  go_ret
  exact ⟨rfl, _, HS.out, trivial, HE.out⟩
end Go.Proofs.YtahojhaeebmpoaaGreatDoor
