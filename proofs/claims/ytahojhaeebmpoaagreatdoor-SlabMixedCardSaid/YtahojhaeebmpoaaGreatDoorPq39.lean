/- Texts of this claim, packed: 6Gp, 6Gw, 6Gd. -/
import Derived.Test.YtahojhaeebmpoaaGreatDoorPq35
import Derived.Test.YtahojhaeebmpoaaGreatDoorPq37
import Derived.Test.YtahojhaeebmpoaaGreatDoorPq29
import Derived.Test.YtahojhaeebmpoaaGreatDoorPq36
import Derived.Test.YtahojhaeebmpoaaGreatDoorPq38
import Derived.Test.YtahojhaeebmpoaaGreatDoorPq24
/- What the law's game holds, in plain words: the memory's state, the slabs, the document's blocks, turns on their way; what an act makes of it. -/
namespace Go.Proofs.YtahojhaeebmpoaaGreatDoor
open Go.RowKit Go.Sort
set_option linter.unusedVariables false
/-- A turn on its way: its struct; its block's slab, place, address; its client; how many steps it did; what the block is meanwhile. -/
structure Tu where
  gt : Nat
  i : Nat
  j : Nat
  a : Nat
  cl : Nat
  k : Nat
  v : Nat
def plF (k : Nat) : FuncId := if k = 0 then 99 else if k = 1 then 109 else if k = 2 then 125 else 135
def flatT (T : List Tu) : List Value := T.flatMap fun t => turn6V (fpt t.gt) t.a (settled t.v) t.k
/-- All that the game holds. -/
structure S6 where
  s : St
  hs : List Hd
  cls : List Nat
  L : List (Nat × Nat)
  T : List Tu
/-- A turn is of a block that is on its way. -/
def TnOk (hs : List Hd) (t : Tu) : Prop := ∃ x, hs[t.i]? = some x ∧ x.bl[t.j]? = some t.v ∧ adr x.no x.cls t.j = t.a ∧ (t.v = 3 ∨ t.v = 4) ∧ t.k ≤ 3 ∧ t.cl ≤ 64
structure Inv6 (n : Nat) (z : S6) : Prop where
  wis : W6Is z.hs z.cls z.L
  bits : ∀ x ∈ z.hs, x.bits < 18446744073709551616
  tn : ∀ t ∈ z.T, TnOk z.hs t
  two : z.T.Pairwise fun t u => t.a ≠ u.a
  did : didN z.s ≤ n
  pend : ∀ l ∈ z.s.pend, l.length ≤ n
  ll : z.L.length ≤ 260 + n
  tl : z.T.length ≤ n
/-- A block with another status, another bit word: turns of other blocks stay. -/
theorem TnOk.set_bl {hs : List Hd} {t : Tu} (h : TnOk hs t) {i j v : Nat} {x : Hd} (hx : hs[i]? = some x) (hn : ¬ (t.i = i ∧ t.j = j)) : TnOk (hs.set i { x with bl := x.bl.set j v }) t := by
  obtain ⟨y, hy, h1, h2, h3⟩ := h
  have hi := (List.getElem?_eq_some_iff.1 hx).1
  by_cases hk : i = t.i
  · subst hk
    rw [hx] at hy
    cases hy
    refine ⟨{ x with bl := x.bl.set j v }, by rw [List.getElem?_set, if_pos rfl, if_pos hi], ?_, h2, h3⟩
    show (x.bl.set j v)[t.j]? = _
    rw [List.getElem?_set, if_neg fun e => hn ⟨rfl, e.symm⟩]
    exact h1
  · exact ⟨y, by rw [List.getElem?_set, if_neg hk]; exact hy, h1, h2, h3⟩
theorem TnOk.set_bits {hs : List Hd} {t : Tu} (h : TnOk hs t) {i b : Nat} {x : Hd} (hx : hs[i]? = some x) : TnOk (hs.set i { x with bits := b }) t := by
  obtain ⟨y, hy, h1, h2, h3⟩ := h
  have hi := (List.getElem?_eq_some_iff.1 hx).1
  by_cases hk : i = t.i
  · subst hk
    rw [hx] at hy
    cases hy
    exact ⟨{ x with bits := b }, by rw [List.getElem?_set, if_pos rfl, if_pos hi], h1, h2, h3⟩
  · exact ⟨y, by rw [List.getElem?_set, if_neg hk]; exact hy, h1, h2, h3⟩
theorem TnOk.ne_st {hs : List Hd} {t : Tu} (h : TnOk hs t) {i j u : Nat} {x : Hd} (hx : hs[i]? = some x) (hu : x.bl[j]? = some u) (h34 : u ≠ 3 ∧ u ≠ 4) : ¬ (t.i = i ∧ t.j = j) := by
  rintro ⟨rfl, rfl⟩
  obtain ⟨y, hy, h1, _, h3, _⟩ := h
  rw [hx] at hy
  cases hy
  rw [hu] at h1
  cases h1
  omega
theorem TnOk.ne_a {hs : List Hd} {t u : Tu} (h : TnOk hs t) (h2 : TnOk hs u) (hn : t.a ≠ u.a) : ¬ (t.i = u.i ∧ t.j = u.j) := by
  rintro ⟨e1, e2⟩
  obtain ⟨y, hy, _, h1, _⟩ := h
  obtain ⟨y2, hy2, _, h3, _⟩ := h2
  rw [← e1, hy] at hy2
  cases hy2
  rw [← e2, h1] at h3
  exact hn h3
theorem TnOk.claim {hs : List Hd} {t : Tu} (h : TnOk hs t) (ok : HsOk hs) {i c : Nat} {x : Hd} (hx : hs[i]? = some x) (h0 : x.cls = 0) : TnOk (hs.set i ⟨x.no, c, 0, blK (blN c) 0 (blN c)⟩) t := by
  obtain ⟨y, hy, h1, h2, h3⟩ := h
  refine ⟨y, ?_, h1, h2, h3⟩
  rw [List.getElem?_set]
  by_cases hk : i = t.i
  · subst hk
    rw [hx] at hy
    cases hy
    have hl := (ok t.i x hx).2
    rw [h0] at hl
    have := (List.getElem?_eq_some_iff.1 h1).1
    rw [hl] at this
    simp [blN] at this
  · rw [if_neg hk]; exact hy
theorem bits_set {hs : List Hd} {i : Nat} {y : Hd} (h : ∀ z ∈ hs, z.bits < 18446744073709551616) (hy : y.bits < 18446744073709551616) : ∀ z ∈ hs.set i y, z.bits < 18446744073709551616 := fun z hz => by
  rcases List.mem_or_eq_of_mem_set hz with h1 | rfl
  · exact h z h1
  · exact hy
theorem bits_mem {hs : List Hd} {i : Nat} {x : Hd} (h : ∀ z ∈ hs, z.bits < 18446744073709551616) (hx : hs[i]? = some x) : x.bits < 18446744073709551616 := h x (List.mem_of_getElem? hx)
/-- Addresses that the document's list has are blocks. -/
theorem W6Is.pos {hs : List Hd} {cls : List Nat} {L : List (Nat × Nat)} (h : W6Is hs cls L) (ok : HsOk hs) (hm : hs.length ≤ 64) : ∀ p ∈ L, p.1 ≠ 0 := fun p hp e => by
  obtain ⟨v, hv⟩ := isAt_some hs p.1
  have h1 := h.at_ p.1 v hv
  have h2 := isL_mem h.nd hp
  have h3 := h.nz p hp
  rcases hv with ⟨i, j, x, hx, hj, ha, hb⟩ | ⟨_, rfl⟩
  · have := (found_range ok hm (⟨x, hx, hj, ha⟩ : Found hs p.1 i j)).1
    omega
  · rw [h1] at h2; omega
/-- What an act makes of what the game holds. -/
inductive Step6 : S6 → S6 → Prop
  | stay (z : S6) : Step6 z z
  | res (z : S6) (hs1 hs' : List Hd) (cls' : List Nat) (L' : List (Nat × Nat)) (c : Nat) (e : Ending) : 1 ≤ c → c ≤ 3 → Claimed z.hs hs1 c → Took hs1 hs' c e → W6Is hs' cls' L' → L'.length ≤ z.L.length + 1 → Step6 z ⟨z.s, hs', cls', L', z.T⟩
  | rel (z : S6) (i j : Nat) (x : Hd) : z.hs[i]? = some x → x.bl[j]? = some 1 → Step6 z ⟨z.s, z.hs.set i { x with bl := x.bl.set j 0 }, z.cls, setL z.L (adr x.no x.cls j) 0, z.T⟩
  | start (z : S6) (i j : Nat) (x : Hd) (u v gt cl : Nat) : z.hs[i]? = some x → x.bl[j]? = some u → (u = 1 ∧ v = 4 ∨ u = 2 ∧ v = 3) → cl ≤ 64 →
      Step6 z ⟨z.s, z.hs.set i { x with bl := x.bl.set j v }, z.cls, setL z.L (adr x.no x.cls j) v, z.T ++ [⟨gt, i, j, adr x.no x.cls j, cl, 0, v⟩]⟩
  | t0 (z : S6) (q : Nat) (t : Tu) (x : Hd) : z.T[q]? = some t → t.k = 0 → z.hs[t.i]? = some x → Step6 z ⟨z.s.store (1024 * x.no) x.cls, z.hs, z.cls, z.L, z.T.set q { t with k := 1 }⟩
  | t1 (z : S6) (q : Nat) (t : Tu) (x : Hd) : z.T[q]? = some t → t.k = 1 → z.hs[t.i]? = some x → Step6 z ⟨z.s.store (1024 * x.no + 8) (bitV t.v x.bits t.j), z.hs.set t.i { x with bits := bitV t.v x.bits t.j }, z.cls, z.L, z.T.set q { t with k := 2 }⟩
  | t2 (z : S6) (q : Nat) (t : Tu) (x : Hd) : z.T[q]? = some t → t.k = 2 → z.hs[t.i]? = some x → Step6 z ⟨z.s.flush t.cl (1024 * x.no), z.hs, z.cls, z.L, z.T.set q { t with k := 3 }⟩
  | t3 (z : S6) (q : Nat) (t : Tu) (x : Hd) : z.T[q]? = some t → t.k = 3 → z.hs[t.i]? = some x → Step6 z ⟨z.s.fence t.cl, z.hs.set t.i { x with bl := x.bl.set t.j (settled t.v) }, z.cls, setL z.L t.a (settled t.v), z.T.eraseIdx q⟩
  | ev (z : S6) (i m : Nat) : i < z.s.nl → m ≤ (z.s.pend.getD i []).length → Step6 z ⟨z.s.last i m, z.hs, z.cls, z.L, z.T⟩
theorem pend_last {s : St} {i m n : Nat} (h : ∀ l ∈ s.pend, l.length ≤ n) : ∀ l ∈ (s.last i m).pend, l.length ≤ n := by
  intro l hl
  have hl' : l ∈ s.pend.set i ((s.pend.getD i []).drop m) := hl
  rcases List.mem_or_eq_of_mem_set hl' with h1 | rfl
  · exact h l h1
  · rw [List.length_drop, List.getD_eq_getElem?_getD]
    cases hg : s.pend[i]? with
    | none => simp
    | some z => have := h z (List.mem_of_getElem? hg); simp; omega
theorem pend_fence {s : St} {c n : Nat} (h : ∀ l ∈ s.pend, l.length ≤ n) : ∀ l ∈ (s.fence c).pend, l.length ≤ n := by
  intro l hl
  have hl' : l ∈ s.pend.mapIdx fun j l => if (fun _ => true) j = true then l.drop (s.mm j c) else l := hl
  obtain ⟨i, hi, rfl⟩ := List.mem_mapIdx.1 hl'
  have := h _ (List.getElem_mem hi)
  simp
  omega
theorem W6Is.bits {hs : List Hd} {cls : List Nat} {L : List (Nat × Nat)} (h : W6Is hs cls L) {i b : Nat} {x : Hd} (hx : hs[i]? = some x) : W6Is (hs.set i { x with bits := b }) cls L := by
  have hi := (List.getElem?_eq_some_iff.1 hx).1
  have get : ∀ k (y : Hd), (hs.set i { x with bits := b })[k]? = some y → ∃ y0 : Hd, hs[k]? = some y0 ∧ y0.no = y.no ∧ y0.cls = y.cls ∧ y0.bl = y.bl := fun k y hy => by
    rw [List.getElem?_set] at hy
    by_cases hk : i = k
    · subst hk
      rw [if_pos rfl, if_pos hi] at hy
      cases hy
      exact ⟨x, hx, rfl, rfl, rfl⟩
    · rw [if_neg hk] at hy
      exact ⟨y, hy, rfl, rfl, rfl⟩
  have put : ∀ k (y0 : Hd), hs[k]? = some y0 → ∃ y : Hd, (hs.set i { x with bits := b })[k]? = some y ∧ y0.no = y.no ∧ y0.cls = y.cls ∧ y0.bl = y.bl := fun k y0 hy => by
    by_cases hk : i = k
    · subst hk
      rw [hx] at hy
      cases hy
      exact ⟨{ x with bits := b }, by rw [List.getElem?_set, if_pos rfl, if_pos hi], rfl, rfl, rfl⟩
    · exact ⟨y0, by rw [List.getElem?_set, if_neg hk]; exact hy, rfl, rfl, rfl⟩
  refine ⟨?_, h.nd, h.nz, fun a u hb => ?_⟩
  · rw [h.cls]
    apply List.ext_getElem?
    intro k
    rw [List.getElem?_map, List.getElem?_map]
    by_cases hk : i = k
    · subst hk; rw [hx, List.getElem?_set, if_pos rfl, if_pos hi]; rfl
    · rw [List.getElem?_set, if_neg hk]
  · rcases hb with ⟨k, j, y, hy, hj, ha, hv⟩ | ⟨hno, rfl⟩
    · obtain ⟨y0, h0, e1, e2, e3⟩ := get k y hy
      exact h.at_ a u (.inl ⟨k, j, y0, h0, by rw [e3]; exact hj, by rw [e1, e2]; exact ha, by rw [e3]; exact hv⟩)
    · refine h.at_ a 0 (.inr ⟨fun k j ⟨y0, h0, hj, ha⟩ => ?_, rfl⟩)
      obtain ⟨y, hy, e1, e2, e3⟩ := put k y0 h0
      exact hno k j ⟨y, hy, by rw [← e3]; exact hj, by rw [← e1, ← e2]; exact ha⟩
theorem two_set {T : List Tu} {q k : Nat} {t : Tu} (h : T.Pairwise fun t u => t.a ≠ u.a) (ht : T[q]? = some t) : (T.set q { t with k := k }).Pairwise fun t u => t.a ≠ u.a := by
  have e : (T.set q { t with k := k }).map Tu.a = T.map Tu.a := by
    apply List.ext_getElem?
    intro i
    rw [List.getElem?_map, List.getElem?_map, List.getElem?_set]
    by_cases hi : q = i
    · subst hi; rw [if_pos rfl, if_pos (List.getElem?_eq_some_iff.1 ht).1, ht]; rfl
    · rw [if_neg hi]
  have h1 : (T.map Tu.a).Pairwise (· ≠ ·) := List.pairwise_map.2 h
  rw [← e] at h1
  exact List.pairwise_map.1 h1
theorem tn_setk {hs : List Hd} {T : List Tu} {q k : Nat} {t : Tu} (h : ∀ u ∈ T, TnOk hs u) (ht : T[q]? = some t) (hk : k ≤ 3) : ∀ u ∈ T.set q { t with k := k }, TnOk hs u := fun u hu => by
  rcases List.mem_or_eq_of_mem_set hu with h1 | rfl
  · exact h u h1
  · obtain ⟨x, h1, h2, h3, h4, _, h6⟩ := h t (List.mem_of_getElem? ht)
    exact ⟨x, h1, h2, h3, h4, hk, h6⟩
theorem erase_mem {T : List Tu} {q : Nat} {t u : Tu} (h2 : T.Pairwise fun t u => t.a ≠ u.a) (ht : T[q]? = some t) (hu : u ∈ T.eraseIdx q) : u ∈ T ∧ u.a ≠ t.a := by
  obtain ⟨k, hk, hk2⟩ := List.mem_eraseIdx_iff_getElem?.1 hu
  refine ⟨List.mem_of_getElem? hk2, fun e => ?_⟩
  have h3 := List.pairwise_iff_getElem.1 h2
  obtain ⟨q1, rfl⟩ := List.getElem?_eq_some_iff.1 ht
  obtain ⟨k1, rfl⟩ := List.getElem?_eq_some_iff.1 hk2
  rcases Nat.lt_or_gt_of_ne hk with hl | hl
  · exact h3 k q k1 q1 hl e
  · exact h3 q k q1 k1 hl e.symm
/-- What all holds goes on to hold. -/
theorem Inv6.step {n : Nat} {z z' : S6} (h : Inv6 n z) (ok : HsOk z.hs) (hm : z.hs.length ≤ 64) (st : Step6 z z') : Inv6 (n + 1) z' := by
  cases st with
  | stay => exact ⟨h.wis, h.bits, h.tn, h.two, by have := h.did; omega, fun l hl => by have := h.pend l hl; omega, by have := h.ll; omega, by have := h.tl; omega⟩
  | res hs1 hs' cls' L' c e hc1 hc3 hcl htk hw hl =>
    have b1 : (∀ x ∈ hs1, x.bits < 18446744073709551616) ∧ (∀ t ∈ z.T, TnOk hs1 t) ∧ HsOk hs1 := by
      rcases hcl with ⟨_, rfl⟩ | ⟨_, ⟨i, x, hz, hx, rfl⟩ | ⟨_, rfl⟩⟩
      · exact ⟨h.bits, h.tn, ok⟩
      · obtain ⟨⟨y, hy, h0⟩, _⟩ := hz
        rw [hx] at hy
        cases hy
        exact ⟨bits_set h.bits (show 0 < _ from by decide), fun t ht => (h.tn t ht).claim ok hx h0, ok.claim hx⟩
      · exact ⟨h.bits, h.tn, ok⟩
    have b2 : (∀ x ∈ hs', x.bits < 18446744073709551616) ∧ (∀ t ∈ z.T, TnOk hs' t) := by
      rcases htk with ⟨i, j, x, hx, _, hb, _, rfl, _⟩ | ⟨_, rfl, _⟩
      · exact ⟨bits_set b1.1 (show x.bits < _ from bits_mem b1.1 hx), fun t ht => (b1.2.1 t ht).set_bl hx ((b1.2.1 t ht).ne_st hx hb (by decide))⟩
      · exact ⟨b1.1, b1.2.1⟩
    exact ⟨hw, b2.1, b2.2, h.two, by have := h.did; show didN z.s ≤ _; omega, fun l hl => by have := h.pend l hl; omega, by have := h.ll; show L'.length ≤ _; omega, by have := h.tl; show z.T.length ≤ _; omega⟩
  | rel i j x hx hb =>
    have hj := (List.getElem?_eq_some_iff.1 hb).1
    exact ⟨h.wis.set ok hm hx hj, bits_set h.bits (show x.bits < _ from bits_mem h.bits hx), fun t ht => (h.tn t ht).set_bl hx ((h.tn t ht).ne_st hx hb (by decide)), h.two, by have := h.did; show didN z.s ≤ _; omega, fun l hl => by have := h.pend l hl; omega, by have := h.ll; have := setL_len z.L (adr x.no x.cls j) 0; show (setL _ _ _).length ≤ _; omega, by have := h.tl; show z.T.length ≤ _; omega⟩
  | start i j x u v gt cl hx hb huv hcl =>
    have hj := (List.getElem?_eq_some_iff.1 hb).1
    have hi := (List.getElem?_eq_some_iff.1 hx).1
    have hne : ∀ t ∈ z.T, ¬ (t.i = i ∧ t.j = j) := fun t ht => (h.tn t ht).ne_st hx hb (by omega)
    have hnew : TnOk (z.hs.set i { x with bl := x.bl.set j v }) ⟨gt, i, j, adr x.no x.cls j, cl, 0, v⟩ :=
      ⟨{ x with bl := x.bl.set j v }, by rw [List.getElem?_set, if_pos rfl, if_pos hi], by show (x.bl.set j v)[j]? = some v; rw [List.getElem?_set, if_pos rfl, if_pos hj], rfl, by show v = 3 ∨ v = 4; omega, Nat.zero_le _, hcl⟩
    refine ⟨h.wis.set ok hm hx hj, bits_set h.bits (show x.bits < _ from bits_mem h.bits hx), fun t ht => ?_, ?_, by have := h.did; show didN z.s ≤ _; omega, fun l hl => by have := h.pend l hl; omega, by have := h.ll; have := setL_len z.L (adr x.no x.cls j) v; show (setL _ _ _).length ≤ _; omega, by have := h.tl; show (z.T ++ [_]).length ≤ _; simp; omega⟩
    · rcases List.mem_append.1 ht with h1 | h1
      · exact (h.tn t h1).set_bl hx (hne t h1)
      · rw [List.mem_singleton.1 h1]; exact hnew
    · show (z.T ++ [_]).Pairwise _
      rw [List.pairwise_append]
      refine ⟨h.two, List.pairwise_singleton _ _, fun t ht u hu e => ?_⟩
      rw [List.mem_singleton.1 hu] at e
      obtain ⟨y, hy, h1, h2, _⟩ := h.tn t ht
      have hF : Found z.hs t.a t.i t.j := ⟨y, hy, (List.getElem?_eq_some_iff.1 h1).1, h2⟩
      have hF2 : Found z.hs t.a i j := ⟨x, hx, hj, e.symm⟩
      exact hne t ht (found_one ok hm hF hF2)
  | t0 q t x ht hk hx =>
    exact ⟨h.wis, h.bits, tn_setk h.tn ht (by decide), two_set h.two ht, by rw [did_store]; have := h.did; omega, fun l hl => by have := pend_store h.pend l hl; omega, by have := h.ll; show z.L.length ≤ _; omega, by have := h.tl; show (z.T.set _ _).length ≤ _; rw [List.length_set]; omega⟩
  | t1 q t x ht hk hx =>
    refine ⟨h.wis.bits hx, bits_set h.bits (bitV_lt (bits_mem h.bits hx)), fun u hu => ?_, two_set h.two ht, by rw [did_store]; have := h.did; omega, fun l hl => by have := pend_store h.pend l hl; omega, by have := h.ll; show z.L.length ≤ _; omega, by have := h.tl; show (z.T.set _ _).length ≤ _; rw [List.length_set]; omega⟩
    exact (tn_setk h.tn ht (by decide) u hu).set_bits hx
  | t2 q t x ht hk hx =>
    exact ⟨h.wis, h.bits, tn_setk h.tn ht (by decide), two_set h.two ht, by rw [did_flush]; have := h.did; omega, fun l hl => by have : l ∈ z.s.pend := hl; have := h.pend l this; omega, by have := h.ll; show z.L.length ≤ _; omega, by have := h.tl; show (z.T.set _ _).length ≤ _; rw [List.length_set]; omega⟩
  | t3 q t x ht hk hx =>
    obtain ⟨y, hy, h1, h2, h3⟩ := h.tn t (List.mem_of_getElem? ht)
    rw [hx] at hy
    cases hy
    have hj := (List.getElem?_eq_some_iff.1 h1).1
    have hw := h.wis.set ok hm (v := settled t.v) hx hj
    rw [h2] at hw
    refine ⟨hw, bits_set h.bits (show x.bits < _ from bits_mem h.bits hx), fun u hu => ?_, h.two.sublist (List.eraseIdx_sublist _ _), by rw [did_fence]; have := h.did; omega, fun l hl => by have := pend_fence h.pend l hl; omega, by have := h.ll; have := setL_len z.L t.a (settled t.v); show (setL _ _ _).length ≤ _; omega, by have := h.tl; have := List.length_eraseIdx_le z.T q; show (z.T.eraseIdx q).length ≤ _; omega⟩
    obtain ⟨hu1, hu2⟩ := erase_mem h.two ht hu
    exact (h.tn u hu1).set_bl hx ((h.tn u hu1).ne_a (h.tn t (List.mem_of_getElem? ht)) hu2)
  | ev i m hi hm2 =>
    exact ⟨h.wis, h.bits, h.tn, h.two, by have := h.did; show didN z.s ≤ _; omega, fun l hl => by have := pend_last h.pend l hl; omega, by have := h.ll; show z.L.length ≤ _; omega, by have := h.tl; show z.T.length ≤ _; omega⟩
theorem Step6.hs {z z' : S6} (st : Step6 z z') : z'.hs.length = z.hs.length ∧ z'.s.nl = z.s.nl := by
  cases st with
  | stay => exact ⟨rfl, rfl⟩
  | res hs1 hs' cls' L' c e hc1 hc3 hcl htk hw hl =>
    have h1 : hs1.length = z.hs.length := by rcases hcl with ⟨_, rfl⟩ | ⟨_, ⟨i, x, hz, hx, rfl⟩ | ⟨_, rfl⟩⟩ <;> simp
    refine ⟨?_, rfl⟩
    show hs'.length = _
    rcases htk with ⟨i, j, x, hx, _, hb, _, rfl, _⟩ | ⟨_, rfl, _⟩
    · rw [List.length_set, h1]
    · exact h1
  | rel => exact ⟨by simp, rfl⟩
  | start => exact ⟨by simp, rfl⟩
  | t0 => exact ⟨rfl, rfl⟩
  | t1 => exact ⟨by simp, rfl⟩
  | t2 => exact ⟨rfl, rfl⟩
  | t3 => exact ⟨by simp, rfl⟩
  | ev => exact ⟨rfl, rfl⟩
end Go.Proofs.YtahojhaeebmpoaaGreatDoor
/- Where the law's game lies, and that what is not touched stays. -/
namespace Go.Proofs.YtahojhaeebmpoaaGreatDoor
open Go Go.RowKit Go.Sort
set_option linter.unusedVariables false
/-- The memory, the slabs, the game's struct, the document's struct; turns, classes, blocks. -/
structure Z6 where
  m : Lay
  s : SLay
  gg : Nat
  gw : Nat
  vt : Value
  vc : Value
  vl : Value
/-- What a call may turn. -/
def Z6.fp (y : Z6) (T : List Tu) (k : Nat) : Prop := y.m.fp k ∨ y.s.fp k ∨ k = y.gg ∨ k = y.gw ∨ y.vt.ownBlock = some k ∨ y.vc.ownBlock = some k ∨ ∃ t ∈ T, k = t.gt
/-- Where all lies; n, xs: the game's turns as cells; since w0 nothing has turned but P0, and what is new. -/
structure G6 (w0 : World) (P0 : Nat → Prop) (w : World) (B size : Nat) (y : Z6) (z : S6) (n : Nat) (xs : List Value) : Prop where
  row : Row w y.gg 51 #[fpt y.m.g, fpt y.s.gs, fpt y.gw, y.vt]
  gm : ∃ fs, Game w y.m z.s y.s z.hs fs
  w6 : W6At w B y.gw size z.cls z.L y.vc y.vl
  tn : w.ownsRow B 154 4 y.vt n xs
  ta : ∀ t ∈ z.T, TAt w y.m y.s t.gt (t.cl : Int) t.i t.j (plF t.k) false 0
  gts : (z.T.map Tu.gt).Nodup
  vcn : ∀ k, y.vc.ownBlock = some k → ¬ y.s.fp k
  rb : 0 < B
  but : But w0 w P0
  fp : ∀ k, y.fp z.T k → P0 k ∨ w0.heap.size ≤ k
  pb : ∀ k, P0 k → B ≤ k
  wb : B ≤ w0.heap.size
section
variable {w0 w w' : World} {P0 : Nat → Prop} {B size n : Nat} {y : Z6} {z : S6} {xs : List Value}
theorem W6At.keep {gw : Nat} {cls : List Nat} {L : List (Nat × Nat)} {vc vl : Value} {p : Nat → Prop} (h : W6At w B gw size cls L vc vl) (hb : But w w' p) (h1 : ¬ p gw) (h2 : ∀ k, vc.ownBlock = some k → ¬ p k) (h3 : ∀ k, vl.ownBlock = some k → ¬ p k) : W6At w' B gw size cls L vc vl :=
  ⟨hb.row h.row h1, own_block h.cls fun g hg => hb.block g (by obtain ⟨cs, f, e⟩ := own_tag h.cls hg; exact heap_lt e) (h2 g hg), own_block h.bl fun g hg => hb.block g (by obtain ⟨cs, f, e⟩ := own_tag h.bl hg; exact heap_lt e) (h3 g hg), h.low⟩
theorem Tag.lt {k : Nat} {t : TypeId} (h : Tag w k t) : k < w.heap.size := by obtain ⟨cs, f, e⟩ := h; exact heap_lt e
theorem SlabMem.apart_tag {ys : SLay} {hs : List Hd} {fs : Nat → List Nat} (h : SlabMem w ys hs fs) {k : Nat} {t : TypeId} (ht : Tag w k t) (h1 : t ≠ 87) (h2 : t ≠ 91) (h3 : t ≠ 145) (h4 : t ≠ 24) (h5 : t ≠ 3) : ¬ ys.fp k := fun hk => by
  rcases h.tag hk with h' | h' | h' | h' | h'
  · exact h1 (ht.same h')
  · exact h2 (ht.same h')
  · exact h3 (ht.same h')
  · exact h4 (ht.same h')
  · exact h5 (ht.same h')
/-- A block of another type is none of the memory's, none of the slabs'. -/
theorem G6.far (G : G6 w0 P0 w B size y z n xs) {k : Nat} {t : TypeId} (ht : Tag w k t) (h : t = 51 ∨ t = 69 ∨ t = 154 ∨ t = 99 ∨ t = 165) : ¬ y.m.fp k ∧ ¬ y.s.fp k := by
  obtain ⟨fs, g⟩ := G.gm
  rcases h with rfl | rfl | rfl | rfl | rfl <;> exact ⟨g.pm.apart_tag ht (by decide) (by decide) (by decide) (by decide), g.mem.apart_tag ht (by decide) (by decide) (by decide) (by decide) (by decide)⟩
theorem G6.vc_far (G : G6 w0 P0 w B size y z n xs) {k : Nat} (hk : y.vc.ownBlock = some k) : ¬ y.m.fp k ∧ ¬ y.s.fp k := by
  obtain ⟨fs, g⟩ := G.gm
  exact ⟨g.pm.apart_tag (own_tag G.w6.cls hk) (by decide) (by decide) (by decide) (by decide), G.vcn k hk⟩
theorem G6.tat (G : G6 w0 P0 w B size y z n xs) {t : Tu} (ht : t ∈ z.T) : Tag w t.gt 165 := Row.tag (G.ta t ht)
theorem G6.bw (G : G6 w0 P0 w B size y z n xs) : B ≤ w.heap.size := Nat.le_trans G.w6.low (Nat.le_of_lt G.w6.row.lt)
theorem G6.w0w (G : G6 w0 P0 w B size y z n xs) : w0.heap.size ≤ w.heap.size := G.but.size
theorem But.more (h : But w0 w P0) {q : Nat → Prop} (h2 : But w w' q) (hq : ∀ k, q k → P0 k ∨ w0.heap.size ≤ k) : But w0 w' P0 := h.trans h2 hq
theorem G6.below (G : G6 w0 P0 w B size y z n xs) (hb : Below w.heap.size w w') : G6 w0 P0 w' B size y z n xs := by
  obtain ⟨fs, g⟩ := G.gm
  exact { G with
    row := G.row.below hb G.row.lt
    gm := ⟨fs, g.below hb⟩
    w6 := G.w6.below hb
    tn := own_low (C := 0) G.tn hb
    ta := fun t ht => Row.below (G.ta t ht) hb (Row.lt (G.ta t ht))
    but := G.but.more (But.of_below hb (fun _ => False)) (fun _ h => h.elim) }
/-- The memory, the slabs, one struct of a turn go on. -/
theorem G6.gturn (G : G6 w0 P0 w B size y z n xs) {m' : Lay} {s' : SLay} {st' : St} {hs' : List Hd} {fs' : Nat → List Nat} {gt : Nat} (g' : Game w' m' st' s' hs' fs') (t : GTurn w w' y.m m' y.s s' gt)
    (hgt : Tag w gt 165 ∧ (P0 gt ∨ w0.heap.size ≤ gt) ∨ w.heap.size ≤ gt) (hn : ∀ u ∈ z.T, u.gt ≠ gt) :
    G6 w0 P0 w' B size ⟨m', s', y.gg, y.gw, y.vt, y.vc, y.vl⟩ ⟨st', hs', z.cls, z.L, z.T⟩ n xs := by
  obtain ⟨fs, g⟩ := G.gm
  have fgt : ∀ k u, Tag w k u → u ≠ 165 → k ≠ gt := fun k u hk hu e => by
    subst e
    rcases hgt with ⟨h1, _⟩ | h1
    · exact hu (hk.same h1)
    · have := hk.lt; omega
  have hf : ∀ (k : Nat) (u : TypeId), Tag w k u → (u = 51 ∨ u = 69 ∨ u = 154 ∨ u = 99 ∨ u = 165) → k ≠ gt → ¬ (y.m.fp k ∨ y.s.fp k ∨ k = gt) := fun k u hk h h2 h' => by
    rcases h' with h' | h' | h'
    · exact (G.far hk h).1 h'
    · exact (G.far hk h).2 h'
    · exact h2 h'
  have hfc : ∀ k, y.vc.ownBlock = some k → ¬ (y.m.fp k ∨ y.s.fp k ∨ k = gt) := fun k hk h' => by
    rcases h' with h' | h' | h'
    · exact (G.vc_far hk).1 h'
    · exact (G.vc_far hk).2 h'
    · exact fgt k _ (own_tag G.w6.cls hk) (by decide) h'
  have hq : ∀ k, (y.m.fp k ∨ y.s.fp k ∨ k = gt) → P0 k ∨ w0.heap.size ≤ k := fun k hk => by
    rcases hk with h | h | h
    · exact G.fp k (.inl h)
    · exact G.fp k (.inr (.inl h))
    · subst h
      rcases hgt with ⟨_, h1⟩ | h1
      · exact h1
      · exact .inr (Nat.le_trans G.w0w h1)
  refine {
    row := ?_, gm := ⟨fs', g'⟩, w6 := G.w6.keep t.but (hf _ _ G.w6.row.tag (by decide) (fgt _ _ G.w6.row.tag (by decide))) hfc (fun k hk => hf _ _ (own_tag G.w6.bl hk) (by decide) (fgt _ _ (own_tag G.w6.bl hk) (by decide))),
    tn := own_block G.tn fun k hk => t.but.block k (own_tag G.tn hk).lt (hf _ _ (own_tag G.tn hk) (by decide) (fgt _ _ (own_tag G.tn hk) (by decide))), ta := fun u hu => ?_, gts := G.gts, vcn := fun k hk h => ?_, rb := G.rb, but := G.but.more t.but hq, fp := fun k hk => ?_, pb := G.pb, wb := G.wb }
  · have h1 := t.but.row G.row (hf _ _ G.row.tag (by decide) (fgt _ _ G.row.tag (by decide)))
    show Row w' y.gg _ #[fpt m'.g, fpt s'.gs, _, _]
    rw [t.g, t.gs]
    exact h1
  · have h1 : Row w u.gt 165 _ := G.ta u hu
    have h2 := t.but.row h1 (hf _ _ h1.tag (by decide) (hn u hu))
    unfold TAt
    show Row w' u.gt 165 (tcells s'.gs m'.g _ s'.gh _ _ _ _ _)
    rw [t.g, t.gs, t.gh]
    exact h2
  · rcases t.fy k h with h | h
    · exact G.vcn k hk h
    · have := (own_tag G.w6.cls hk).lt; omega
  · rcases hk with h | h | h
    · rcases t.fm k h with h | h
      · exact G.fp k (.inl h)
      · exact .inr (Nat.le_trans G.w0w h)
    · rcases t.fy k h with h | h
      · exact G.fp k (.inr (.inl h))
      · exact .inr (Nat.le_trans G.w0w h)
    · exact G.fp k (.inr (.inr h))
/-- The memory alone. -/
theorem G6.onMem (G : G6 w0 P0 w B size y z n xs) {m' : Lay} {st' : St} (hm : MemAt w' m' st') (ok : st'.Ok) (hn : st'.nl = z.s.nl) (t : Turn w w' y.m m') :
    G6 w0 P0 w' B size ⟨m', y.s, y.gg, y.gw, y.vt, y.vc, y.vl⟩ ⟨st', z.hs, z.cls, z.L, z.T⟩ n xs := by
  obtain ⟨fs, g⟩ := G.gm
  refine G.gturn (gt := w.heap.size) (g.onMem hm ok hn t) (GTurn.of_mem y.s _ t) (.inr (Nat.le_refl _)) fun u hu => ?_
  have := (G.tat hu).lt
  omega
/-- The slabs alone. -/
theorem G6.onSlab (G : G6 w0 P0 w B size y z n xs) {s' : SLay} {hs' : List Hd} {fs' : Nat → List Nat} (hm : SlabMem w' s' hs' fs') (ho : HsOk hs') (fo : FsOk hs' fs') (hl : hs'.length = z.hs.length) (t : STurn w w' y.s s') :
    G6 w0 P0 w' B size ⟨y.m, s', y.gg, y.gw, y.vt, y.vc, y.vl⟩ ⟨z.s, hs', z.cls, z.L, z.T⟩ n xs := by
  obtain ⟨fs, g⟩ := G.gm
  refine G.gturn (gt := w.heap.size) (g.onSlab hm ho fo hl t) (GTurn.of_slab y.m _ t) (.inr (Nat.le_refl _)) fun u hu => ?_
  have := (G.tat hu).lt
  omega
/-- The game's own: its struct, the document's blocks, the turns. -/
theorem G6.own (G : G6 w0 P0 w B size y z n xs) {cls' : List Nat} {L' : List (Nat × Nat)} {vl' vt' : Value} {n' : Nat} {xs' : List Value}
    (hr : Row w' y.gg 51 #[fpt y.m.g, fpt y.s.gs, fpt y.gw, vt']) (h6 : W6At w' B y.gw size cls' L' y.vc vl') (ht : w'.ownsRow B 154 4 vt' n' xs')
    (hb : But w w' (fun q => q = y.gw ∨ q = y.gg ∨ y.vt.ownBlock = some q ∨ y.vc.ownBlock = some q)) (hv : vt'.ownBlock = y.vt.ownBlock ∨ ∀ k, vt'.ownBlock = some k → w.heap.size ≤ k) :
    G6 w0 P0 w' B size ⟨y.m, y.s, y.gg, y.gw, vt', y.vc, vl'⟩ ⟨z.s, z.hs, cls', L', z.T⟩ n' xs' := by
  obtain ⟨fs, g⟩ := G.gm
  have hmf : ∀ k, y.m.fp k → ¬ (k = y.gw ∨ k = y.gg ∨ y.vt.ownBlock = some k ∨ y.vc.ownBlock = some k) := fun k hk h => by
    rcases h with rfl | rfl | h | h
    · exact (G.far G.w6.row.tag (by decide)).1 hk
    · exact (G.far G.row.tag (by decide)).1 hk
    · exact (G.far (own_tag G.tn h) (by decide)).1 hk
    · exact (G.vc_far h).1 hk
  have hsf : ∀ k, y.s.fp k → ¬ (k = y.gw ∨ k = y.gg ∨ y.vt.ownBlock = some k ∨ y.vc.ownBlock = some k) := fun k hk h => by
    rcases h with rfl | rfl | h | h
    · exact (G.far G.w6.row.tag (by decide)).2 hk
    · exact (G.far G.row.tag (by decide)).2 hk
    · exact (G.far (own_tag G.tn h) (by decide)).2 hk
    · exact (G.vc_far h).2 hk
  have hrm : ¬ (0 = y.gw ∨ 0 = y.gg ∨ y.vt.ownBlock = some 0 ∨ y.vc.ownBlock = some 0) := fun h => by
    have hb0 := G.rb
    rcases h with h | h | h | h
    · have := G.w6.low; omega
    · have h1 := G.fp y.gg (.inr (.inr (.inl rfl)))
      rw [← h] at h1
      rcases h1 with h1 | h1
      · have := G.pb _ h1; omega
      · have := G.wb; omega
    · have := own_base G.tn h; omega
    · have := own_base G.w6.cls h; omega
  have hq : ∀ k, (k = y.gw ∨ k = y.gg ∨ y.vt.ownBlock = some k ∨ y.vc.ownBlock = some k) → P0 k ∨ w0.heap.size ≤ k := fun k hk => by
    rcases hk with h | h | h | h
    · exact G.fp k (.inr (.inr (.inr (.inl h))))
    · exact G.fp k (.inr (.inr (.inl h)))
    · exact G.fp k (.inr (.inr (.inr (.inr (.inl h)))))
    · exact G.fp k (.inr (.inr (.inr (.inr (.inr (.inl h))))))
  refine {
    row := hr, gm := ⟨fs, ⟨g.pm.but hb hmf, g.ok, g.mem.keep hb hsf, g.ho, g.fo, ⟨g.rs.1.but hb hrm, g.rs.2⟩, g.rm, g.size⟩⟩, w6 := h6, tn := ht, ta := fun u hu => ?_, gts := G.gts, vcn := G.vcn, rb := G.rb, but := G.but.more hb hq, fp := fun k hk => ?_, pb := G.pb, wb := G.wb }
  · have h1 : Row w u.gt 165 _ := G.ta u hu
    refine hb.row h1 fun h => ?_
    rcases h with h | h | h | h
    · exact tagNe h1.tag G.w6.row.tag (by decide) h
    · exact tagNe h1.tag G.row.tag (by decide) h
    · exact tagNe h1.tag (own_tag G.tn h) (by decide) rfl
    · exact tagNe h1.tag (own_tag G.w6.cls h) (by decide) rfl
  · rcases hk with h | h | h | h | h | h
    · exact G.fp k (.inl h)
    · exact G.fp k (.inr (.inl h))
    · exact G.fp k (.inr (.inr (.inl h)))
    · exact G.fp k (.inr (.inr (.inr (.inl h))))
    · rcases hv with hv | hv
      · exact G.fp k (.inr (.inr (.inr (.inr (.inl (hv ▸ h))))))
      · exact .inr (Nat.le_trans G.w0w (hv k h))
    · exact G.fp k (.inr (.inr (.inr (.inr (.inr h)))))
/-- Fewer turns, or other ones, are in place. -/
theorem G6.turns (G : G6 w0 P0 w B size y z n xs) (T' : List Tu) (h1 : ∀ t ∈ T', TAt w y.m y.s t.gt (t.cl : Int) t.i t.j (plF t.k) false 0) (h2 : (T'.map Tu.gt).Nodup) (h3 : ∀ t ∈ T', P0 t.gt ∨ w0.heap.size ≤ t.gt) :
    G6 w0 P0 w B size y ⟨z.s, z.hs, z.cls, z.L, T'⟩ n xs :=
  { G with
    ta := h1
    gts := h2
    fp := fun k hk => by
      rcases hk with h | h | h | h | h | h | ⟨t, ht, rfl⟩
      · exact G.fp k (.inl h)
      · exact G.fp k (.inr (.inl h))
      · exact G.fp k (.inr (.inr (.inl h)))
      · exact G.fp k (.inr (.inr (.inr (.inl h))))
      · exact G.fp k (.inr (.inr (.inr (.inr (.inl h)))))
      · exact G.fp k (.inr (.inr (.inr (.inr (.inr (.inl h))))))
      · exact h3 t ht }
theorem G6.tfp (G : G6 w0 P0 w B size y z n xs) {t : Tu} (ht : t ∈ z.T) : P0 t.gt ∨ w0.heap.size ≤ t.gt := G.fp _ (.inr (.inr (.inr (.inr (.inr (.inr ⟨t, ht, rfl⟩))))))
/-- Both say the same. -/
theorem G6.same (G : G6 w0 P0 w B size y z n xs) (hI : W6Is z.hs z.cls z.L) (hL : z.L.length ≤ 1000) :
    Calls Tryz.prog 11 #[fpt y.s.gs, fpt y.gw] w fun e w' => e = .returned (.bool true) ∧ G6 w0 P0 w' B size y z n xs := by
  obtain ⟨fs, g⟩ := G.gm
  exact (same6_any g.mem g.ho g.fo g.rs G.w6 hI hL (hI.pos g.ho g.mem.most)).mono fun e w' ⟨he, hb⟩ => ⟨he, G.below hb⟩
end
end Go.Proofs.YtahojhaeebmpoaaGreatDoor
/- Each call of the law's game, over one predicate of the world: what is taken, what is given back. -/
namespace Go.Proofs.YtahojhaeebmpoaaGreatDoor
open Go Go.RowKit Go.Sort
set_option linter.unusedVariables false
/-- The game in its place; Q says more of where it lies, and what it says. -/
def GD (w0 : World) (P0 : Nat → Prop) (B size gg mg gs gw : Nat) (Q : World → Z6 → S6 → Nat → List Value → Prop) (w : World) : Prop :=
  ∃ y z n xs, G6 w0 P0 w B size y z n xs ∧ y.gg = gg ∧ y.m.g = mg ∧ y.s.gs = gs ∧ y.gw = gw ∧ Q w y z n xs
/-- At rest, at this. -/
def RQ (z0 : S6) (w : World) (y : Z6) (z : S6) (n : Nat) (xs : List Value) : Prop := z = z0 ∧ n = z0.T.length ∧ xs = flatT z0.T
section
variable {w0 w w' : World} {P0 : Nat → Prop} {B size gg mg gs gw : Nat} {Q Q' : World → Z6 → S6 → Nat → List Value → Prop} {z : S6}
theorem GD.cells (G : GD w0 P0 B size gg mg gs gw Q w) : w.cell? ⟨gg, 0, none⟩ = some (.pointer (some ⟨mg, 0, none⟩)) ∧ w.cell? ⟨gg, 1, none⟩ = some (.pointer (some ⟨gs, 0, none⟩)) ∧ w.cell? ⟨gg, 2, none⟩ = some (.pointer (some ⟨gw, 0, none⟩)) := by
  obtain ⟨y, z, n, xs, G, rfl, rfl, rfl, rfl, _⟩ := G
  refine ⟨?_, ?_, ?_⟩ <;> (rw [G.row.cell]; rfl)
theorem GD.below (G : GD w0 P0 B size gg mg gs gw (RQ z) w) (hb : Below w.heap.size w w') : GD w0 P0 B size gg mg gs gw (RQ z) w' := by
  obtain ⟨y, z, n, xs, G, h1, h2, h3, h4, h5⟩ := G
  exact ⟨y, z, n, xs, G.below hb, h1, h2, h3, h4, h5⟩
theorem GD.drew (G : GD w0 P0 B size gg mg gs gw (RQ z) w) : GD w0 P0 B size gg mg gs gw (RQ z) w.drew := G.below (drew_below w)
theorem GD.ok (G : GD w0 P0 B size gg mg gs gw (RQ z) w) : HsOk z.hs ∧ z.hs.length ≤ 64 ∧ 64 * z.s.nl = 1024 * (z.hs.length + 1) ∧ z.s.Ok ∧ z.s.pend.length = z.s.nl ∧ (∀ x ∈ z.hs, x.cls ≤ 3) := by
  obtain ⟨y, z, n, xs, ⟨_, ⟨fs, g⟩, _⟩, h1, h2, h3, h4, rfl, _⟩ := G
  exact ⟨g.ho, g.mem.most, g.size, g.ok, g.pm.plen, fun x hx => (g.mem.lens x hx).2⟩
theorem GD.inv {n : Nat} {z' : S6} (G : GD w0 P0 B size gg mg gs gw (RQ z) w) (h : Inv6 n z) (st : Step6 z z') : Inv6 (n + 1) z' := h.step G.ok.1 G.ok.2.1 st
theorem GD.same (G : GD w0 P0 B size gg mg gs gw (RQ z) w) {n : Nat} (h : Inv6 n z) (hn : n ≤ 740) :
    Calls Tryz.prog 11 #[.pointer (some ⟨gs, 0, none⟩), .pointer (some ⟨gw, 0, none⟩)] w fun e w' => e = .returned (.bool true) ∧ GD w0 P0 B size gg mg gs gw (RQ z) w' := by
  obtain ⟨y, z, m, xs, G, rfl, h2, rfl, rfl, rfl, h6⟩ := G
  exact (G.same h.wis (by have := h.ll; omega)).mono fun e w' ⟨he, hg⟩ => ⟨he, y, z, m, xs, hg, rfl, h2, rfl, rfl, rfl, h6⟩
theorem GD.block (G : GD w0 P0 B size gg mg gs gw (RQ z) w) (hL : z.L.length ≤ 1000000) (k m c : Int) (a : Nat) :
    Calls Tryz.prog 50 #[.pointer (some ⟨gg, 0, none⟩), .agg #[.int .i64 k, .int .i64 m, .int .u64 (a : Int), .int .i64 c]] w fun e w' => e = .returned (.int .u64 (blkOf z.L m a : Nat)) ∧ GD w0 P0 B size gg mg gs gw (RQ z) w' := by
  obtain ⟨y, z, n, xs, G, rfl, h2, h3, rfl, rfl, h6⟩ := G
  exact (block6_any G.row G.w6 hL k m c a).mono fun e w' ⟨he, hb⟩ => ⟨he, y, z, n, xs, G.below hb, rfl, h2, h3, rfl, rfl, h6⟩
theorem GD.is (G : GD w0 P0 B size gg mg gs gw (RQ z) w) (hL : z.L.length ≤ 1000000) (a : Nat) :
    Calls Tryz.prog 13 #[.pointer (some ⟨gw, 0, none⟩), .int .u64 (a : Int)] w fun e w' => e = .returned (.int .i64 (isL z.L a : Nat)) ∧ w = w' := by
  obtain ⟨y, z, n, xs, G, h1, h2, h3, rfl, rfl, h6⟩ := G
  exact r6Is_any G.w6 hL a
theorem GD.set (G : GD w0 P0 B size gg mg gs gw (RQ z) w) (hL : z.L.length ≤ 1000000) (a v : Nat) :
    Calls Tryz.prog 52 #[.pointer (some ⟨gw, 0, none⟩), .int .u64 (a : Int), .int .i64 (v : Int)] w fun e w' => e = .returned (.tuple #[]) ∧ GD w0 P0 B size gg mg gs gw (RQ ⟨z.s, z.hs, z.cls, setL z.L a v, z.T⟩) w' := by
  obtain ⟨y, z, n, xs, G, h1, h2, h3, rfl, rfl, rfl, rfl⟩ := G
  refine (r6Set_any G.w6 hL G.bw a v).mono fun e w' ⟨vl', W1, he, h6, hb, hw⟩ => ⟨he, ?_⟩
  subst hw
  have hbut : But w (W1.setCell ⟨y.gw, 2, none⟩ vl') (fun q => q = y.gw) := but_set6 hb rfl
  have hr : Row (W1.setCell ⟨y.gw, 2, none⟩ vl') y.gg 51 _ := hbut.row G.row (tagNe G.row.tag G.w6.row.tag (by decide))
  have ht := own_block G.tn fun k hk => hbut.block k (own_tag G.tn hk).lt (tagNe (own_tag G.tn hk) G.w6.row.tag (by decide))
  exact ⟨_, _, _, _, G.own hr h6 ht (hbut.mono fun k h => .inl h) (.inl rfl), h1, h2, h3, rfl, rfl, rfl, rfl⟩
/-- Reserve of the program. -/
def ResD (w0 : World) (P0 : Nat → Prop) (B size gg mg gs gw : Nat) (z : S6) (c : Nat) (A E : Int) (w : World) : Prop :=
  ∃ hs1 hs', Claimed z.hs hs1 c ∧ Took hs1 hs' c (.returned (.tuple #[.int .u64 A, .int .i64 E])) ∧ GD w0 P0 B size gg mg gs gw (RQ ⟨z.s, hs', z.cls, z.L, z.T⟩) w
theorem GD.res (G : GD w0 P0 B size gg mg gs gw (RQ z) w) {c : Nat} (hc : 1 ≤ c ∧ c ≤ 3) :
    Calls Tryz.prog 26 #[.pointer (some ⟨gs, 0, none⟩), .int .i64 (c : Int)] w fun e w' => ∃ A E : Int, e = .returned (.tuple #[.int .u64 A, .int .i64 E]) ∧ ResD w0 P0 B size gg mg gs gw z c A E w' := by
  obtain ⟨y, z, n, xs, G, h1, h2, rfl, h4, rfl, h6⟩ := G
  obtain ⟨fs, g⟩ := G.gm
  refine (reserve_any g.mem g.ho g.fo g.rs hc.1 hc.2).mono fun e w' ⟨hs1, hs', y', fs', hcl, htk, hm, ho, fo, t⟩ => ?_
  have he : ∃ A E : Int, e = .returned (.tuple #[.int .u64 A, .int .i64 E]) := by
    rcases htk with ⟨_, _, _, _, _, _, _, _, rfl⟩ | ⟨_, _, rfl⟩
    · exact ⟨_, _, rfl⟩
    · exact ⟨_, _, rfl⟩
  obtain ⟨A, E, rfl⟩ := he
  have hl : hs'.length = z.hs.length := by
    have h1 : hs1.length = z.hs.length := by rcases hcl with ⟨_, rfl⟩ | ⟨_, ⟨i, x, hz, hx, rfl⟩ | ⟨_, rfl⟩⟩ <;> simp
    rcases htk with ⟨i, j, x, hx, _, hb, _, rfl, _⟩ | ⟨_, rfl, _⟩
    · rw [List.length_set, h1]
    · exact h1
  exact ⟨A, E, rfl, hs1, hs', hcl, htk, _, _, _, _, G.onSlab hm ho fo hl t, h1, h2, t.gs, h4, rfl, h6.1, h6.2⟩
/-- Release. -/
theorem GD.rel (G : GD w0 P0 B size gg mg gs gw (RQ z) w) (a : Nat) :
    Calls Tryz.prog 51 #[.pointer (some ⟨gs, 0, none⟩), .int .u64 (a : Int)] w fun e w' =>
      (∃ i j x, z.hs[i]? = some x ∧ x.bl[j]? = some 1 ∧ adr x.no x.cls j = a ∧ e = .returned (.int .i64 0) ∧ GD w0 P0 B size gg mg gs gw (RQ ⟨z.s, z.hs.set i { x with bl := x.bl.set j 0 }, z.cls, z.L, z.T⟩) w') ∨
      (¬ isAt z.hs a 1 ∧ e = .returned (.int .i64 7) ∧ GD w0 P0 B size gg mg gs gw (RQ z) w') := by
  obtain ⟨y, z, n, xs, G, h1, h2, rfl, h4, rfl, h6⟩ := G
  obtain ⟨fs, g⟩ := G.gm
  refine (release_any g.mem g.ho g.fo g.rs a).mono fun e w' hp => ?_
  rcases hp with ⟨i, j, x, y', fs', hx, hb, ha, he, hm, ho, fo, t⟩ | ⟨hn, he, hb⟩
  · exact .inl ⟨i, j, x, hx, hb, ha, he, _, _, _, _, G.onSlab hm ho fo (by simp) t, h1, h2, t.gs, h4, rfl, h6.1, h6.2⟩
  · exact .inr ⟨hn, he, y, z, n, xs, G.below hb, h1, h2, rfl, h4, rfl, h6⟩
end
end Go.Proofs.YtahojhaeebmpoaaGreatDoor
