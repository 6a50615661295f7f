/- Texts of this claim, packed: PRel. -/
import Derived.Test.YtkeajfedlhgejaaPc11
import Derived.Test.YtkeajfedlhgejaaPc15
/- The document's memory (all stores, and which have lasted) and the program's state: what both say, kept by each call; plain facts, for states that a memory can have. -/
namespace Go.Proofs.Ytkeajfedlhgejaa
set_option linter.unusedVariables false
/-- A store that was made, as the document has it: has it lasted, who marked it? -/
structure Md where
  a : Nat
  w : Nat
  d : Bool
  m : List Nat
/-- The document's memory: its first words, the stores behind. -/
structure Rf where
  nl : Nat
  F : List Nat
  L : List Md
  ld : Nat
  st : Nat
  fl : Nat
  fe : Nat
def prs (l : List Md) : List (Nat × Nat) := l.map fun x => (x.a, x.w)
theorem prs_append (a b : List Md) : prs (a ++ b) = prs a ++ prs b := by simp [prs]
def onl (j : Nat) (l : List Md) : List Md := l.filter fun x => decide (x.a / 64 = j)
theorem onl_append (j : Nat) (a b : List Md) : onl j (a ++ b) = onl j a ++ onl j b := by simp [onl]
def isPen (j : Nat) (x : Md) : Bool := !x.d && decide (x.a / 64 = j)
def pen (j : Nat) (l : List Md) : List Md := l.filter (isPen j)
theorem pen_append (j : Nat) (a b : List Md) : pen j (a ++ b) = pen j a ++ pen j b := by simp [pen]
def las (l : List Md) : List Md := l.filter fun x => x.d
theorem las_append (a b : List Md) : las (a ++ b) = las a ++ las b := by simp [las]
def Md.set (x : Md) : Md := { x with d := true }

theorem lastW_append (F : List Nat) (a b : List (Nat × Nat)) : lastW F (a ++ b) = lastW (lastW F a) b := by simp [lastW]
theorem lastW_onl (F : List Nat) (l : List Md) (k : Nat) : (lastW F (prs l))[k]? = (lastW F (prs (onl (k / 8) l)))[k]? := by
  induction l generalizing F with
  | nil => rfl
  | cons x t ih =>
    show (lastW (F.set (x.a / 8) x.w) (prs t))[k]? = _
    rw [ih]
    by_cases h : x.a / 64 = k / 8
    · have e : onl (k / 8) (x :: t) = x :: onl (k / 8) t := by simp [onl, h]
      rw [e]
      rfl
    · have e : onl (k / 8) (x :: t) = onl (k / 8) t := by simp [onl, h]
      rw [e]
      exact lastW_local _ (by simp) (List.getElem?_set_ne (by intro q; apply h; omega))

/-- One line: those that have lasted, those that are pending. -/
structure LnAt (F la vie : List Nat) (p : List (Nat × Nat)) (mj : Nat → Nat) (j : Nat) (l D P : List Md) : Prop where
  l : onl j l = D ++ P
  dd : ∀ x ∈ D, x.d = true
  pp : ∀ x ∈ P, x.d = false
  p : p = prs P
  las : ∀ k, k / 8 = j → la[k]? = (lastW F (prs D))[k]?
  vie : ∀ k, k / 8 = j → vie[k]? = (lastW F (prs (D ++ P)))[k]?
  mks : ∀ c, c ≤ 64 → ∀ i (h : i < P.length), c ∈ P[i].m ↔ i < mj c

structure RelAt (s : St) (r : Rf) : Prop where
  nl : r.nl = s.nl
  pos : 0 < s.nl
  fl : r.F.length = 8 * s.nl
  ll : s.lasted.length = 8 * s.nl
  vl : s.view.length = 8 * s.nl
  pl : s.pend.length = s.nl
  ok : s.Ok
  fw : ∀ x ∈ r.F, x < 18446744073709551616
  ad : ∀ x ∈ r.L, x.a % 8 = 0 ∧ x.a < 64 * s.nl ∧ x.w < 18446744073709551616
  ln : ∀ j, j < s.nl → ∃ D P, LnAt r.F s.lasted s.view (s.pend.getD j []) (s.mm j) j r.L D P
  sd : s.ld = r.ld
  ss : s.st = r.st
  sf : s.fl = r.fl
  se : s.fe = r.fe

theorem onl_mem {j : Nat} {l D P : List Md} (h : onl j l = D ++ P) : (∀ x ∈ D, x.a / 64 = j) ∧ (∀ x ∈ P, x.a / 64 = j) := by
  have : ∀ x ∈ onl j l, x.a / 64 = j := fun x hx => by simpa [onl] using (List.mem_filter.1 hx).2
  rw [h] at this
  exact ⟨fun x hx => this x (by simp [hx]), fun x hx => this x (by simp [hx])⟩
theorem LnAt.pen {F la vie : List Nat} {p : List (Nat × Nat)} {mj : Nat → Nat} {j : Nat} {l D P : List Md} (h : LnAt F la vie p mj j l D P) : pen j l = P := by
  have e : Go.Proofs.Ytkeajfedlhgejaa.pen j l = (onl j l).filter fun x => !x.d := (List.filter_filter ..).symm
  rw [e, h.l, List.filter_append, List.filter_eq_nil_iff.2 (fun x hx => by simp [h.dd x hx]), List.filter_eq_self.2 (fun x hx => by simp [h.pp x hx])]
  rfl
theorem LnAt.lasF {F la vie : List Nat} {p : List (Nat × Nat)} {mj : Nat → Nat} {j : Nat} {l D P : List Md} (h : LnAt F la vie p mj j l D P) : onl j (Go.Proofs.Ytkeajfedlhgejaa.las l) = D := by
  have e : onl j (Go.Proofs.Ytkeajfedlhgejaa.las l) = (onl j l).filter fun x => x.d := by
    simp only [Go.Proofs.Ytkeajfedlhgejaa.las, onl, List.filter_filter]
    congr 1; funext x; rw [Bool.and_comm]
  rw [e, h.l, List.filter_append, List.filter_eq_self.2 (fun x hx => by simp [h.dd x hx]), List.filter_eq_nil_iff.2 (fun x hx => by simp [h.pp x hx])]
  simp
theorem RelAt.pend {s : St} {r : Rf} (h : RelAt s r) (j : Nat) (hj : j < s.nl) : s.pend.getD j [] = prs (pen j r.L) := by
  obtain ⟨D, P, q⟩ := h.ln j hj
  rw [q.pen, q.p]
theorem RelAt.pcount {s : St} {r : Rf} (h : RelAt s r) (j : Nat) (hj : j < s.nl) : (s.pend.getD j []).length = (pen j r.L).length := by
  rw [h.pend j hj]; simp [prs]
theorem RelAt.view {s : St} {r : Rf} (h : RelAt s r) : s.view = lastW r.F (prs r.L) := by
  apply List.ext_getElem?
  intro k
  by_cases hk : k < 8 * s.nl
  · obtain ⟨D, P, q⟩ := h.ln (k / 8) (by omega)
    rw [q.vie k rfl, lastW_onl _ r.L, q.l]
  · rw [List.getElem?_eq_none (by rw [h.vl]; omega), List.getElem?_eq_none (by rw [lastW_length, h.fl]; omega)]
theorem RelAt.image {s : St} {r : Rf} (h : RelAt s r) : s.lasted = lastW r.F (prs (las r.L)) := by
  apply List.ext_getElem?
  intro k
  by_cases hk : k < 8 * s.nl
  · obtain ⟨D, P, q⟩ := h.ln (k / 8) (by omega)
    rw [q.las k rfl, lastW_onl _ (Go.Proofs.Ytkeajfedlhgejaa.las r.L), q.lasF]
  · rw [List.getElem?_eq_none (by rw [h.ll]; omega), List.getElem?_eq_none (by rw [lastW_length, h.fl]; omega)]

/-- At first. -/
theorem rel_new {nl : Nat} {F : List Nat} (hp : 0 < nl) (hF : F.length = 8 * nl) (hw : ∀ x ∈ F, x < 18446744073709551616) (ok : St.Ok ⟨nl, F, F, List.replicate nl [], fun _ _ => 0, 0, 0, 0, 0⟩) :
    RelAt ⟨nl, F, F, List.replicate nl [], fun _ _ => 0, 0, 0, 0, 0⟩ ⟨nl, F, [], 0, 0, 0, 0⟩ := by
  refine ⟨rfl, hp, hF, hF, hF, by simp, ok, hw, by simp, ?_, rfl, rfl, rfl, rfl⟩
  intro j hj
  refine ⟨[], [], rfl, by simp, by simp, ?_, fun _ _ => rfl, fun _ _ => rfl, by simp⟩
  rw [getD_at (by simpa using hj)]
  simp [prs]

/-- A load counts. -/
def Rf.load (r : Rf) : Rf := { r with ld := r.ld + 1 }
theorem rel_load {s : St} {r : Rf} (h : RelAt s r) (ok : ({ s with ld := s.ld + 1 } : St).Ok) : RelAt { s with ld := s.ld + 1 } r.load :=
  ⟨h.nl, h.pos, h.fl, h.ll, h.vl, h.pl, ok, h.fw, h.ad, h.ln, by simp [Rf.load, h.sd], h.ss, h.sf, h.se⟩
theorem load_none {F : List Nat} {l : List Md} {a : Nat} (h8 : a % 8 = 0) (hl : ∀ x ∈ l, x.a % 8 = 0 ∧ x.a ≠ a) : (lastW F (prs l))[a / 8]? = F[a / 8]? := by
  refine lastW_far ?_
  intro p hp
  simp only [prs, List.mem_map] at hp
  obtain ⟨x, hx, rfl⟩ := hp
  have := hl x hx
  show x.a / 8 ≠ a / 8
  omega
theorem load_at {F : List Nat} {A B : List Md} {x : Md} {a : Nat} (h8 : a % 8 = 0) (hx : x.a = a) (ha : a / 8 < F.length) (hl : ∀ x ∈ B, x.a % 8 = 0 ∧ x.a ≠ a) : (lastW F (prs (A ++ x :: B)))[a / 8]? = some x.w := by
  rw [prs_append, lastW_append]
  show (lastW ((lastW F (prs A)).set (x.a / 8) x.w) (prs B))[a / 8]? = _
  rw [load_none h8 hl, hx, List.getElem?_set_self (by rw [lastW_length]; exact ha)]

/-- A store. -/
def Rf.store (r : Rf) (a w : Nat) : Rf := { r with L := r.L ++ [⟨a, w, false, []⟩], st := r.st + 1 }
theorem rel_store {s : St} {r : Rf} (h : RelAt s r) {a w : Nat} (h8 : a % 8 = 0) (ha : a < 64 * s.nl) (hw : w < 18446744073709551616) (ok : (s.store a w).Ok) : RelAt (s.store a w) (r.store a w) := by
  refine ⟨h.nl, h.pos, h.fl, h.ll, by simp [St.store, h.vl], by simp [St.store, h.pl], ok, h.fw, ?_, ?_, h.sd, by simp [St.store, Rf.store, h.ss], h.sf, h.se⟩
  · intro x hx
    rcases List.mem_append.1 hx with hx | hx
    · exact h.ad x hx
    · simp at hx; subst hx; exact ⟨h8, ha, hw⟩
  · intro j hj
    have hj' : j < s.nl := hj
    obtain ⟨D, P, q⟩ := h.ln j hj'
    have hpj : (s.store a w).pend.getD j [] = if j = a / 64 then s.pend.getD (a / 64) [] ++ [(a, w)] else s.pend.getD j [] := set_getD (by rw [h.pl]; omega)
    by_cases e : j = a / 64
    · subst e
      have e1 : onl (a / 64) (r.store a w).L = D ++ (P ++ [⟨a, w, false, []⟩]) := by
        show onl (a / 64) (r.L ++ [_]) = _
        rw [onl_append, q.l]; simp [onl]
      refine ⟨D, P ++ [⟨a, w, false, []⟩], e1, q.dd, ?_, ?_, q.las, ?_, ?_⟩
      · intro x hx
        rcases List.mem_append.1 hx with hx | hx
        · exact q.pp x hx
        · simp at hx; subst hx; rfl
      · rw [hpj, if_pos rfl, q.p, prs_append]; rfl
      · intro k hk
        show (s.view.set (a / 8) w)[k]? = _
        rw [← List.append_assoc, prs_append, lastW_append]
        show _ = ((lastW r.F (prs (D ++ P))).set (a / 8) w)[k]?
        have hv := q.vie k hk
        rw [List.getElem?_set, List.getElem?_set, hv, lastW_length, h.vl, h.fl]
      · intro c hc i hi
        by_cases hP : i < P.length
        · rw [List.getElem_append_left hP]
          exact q.mks c hc i hP
        · have hmk := h.ok.mks (a / 64) c
          have hn : (s.pend.getD (a / 64) []).length = P.length := by rw [q.p]; simp [prs]
          have hi' : i = P.length := by simp at hi; omega
          subst hi'
          simp
          show s.mm (a / 64) c ≤ P.length
          omega
    · have e1 : onl j (r.store a w).L = D ++ P := by
        show onl j (r.L ++ [_]) = _
        rw [onl_append, q.l]
        have : ¬ a / 64 = j := fun x => e x.symm
        simp [onl, this]
      refine ⟨D, P, e1, q.dd, q.pp, ?_, q.las, ?_, q.mks⟩
      · rw [hpj, if_neg e]; exact q.p
      · intro k hk
        show (s.view.set (a / 8) w)[k]? = _
        rw [List.getElem?_set_ne (by intro x; apply e; omega)]
        exact q.vie k hk

theorem map_self {f : Md → Md} {l : List Md} (h : ∀ x ∈ l, f x = x) : l.map f = l := by
  induction l with
  | nil => rfl
  | cons a t ih => rw [List.map_cons, h a (by simp), ih fun x hx => h x (by simp [hx])]
theorem onl_map {f : Md → Md} (hf : ∀ x, (f x).a = x.a) (j : Nat) (l : List Md) : onl j (l.map f) = (onl j l).map f := by
  simp only [onl, List.filter_map]
  congr 2
  funext x
  simp [hf]
theorem prs_map {f : Md → Md} (hf : ∀ x, (f x).a = x.a) (hw : ∀ x, (f x).w = x.w) (l : List Md) : prs (l.map f) = prs l := by
  simp [prs, List.map_map, Function.comp_def, hf, hw]

/-- A flush. -/
def flM (c a : Nat) (x : Md) : Md := if isPen (a / 64) x = true ∧ c ∉ x.m then { x with m := x.m ++ [c] } else x
def Rf.flush (r : Rf) (c a : Nat) : Rf := { r with L := r.L.map (flM c a), fl := r.fl + 1 }
theorem flM_a (c a : Nat) (x : Md) : (flM c a x).a = x.a ∧ (flM c a x).w = x.w ∧ (flM c a x).d = x.d := by unfold flM; split <;> simp
theorem flM_far {c a : Nat} {x : Md} (h : isPen (a / 64) x = false) : flM c a x = x := by simp [flM, h]
theorem flM_mem {c a : Nat} {x : Md} (h : isPen (a / 64) x = true) (q : Nat) : q ∈ (flM c a x).m ↔ q ∈ x.m ∨ q = c := by
  unfold flM
  by_cases hc : c ∈ x.m
  · simp [hc]
    rintro rfl; exact hc
  · simp [hc, h]
theorem rel_flush {s : St} {r : Rf} (h : RelAt s r) {c a : Nat} (hc : c ≤ 64) (ha : a < 64 * s.nl) (ok : (s.flush c a).Ok) : RelAt (s.flush c a) (r.flush c a) := by
  refine ⟨h.nl, h.pos, h.fl, h.ll, h.vl, h.pl, ok, h.fw, ?_, ?_, h.sd, h.ss, by simp [St.flush, Rf.flush, h.sf], h.se⟩
  · intro x hx
    obtain ⟨y, hy, rfl⟩ := List.mem_map.1 (show x ∈ r.L.map (flM c a) from hx)
    rw [(flM_a c a y).1, (flM_a c a y).2.1]
    exact h.ad y hy
  · intro j hj
    have hj' : j < s.nl := hj
    obtain ⟨D, P, q⟩ := h.ln j hj'
    have hm := onl_mem q.l
    have eD : D.map (flM c a) = D := map_self fun x hx => flM_far (by simp [isPen, q.dd x hx])
    have e1 : onl j (r.flush c a).L = D ++ P.map (flM c a) := by
      show onl j (r.L.map _) = _
      rw [onl_map (fun x => (flM_a c a x).1), q.l, List.map_append, eD]
    have ep : prs (P.map (flM c a)) = prs P := prs_map (fun x => (flM_a c a x).1) (fun x => (flM_a c a x).2.1) P
    refine ⟨D, P.map (flM c a), e1, q.dd, ?_, ?_, q.las, ?_, ?_⟩
    · intro x hx
      obtain ⟨y, hy, rfl⟩ := List.mem_map.1 hx
      rw [(flM_a c a y).2.2]; exact q.pp y hy
    · rw [ep]; exact q.p
    · intro k hk
      rw [prs_append, ep, ← prs_append]
      exact q.vie k hk
    · intro c' hc' i hi
      have hi' : i < P.length := by simpa using hi
      rw [List.getElem_map]
      have hn : (s.pend.getD j []).length = P.length := by rw [q.p]; simp [prs]
      by_cases e : j = a / 64
      · subst e
        have hpen : isPen (a / 64) P[i] = true := by simp [isPen, q.pp _ (List.getElem_mem hi'), hm.2 _ (List.getElem_mem hi')]
        rw [flM_mem hpen, q.mks c' hc' i hi']
        have hne : ¬ (s.pend.getD (a / 64) []).length = 0 := by omega
        show _ ↔ i < (s.flush c a).mm (a / 64) c'
        simp only [St.flush, if_neg hne, upd, if_true]
        by_cases ec : c' = c
        · subst ec; simp; rw [← List.getD_eq_getElem?_getD]; omega
        · simp [ec]
      · have hpen : isPen (a / 64) P[i] = false := by
          have := hm.2 _ (List.getElem_mem hi')
          have : ¬ P[i].a / 64 = a / 64 := fun x => e (by omega)
          simp [isPen, this]
        rw [flM_far hpen, q.mks c' hc' i hi']
        show _ ↔ i < (s.flush c a).mm j c'
        simp only [St.flush]
        split
        · exact Iff.rfl
        · simp [upd, e]

/-- A fence. -/
def feM (c : Nat) (x : Md) : Md := if c ∈ x.m then x.set else x
def Rf.fence (r : Rf) (c : Nat) : Rf := { r with L := r.L.map (feM c), fe := r.fe + 1 }
theorem feM_a (c : Nat) (x : Md) : (feM c x).a = x.a ∧ (feM c x).w = x.w ∧ (feM c x).m = x.m := by unfold feM; split <;> simp [Md.set]
theorem prs_take (l : List Md) (n : Nat) : (prs l).take n = prs (l.take n) := by simp [prs, List.map_take]
theorem prs_drop (l : List Md) (n : Nat) : (prs l).drop n = prs (l.drop n) := by simp [prs, List.map_drop]
theorem prs_len (l : List Md) : (prs l).length = l.length := by simp [prs]
/-- A front of a line lasts. -/
theorem ln_front {F la vie : List Nat} {p : List (Nat × Nat)} {mj mj' : Nat → Nat} {j n : Nat} {l l' D P : List Md} {f : Md → Md} (h : LnAt F la vie p mj j l D P) (fa : ∀ x, (f x).a = x.a) (fw : ∀ x, (f x).w = x.w) (fm : ∀ x, (f x).m = x.m)
    (hD : ∀ x ∈ D, (f x).d = true) (hP : ∀ x ∈ P.take n, (f x).d = true) (hl : onl j l' = D.map f ++ ((P.take n).map f ++ P.drop n)) {la' : List Nat} (hlen : la.length = F.length) (hla : ∀ k, k / 8 = j → la'[k]? = (lastW la (p.take n))[k]?)
    (hmj : ∀ c, c ≤ 64 → mj' c = mj c - n) : LnAt F la' vie (p.drop n) mj' j l' (D.map f ++ (P.take n).map f) (P.drop n) := by
  have e1 : prs (D.map f ++ (P.take n).map f) = prs D ++ prs (P.take n) := by rw [prs_append, prs_map fa fw, prs_map fa fw]
  refine ⟨by rw [hl, List.append_assoc], ?_, ?_, ?_, ?_, ?_, ?_⟩
  · intro x hx
    rcases List.mem_append.1 hx with hx | hx
    · obtain ⟨y, hy, rfl⟩ := List.mem_map.1 hx; exact hD y hy
    · obtain ⟨y, hy, rfl⟩ := List.mem_map.1 hx; exact hP y hy
  · exact fun x hx => h.pp x (List.mem_of_mem_drop hx)
  · rw [h.p, prs_drop]
  · intro k hk
    rw [hla k hk, e1, lastW_append, h.p, prs_take]
    exact lastW_local _ (by rw [lastW_length, hlen]) (h.las k hk)
  · intro k hk
    rw [h.vie k hk, prs_append, prs_append, e1, List.append_assoc, ← prs_append (P.take n), List.take_append_drop]
  · intro c hc i hi
    rw [List.getElem_drop, h.mks c hc, hmj c hc]
    omega
theorem rel_fence {s : St} {r : Rf} (h : RelAt s r) {c : Nat} (hc : c ≤ 64) (ok : (s.fence c).Ok) : RelAt (s.fence c) (r.fence c) := by
  have eL : (s.fence c).lasted.length = 8 * s.nl := by simp [St.fence, St.fenV, h.ll]
  refine ⟨h.nl, h.pos, h.fl, eL, h.vl, by simp [St.fence, St.fenV, h.pl], ok, h.fw, ?_, ?_, h.sd, h.ss, h.sf, by simp [St.fence, St.fenV, Rf.fence, h.se]⟩
  · intro x hx
    obtain ⟨y, hy, rfl⟩ := List.mem_map.1 (show x ∈ r.L.map (feM c) from hx)
    rw [(feM_a c y).1, (feM_a c y).2.1]
    exact h.ad y hy
  · intro j hj
    have hj' : j < s.nl := hj
    obtain ⟨D, P, q⟩ := h.ln j hj'
    have hjl : j < s.pend.length := by rw [h.pl]; exact hj'
    have hpj : (s.fence c).pend.getD j [] = (s.pend.getD j []).drop (s.mm j c) := by
      have e : (s.fence c).pend = s.pend.mapIdx fun j l => l.drop (s.mm j c) := by simp [St.fence, St.fenV]
      rw [e, List.getD_eq_getElem?_getD, List.getElem?_mapIdx, List.getElem?_eq_getElem hjl, List.getD_eq_getElem?_getD, List.getElem?_eq_getElem hjl]
      rfl
    have eP : (P.drop (s.mm j c)).map (feM c) = P.drop (s.mm j c) := by
      refine map_self fun x hx => ?_
      obtain ⟨i, hi, rfl⟩ := List.getElem_of_mem hx
      rw [List.getElem_drop]
      have := q.mks c hc (s.mm j c + i) (by simp at hi; omega)
      have hl2 : s.mm j c + i < P.length := by simp at hi; omega
      have : c ∉ (P[s.mm j c + i]'hl2).m := fun q => by have := this.1 q; omega
      simp [feM, this]
    rw [hpj]
    refine ⟨_, _, ln_front (f := feM c) (l' := (r.fence c).L) (n := s.mm j c) q (fun x => (feM_a c x).1) (fun x => (feM_a c x).2.1) (fun x => (feM_a c x).2.2) ?_ ?_ ?_ (by rw [h.ll, h.fl]) ?_ ?_⟩
    · intro x hx
      unfold feM; split
      · rfl
      · exact q.dd x hx
    · intro x hx
      obtain ⟨i, hi, rfl⟩ := List.getElem_of_mem hx
      have hi2 : i < s.mm j c ∧ i < P.length := by simp at hi; omega
      rw [List.getElem_take]
      simp [feM, (q.mks c hc i hi2.2).2 hi2.1, Md.set]
    · show onl j (r.L.map _) = _
      rw [onl_map (fun x => (feM_a c x).1), q.l, List.map_append]
      congr 1
      rw [← eP, ← List.map_append, List.take_append_drop]
    · intro k hk
      have e : (s.fence c).lasted = s.lasted.mapIdx fun k x => (lastW s.lasted ((s.pend.getD (k / 8) []).take (s.mm (k / 8) c))).getD k 0 := by simp [St.fence, St.fenV]
      rw [e, List.getElem?_mapIdx, hk]
      by_cases hkl : k < s.lasted.length
      · rw [List.getElem?_eq_getElem hkl, List.getD_eq_getElem?_getD, List.getElem?_eq_getElem (l := lastW _ _) (by rw [lastW_length]; exact hkl)]
        rfl
      · rw [List.getElem?_eq_none (by omega), List.getElem?_eq_none (by rw [lastW_length]; omega)]
        rfl
    · intro q' _
      simp [St.fence, St.fenV]

/-- Elder ones of a line last. -/
def ev (j : Nat) : Nat → List Md → List Md
  | _, [] => []
  | n, x :: t => if n ≠ 0 ∧ isPen j x = true then x.set :: ev j (n - 1) t else x :: ev j n t
theorem ev_zero (j : Nat) (l : List Md) : ev j 0 l = l := by
  induction l with
  | nil => rfl
  | cons x t ih => simp [ev, ih]
theorem ev_append (j n : Nat) (l l' : List Md) : ev j n (l ++ l') = ev j n l ++ ev j (n - (pen j l).length) l' := by
  induction l generalizing n with
  | nil => simp [ev, pen]
  | cons x t ih =>
    rw [List.cons_append]
    by_cases hp : isPen j x = true
    · have e : pen j (x :: t) = x :: pen j t := by simp [pen, hp]
      by_cases hn : n = 0
      · subst hn
        simp only [ev_zero, Nat.zero_sub, List.cons_append]
      · simp only [ev, hn, hp, ne_eq, not_false_eq_true, and_self, if_true, List.cons_append, ih, e, List.length_cons]
        rw [show n - 1 - (pen j t).length = n - ((pen j t).length + 1) from by omega]
    · have e : pen j (x :: t) = pen j t := by simp [pen, hp]
      simp only [ev, hp, and_false, if_false, List.cons_append, ih, e, Bool.false_eq_true]
theorem ev_onl (j n : Nat) (l : List Md) : onl j (ev j n l) = ev j n (onl j l) := by
  induction l generalizing n with
  | nil => rfl
  | cons x t ih =>
    by_cases hj : x.a / 64 = j
    · have e : onl j (x :: t) = x :: onl j t := by simp [onl, hj]
      rw [e]
      simp only [ev]
      split
      · have e2 : onl j (x.set :: ev j (n - 1) t) = x.set :: onl j (ev j (n - 1) t) := by simp [onl, hj, Md.set]
        rw [e2, ih]
      · have e2 : onl j (x :: ev j n t) = x :: onl j (ev j n t) := by simp [onl, hj]
        rw [e2, ih]
    · have e : onl j (x :: t) = onl j t := by simp [onl, hj]
      have hp : isPen j x = false := by simp [isPen, hj]
      rw [e]
      simp only [ev, hp, Bool.false_eq_true, and_false, if_false]
      have e2 : onl j (x :: ev j n t) = onl j (ev j n t) := by simp [onl, hj]
      rw [e2, ih]
theorem ev_far {j i : Nat} (n : Nat) (l : List Md) (h : i ≠ j) : onl i (ev j n l) = onl i l := by
  induction l generalizing n with
  | nil => rfl
  | cons x t ih =>
    simp only [ev]
    split
    · rename_i hp
      have hj : x.a / 64 = j := by simp [isPen] at hp; exact hp.2.2
      have : ¬ j = i := fun q => h q.symm
      simp [onl, Md.set, hj, this]
      exact ih _
    · by_cases hi : x.a / 64 = i
      · have e2 : ∀ t, onl i (x :: t) = x :: onl i t := fun t => by simp [onl, hi]
        rw [e2, e2, ih]
      · have e2 : ∀ t, onl i (x :: t) = onl i t := fun t => by simp [onl, hi]
        rw [e2, e2, ih]
theorem ev_line {j : Nat} {D P : List Md} (n : Nat) (hD : ∀ x ∈ D, x.d = true) (hP : ∀ x ∈ P, isPen j x = true) : ev j n (D ++ P) = D ++ ((P.take n).map Md.set ++ P.drop n) := by
  have e : ∀ (D : List Md), (∀ x ∈ D, x.d = true) → ev j n (D ++ P) = D ++ ev j n P := by
    intro D
    induction D with
    | nil => intro _; rfl
    | cons x t ih =>
      intro hD
      have hx := hD x (by simp)
      have : isPen j x = false := by simp [isPen, hx]
      rw [List.cons_append]
      simp only [ev, this, Bool.false_eq_true, and_false, if_false, ih fun y hy => hD y (by simp [hy])]
      rfl
  rw [e D hD]
  congr 1
  clear e
  induction P generalizing n with
  | nil => simp [ev]
  | cons x t ih =>
    cases n with
    | zero => simp [ev_zero]
    | succ n =>
      simp only [ev, hP x (by simp), ne_eq, Nat.add_one_ne_zero, not_false_eq_true, and_self, if_true, Nat.add_sub_cancel, ih n fun y hy => hP y (by simp [hy])]
      rfl
theorem ev_mem {j n : Nat} {l : List Md} {x : Md} (h : x ∈ ev j n l) : ∃ y ∈ l, x.a = y.a ∧ x.w = y.w := by
  induction l generalizing n with
  | nil => cases h
  | cons y t ih =>
    simp only [ev] at h
    split at h
    · rcases List.mem_cons.1 h with rfl | h
      · exact ⟨y, by simp, rfl, rfl⟩
      · obtain ⟨z, hz, q⟩ := ih h
        exact ⟨z, by simp [hz], q⟩
    · rcases List.mem_cons.1 h with rfl | h
      · exact ⟨x, by simp, rfl, rfl⟩
      · obtain ⟨z, hz, q⟩ := ih h
        exact ⟨z, by simp [hz], q⟩
theorem ev_length (j n : Nat) (l : List Md) : (ev j n l).length = l.length := by
  induction l generalizing n with
  | nil => rfl
  | cons x t ih => simp only [ev]; split <;> simp [ih]
def Rf.evict (r : Rf) (j n : Nat) : Rf := { r with L := ev j n r.L }
theorem rel_evict {s : St} {r : Rf} (h : RelAt s r) {j n : Nat} (hj : j < s.nl) (hn : n ≤ (s.pend.getD j []).length) : RelAt (s.last j n) (r.evict j n) := by
  have hjl : j < s.pend.length := by rw [h.pl]; exact hj
  refine ⟨h.nl, h.pos, h.fl, by simp [St.last, lastW_length, h.ll], h.vl, by simp [St.last, h.pl], last_Ok h.ok hjl hn, h.fw, ?_, ?_, h.sd, h.ss, h.sf, h.se⟩
  · intro x hx
    obtain ⟨y, hy, e1, e2⟩ := ev_mem (show x ∈ ev j n r.L from hx)
    rw [e1, e2]
    exact h.ad y hy
  · intro i hi
    have hi' : i < s.nl := hi
    obtain ⟨D, P, q⟩ := h.ln i hi'
    have hm := onl_mem q.l
    have hpj : (s.last j n).pend.getD i [] = if i = j then (s.pend.getD j []).drop n else s.pend.getD i [] := set_getD hjl
    by_cases e : i = j
    · subst e
      have eD : D.map Md.set = D := map_self fun x hx => by have := q.dd x hx; cases x; simp_all [Md.set]
      rw [hpj, if_pos rfl]
      refine ⟨_, _, ln_front (f := Md.set) (l' := (r.evict i n).L) (n := n) q (fun _ => rfl) (fun _ => rfl) (fun _ => rfl) (fun _ _ => rfl) (fun _ _ => rfl) ?_ (by rw [h.ll, h.fl]) ?_ ?_⟩
      · show onl i (ev i n r.L) = _
        rw [ev_onl, q.l, ev_line n q.dd (fun x hx => by simp [isPen, q.pp x hx, hm.2 x hx]), eD]
      · intro k hk; rfl
      · intro c _
        exact umk_at ..
    · rw [hpj, if_neg e]
      refine ⟨D, P, (ev_far n r.L e).trans q.l, q.dd, q.pp, q.p, ?_, q.vie, ?_⟩
      · intro k hk
        refine Eq.trans ?_ (q.las k hk)
        show (lastW s.lasted _)[k]? = _
        refine lastW_far fun p hp => ?_
        have hp' := List.mem_of_mem_take hp
        have h1 := (h.ok.put j _ (List.getElem?_eq_getElem hjl) p (by rw [getD_at hjl] at hp'; exact hp')).2.1
        omega
      · intro c hc k hk
        rw [q.mks c hc k hk]
        show _ ↔ k < umk s.mm j n i c
        rw [umk_far e]

/-- A crash: line by line, then what has lasted is what there is at first. -/
def St.lasts (s : St) (keep : List Int) (xs : List (Nat × Nat)) : St := xs.foldl (fun t x => t.last x.2 (keptN keep x.1 (t.pend.getD x.2 []).length)) s
def Rf.crash1 (r : Rf) (keep : List Int) (x : Nat × Nat) : Rf := r.evict x.2 (keptN keep x.1 (pen x.2 r.L).length)
def Rf.crashTo (r : Rf) (keep : List Int) (xs : List (Nat × Nat)) : Rf := xs.foldl (fun t x => t.crash1 keep x) r
def Rf.fin (r : Rf) : Rf := { r with F := lastW r.F (prs (las r.L)), L := [] }
def Rf.crash (r : Rf) (keep : List Int) (xs : List (Nat × Nat)) : Rf := (r.crashTo keep xs).fin
theorem rcrashTo_snoc (r : Rf) (keep : List Int) (xs : List (Nat × Nat)) (x : Nat × Nat) : r.crashTo keep (xs ++ [x]) = (r.crashTo keep xs).crash1 keep x := by simp [Rf.crashTo]
theorem rel_crashTo {s : St} {r : Rf} (h : RelAt s r) (keep : List Int) (xs : List (Nat × Nat)) (hx : ∀ x ∈ xs, x.2 < s.nl) : RelAt (s.lasts keep xs) (r.crashTo keep xs) := by
  induction xs generalizing s r with
  | nil => exact h
  | cons x t ih =>
    have e : (s.pend.getD x.2 []).length = (pen x.2 r.L).length := h.pcount x.2 (hx x (by simp))
    have h1 := rel_evict h (j := x.2) (n := keptN keep x.1 (s.pend.getD x.2 []).length) (hx x (by simp)) (keptN_le _ _ _)
    show RelAt ((s.last x.2 _).lasts keep t) ((r.crash1 keep x).crashTo keep t)
    refine ih ?_ (fun q hq => hx q (by simp [hq]))
    unfold Rf.crash1
    rw [← e]
    exact h1
/-- How the program's crash and the lasts alone agree. -/
structure CrAt (s a b : St) (xs : List (Nat × Nat)) : Prop where
  nl : a.nl = s.nl ∧ b.nl = s.nl
  st : a.ld = s.ld ∧ a.st = s.st ∧ a.fl = s.fl ∧ a.fe = s.fe
  sb : b.ld = s.ld ∧ b.st = s.st ∧ b.fl = s.fl ∧ b.fe = s.fe
  las : a.lasted = b.lasted
  ll : b.lasted.length = s.lasted.length
  vl : a.view.length = s.view.length
  pl : a.pend.length = s.pend.length ∧ b.pend.length = s.pend.length
  ok : b.Ok
  far : ∀ j, (∀ x ∈ xs, x.2 ≠ j) → a.pend.getD j [] = s.pend.getD j [] ∧ b.pend.getD j [] = s.pend.getD j [] ∧ (∀ c, a.mm j c = s.mm j c) ∧ ∀ k, k / 8 = j → a.view[k]? = s.view[k]? ∧ b.lasted[k]? = s.lasted[k]?
  near : ∀ x ∈ xs, a.pend.getD x.2 [] = [] ∧ (∀ c, a.mm x.2 c = 0) ∧ ∀ k, k / 8 = x.2 → a.view[k]? = a.lasted[k]?
theorem lastW_farline {s : St} (ok : s.Ok) {i n k : Nat} (hi : i < s.pend.length) (hk : k / 8 ≠ i) : (s.last i n).lasted[k]? = s.lasted[k]? := by
  refine lastW_far fun p hp => ?_
  have hp' := List.mem_of_mem_take hp
  have h1 := (ok.put i _ (List.getElem?_eq_getElem hi) p (by rw [getD_at hi] at hp'; exact hp')).2.1
  omega
theorem crashTo_at {s : St} (ok : s.Ok) (hvl : s.view.length = s.lasted.length) (keep : List Int) (xs : List (Nat × Nat)) (hx : ∀ x ∈ xs, x.2 < s.pend.length) (hd : xs.Pairwise fun x y => x.2 ≠ y.2) : CrAt s (s.crashTo keep xs) (s.lasts keep xs) xs := by
  suffices h : ∀ n, n ≤ xs.length → CrAt s (s.crashTo keep (xs.take n)) (s.lasts keep (xs.take n)) (xs.take n) by
    simpa using h xs.length (Nat.le_refl _)
  intro n
  induction n with
  | zero => exact fun _ => ⟨⟨rfl, rfl⟩, ⟨rfl, rfl, rfl, rfl⟩, ⟨rfl, rfl, rfl, rfl⟩, rfl, rfl, rfl, ⟨rfl, rfl⟩, ok, fun j _ => ⟨rfl, rfl, fun _ => rfl, fun _ _ => ⟨rfl, rfl⟩⟩, by simp⟩
  | succ n ih =>
    intro hn
    have hI := ih (by omega)
    have ht : xs.take (n + 1) = xs.take n ++ [xs[n]] := by rw [List.take_succ_eq_append_getElem (by omega)]
    have hnew : ∀ x ∈ xs.take n, x.2 ≠ (xs[n]).2 := by
      intro x hxm
      obtain ⟨i, hi, rfl⟩ := List.getElem_of_mem hxm
      rw [List.getElem_take]
      simp at hi
      exact List.pairwise_iff_getElem.1 hd i n (by omega) (by omega) (by omega)
    have hj := hx _ (List.getElem_mem (show n < xs.length by omega))
    rw [ht, crashTo_snoc, show s.lasts keep (xs.take n ++ [xs[n]]) = ((s.lasts keep (xs.take n)).last (xs[n]).2 (keptN keep (xs[n]).1 ((s.lasts keep (xs.take n)).pend.getD (xs[n]).2 []).length)) from by unfold St.lasts; rw [List.foldl_append]; rfl]
    generalize xs[n] = z at *
    generalize xs.take n = ys at *
    generalize s.crashTo keep ys = a at *
    generalize s.lasts keep ys = b at *
    obtain ⟨i, j⟩ := z
    have hf := hI.far j hnew
    have epa : a.pend.getD j [] = s.pend.getD j [] := hf.1
    have epb : b.pend.getD j [] = s.pend.getD j [] := hf.2.1
    have hja : j < a.pend.length := by rw [hI.pl.1]; exact hj
    have hjb : j < b.pend.length := by rw [hI.pl.2]; exact hj
    have el : (a.last j (keptN keep i (a.pend.getD j []).length)).lasted = (b.last j (keptN keep i (b.pend.getD j []).length)).lasted := by
      show lastW a.lasted _ = lastW b.lasted _
      rw [epa, epb, hI.las]
    refine ⟨hI.nl, hI.st, hI.sb, el, ?_, ?_, ?_, last_Ok hI.ok hjb (keptN_le _ _ _), ?_, ?_⟩
    · show (lastW b.lasted _).length = _
      rw [lastW_length, hI.ll]
    · show (loseV _ a.view j).length = _
      simp [loseV, hI.vl]
    · simp [St.crash1, St.lose, St.last, hI.pl]
    · intro j' h'
      have h1 : ∀ x ∈ ys, x.2 ≠ j' := fun x hx => h' x (by simp [hx])
      have h2 : j ≠ j' := h' (i, j) (by simp)
      obtain ⟨f1, f2, f3, f4⟩ := hI.far j' h1
      refine ⟨?_, ?_, ?_, ?_⟩
      · rw [← f1]
        simp only [St.crash1, St.lose, St.last, List.getD_eq_getElem?_getD]
        rw [List.getElem?_set_ne h2, List.getElem?_set_ne h2]
      · rw [← f2]
        simp only [St.last, List.getD_eq_getElem?_getD]
        rw [List.getElem?_set_ne h2]
      · intro c
        rw [← f3 c]
        have : ¬ j' = j := fun q => h2 q.symm
        simp [St.crash1, St.lose, St.last, upd, umk, this]
      · intro k hk
        have hk2 : ¬ k / 8 = j := by omega
        refine ⟨?_, ?_⟩
        · rw [← (f4 k hk).1]
          show (loseV _ a.view j)[k]? = _
          rw [loseV, List.getElem?_mapIdx]
          simp [hk2]
        · rw [← (f4 k hk).2]
          exact lastW_farline hI.ok hjb hk2
    · intro x hxm
      rcases List.mem_append.1 hxm with hxm | hxm
      · obtain ⟨g1, g2, g3⟩ := hI.near x hxm
        have h2 : j ≠ x.2 := fun q => hnew x hxm q.symm
        refine ⟨?_, ?_, ?_⟩
        · refine Eq.trans ?_ g1
          simp only [St.crash1, St.lose, St.last, List.getD_eq_getElem?_getD]
          rw [List.getElem?_set_ne h2, List.getElem?_set_ne h2]
        · intro c
          refine Eq.trans ?_ (g2 c)
          have : ¬ x.2 = j := fun q => h2 q.symm
          simp [St.crash1, St.lose, St.last, upd, umk, this]
        · intro k hk
          have hk2 : ¬ k / 8 = j := by omega
          have e1 : (a.crash1 keep (i, j)).view[k]? = a.view[k]? := by
            show (loseV _ a.view j)[k]? = _
            rw [loseV, List.getElem?_mapIdx]
            simp [hk2]
          have e2 : (a.crash1 keep (i, j)).lasted[k]? = a.lasted[k]? := by
            show (a.last j (keptN keep i (a.pend.getD j []).length)).lasted[k]? = _
            rw [el, lastW_farline hI.ok hjb hk2, hI.las]
          rw [e1, e2, g3 k hk]
      · have : x = (i, j) := by simpa using hxm
        subst this
        refine ⟨?_, ?_, ?_⟩
        · show ((a.pend.set j _).set j []).getD j [] = []
          rw [set_getD (by simpa using hja), if_pos rfl]
        · intro c
          simp [St.crash1, St.lose, upd]
        · intro k hk
          show (loseV (a.last j (keptN keep i (a.pend.getD j []).length)).lasted a.view j)[k]? = (a.last j (keptN keep i (a.pend.getD j []).length)).lasted[k]?
          have hl2 : (a.last j (keptN keep i (a.pend.getD j []).length)).lasted.length = s.lasted.length := by
            show (lastW a.lasted _).length = _
            rw [lastW_length, hI.las, hI.ll]
          generalize (a.last j (keptN keep i (a.pend.getD j []).length)).lasted = la at *
          dsimp only at hk
          rw [loseV, List.getElem?_mapIdx]
          by_cases hkl : k < s.lasted.length
          · rw [List.getElem?_eq_getElem (l := a.view) (by rw [hI.vl, hvl]; exact hkl), List.getElem?_eq_getElem (l := la) (by rw [hl2]; exact hkl)]
            simp only [Option.map_some, hk, if_true]
            rw [getD_at (by rw [hl2]; exact hkl)]
          · rw [List.getElem?_eq_none (l := a.view) (by rw [hI.vl, hvl]; omega), List.getElem?_eq_none (l := la) (by rw [hl2]; omega)]
            rfl
theorem nzFrom_far : ∀ (p : List (List (Nat × Nat))) (i j : Nat), (nzFrom p i j).Pairwise (fun x y => x.2 ≠ y.2) ∧ ∀ k, k < p.length → (∀ x ∈ nzFrom p i j, x.2 ≠ j + k) → p.getD k [] = []
  | [], i, j => ⟨.nil, fun k hk => by simp at hk⟩
  | l :: t, i, j => by
    simp only [nzFrom]
    split
    · rename_i hl
      obtain ⟨h1, h2⟩ := nzFrom_far t i (j + 1)
      refine ⟨h1, ?_⟩
      intro k hk hx
      cases k with
      | zero => simpa using hl
      | succ k =>
        have := h2 k (by simpa using hk) (fun x hxm => by have := hx x hxm; omega)
        simpa using this
    · obtain ⟨h1, h2⟩ := nzFrom_far t (i + 1) (j + 1)
      refine ⟨List.pairwise_cons.2 ⟨fun y hy => by have := nzFrom_bound t (i + 1) (j + 1) y hy; dsimp only; omega, h1⟩, ?_⟩
      intro k hk hx
      cases k with
      | zero => exact absurd rfl (hx (i, j) (by simp))
      | succ k =>
        have := h2 k (by simpa using hk) (fun x hxm => by have := hx x (by simp [hxm]); omega)
        simpa using this
theorem rel_crash {s : St} {r : Rf} (h : RelAt s r) (keep : List Int) (ok : (s.crash keep).Ok) : RelAt (s.crash keep) (r.crash keep (nz s.pend)) := by
  have hb : ∀ x ∈ nz s.pend, x.2 < s.pend.length := fun x hx => by have := nzFrom_bound s.pend 0 0 x hx; omega
  have hf := nzFrom_far s.pend 0 0
  have hC := crashTo_at h.ok (by rw [h.vl, h.ll]) keep (nz s.pend) hb hf.1
  have hR := rel_crashTo h keep (nz s.pend) (fun x hx => by have := hb x hx; rw [h.pl] at this; exact this)
  have hi := hR.image
  change CrAt s (s.crash keep) (s.lasts keep (nz s.pend)) (nz s.pend) at hC
  have hz : ∀ j, j < s.nl → (s.crash keep).pend.getD j [] = [] ∧ (∀ c, (s.crash keep).mm j c = 0) ∧ ∀ k, k / 8 = j → (s.crash keep).view[k]? = (s.crash keep).lasted[k]? := by
    intro j hj
    by_cases hx : ∃ x ∈ nz s.pend, x.2 = j
    · obtain ⟨x, hx, rfl⟩ := hx
      exact hC.near x hx
    · have hx' : ∀ x ∈ nz s.pend, x.2 ≠ j := fun x hm e => hx ⟨x, hm, e⟩
      obtain ⟨g1, g2, g3, g4⟩ := hC.far j hx'
      have hp : s.pend.getD j [] = [] := hf.2 j (by rw [h.pl]; exact hj) (fun x hm => by have := hx' x hm; omega)
      refine ⟨g1.trans hp, ?_, ?_⟩
      · intro c
        rw [g3 c]
        have := h.ok.mks j c
        rw [hp] at this
        simpa using this
      · intro k hk
        rw [(g4 k hk).1, hC.las, (g4 k hk).2]
        obtain ⟨D, P, q⟩ := h.ln j hj
        have hP : P = [] := by
          have := q.p
          rw [hp] at this
          cases P with
          | nil => rfl
          | cons a t => cases this
        rw [q.vie k hk, q.las k hk, hP, List.append_nil]
  have hnl : ∀ (xs : List (Nat × Nat)) (r : Rf), (r.crashTo keep xs).nl = r.nl ∧ (r.crashTo keep xs).ld = r.ld ∧ (r.crashTo keep xs).st = r.st ∧ (r.crashTo keep xs).fl = r.fl ∧ (r.crashTo keep xs).fe = r.fe := by
    intro xs
    induction xs with
    | nil => exact fun r => ⟨rfl, rfl, rfl, rfl, rfl⟩
    | cons x t ih => exact fun r => ih (r.crash1 keep x)
  obtain ⟨n0, n1, n2, n3, n4⟩ := hnl (nz s.pend) r
  have eF : (r.crash keep (nz s.pend)).F = (s.crash keep).lasted := by
    rw [hC.las, hi]; rfl
  have eL : (s.crash keep).lasted.length = 8 * s.nl := by rw [hC.las, hC.ll, h.ll]
  refine ⟨?_, ?_, ?_, ?_, ?_, ?_, ok, ?_, ?_, ?_, ?_, ?_, ?_, ?_⟩
  · rw [hC.nl.1]; exact n0.trans h.nl
  · rw [hC.nl.1]; exact h.pos
  · rw [eF, eL, hC.nl.1]
  · rw [eL, hC.nl.1]
  · rw [hC.vl, h.vl, hC.nl.1]
  · rw [hC.pl.1, h.pl, hC.nl.1]
  · rw [eF]; exact ok.las
  · intro x hx; cases hx
  · intro j hj
    rw [hC.nl.1] at hj
    obtain ⟨z1, z2, z3⟩ := hz j hj
    refine ⟨[], [], rfl, by simp, by simp, z1, ?_, ?_, by simp⟩
    · intro k _; rw [eF]; rfl
    · intro k hk; rw [eF]; exact z3 k hk
  · rw [hC.st.1, h.sd]; exact n1.symm
  · rw [hC.st.2.1, h.ss]; exact n2.symm
  · rw [hC.st.2.2.1, h.sf]; exact n3.symm
  · rw [hC.st.2.2.2, h.se]; exact n4.symm

/-- Two of each: the same just if they look so. -/
def SameR (r r' : Rf) : Prop := lastW r.F (prs r.L) = lastW r'.F (prs r'.L) ∧ lastW r.F (prs (las r.L)) = lastW r'.F (prs (las r'.L)) ∧ ∀ j, j < r.nl → prs (pen j r.L) = prs (pen j r'.L) ∧ ∀ i, (h : i < (pen j r.L).length) → (h' : i < (pen j r'.L).length) → ∀ c, c ≤ 64 → (c ∈ ((pen j r.L)[i]).m ↔ c ∈ ((pen j r'.L)[i]).m)
theorem mks_pen {s : St} {r : Rf} (h : RelAt s r) {j : Nat} (hj : j < s.nl) {i : Nat} (hi : i < (pen j r.L).length) {c : Nat} (hc : c ≤ 64) : c ∈ ((pen j r.L)[i]).m ↔ i < s.mm j c := by
  obtain ⟨D, P, q⟩ := h.ln j hj
  have e := q.pen
  have := q.mks c hc i (by rw [← e]; exact hi)
  rw [← this]
  simp only [e]
theorem same_rel {s s' : St} {r r' : Rf} (h : RelAt s r) (h' : RelAt s' r') : (s.view = s'.view ∧ s.lasted = s'.lasted ∧ s.pend = s'.pend ∧ (∀ j, j < s.nl → ∀ c, c < 65 → s.mm j c = s'.mm j c)) ↔ SameR r r' := by
  constructor
  · rintro ⟨h1, h2, h3, h4⟩
    have hn : s.nl = s'.nl := by have := h.vl; rw [h1, h'.vl] at this; omega
    refine ⟨by rw [← h.view, ← h'.view, h1], by rw [← h.image, ← h'.image, h2], ?_⟩
    intro j hj
    rw [h.nl] at hj
    refine ⟨by rw [← h.pend j hj, ← h'.pend j (by omega), h3], ?_⟩
    intro i hi hi' c hc
    rw [mks_pen h hj hi hc, mks_pen h' (by omega) hi' hc, h4 j hj c (by omega)]
  · rintro ⟨h1, h2, h3⟩
    have e1 : s.view = s'.view := by rw [h.view, h'.view, h1]
    have hn : s.nl = s'.nl := by have := h.vl; rw [e1, h'.vl] at this; omega
    refine ⟨e1, by rw [h.image, h'.image, h2], ?_, ?_⟩
    · apply List.ext_getElem (by rw [h.pl, h'.pl, hn])
      intro j hj hj'
      have := (h3 j (by rw [h.nl, ← h.pl]; exact hj)).1
      rw [← h.pend j (by rw [← h.pl]; exact hj), ← h'.pend j (by rw [← h'.pl]; exact hj'), getD_at hj, getD_at hj'] at this
      exact this
    · intro j hj c hc
      obtain ⟨g1, g2⟩ := h3 j (by rw [h.nl]; exact hj)
      have hl : (pen j r.L).length = (pen j r'.L).length := by rw [← prs_len, g1, prs_len]
      have b1 := h.ok.mks j c
      have b2 := h'.ok.mks j c
      rw [h.pcount j hj] at b1
      rw [h'.pcount j (by omega)] at b2
      have key : ∀ i, i < (pen j r.L).length → (i < s.mm j c ↔ i < s'.mm j c) := by
        intro i hi
        rw [← mks_pen h hj hi (by omega), ← mks_pen h' (by omega) (by omega) (by omega)]
        exact g2 i hi (by omega) c (by omega)
      rcases Nat.lt_trichotomy (s.mm j c) (s'.mm j c) with q | q | q
      · have := (key (s.mm j c) (by omega)).2 q; omega
      · exact q
      · have := (key (s'.mm j c) (by omega)).1 q; omega
end Go.Proofs.Ytkeajfedlhgejaa
