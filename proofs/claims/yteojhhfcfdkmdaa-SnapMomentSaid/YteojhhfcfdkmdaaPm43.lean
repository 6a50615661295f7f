/- Texts of this claim, packed: SnMd, SnMe, SnWd, SnWr, SnWs0, SnWs, SnNw. -/
import Derived.Test.YteojhhfcfdkmdaaPm35
import Derived.Test.YteojhhfcfdkmdaaPm41
import Derived.Test.YteojhhfcfdkmdaaPm34
import Derived.Test.YteojhhfcfdkmdaaPm42
import Derived.Test.YteojhhfcfdkmdaaPm38
import Derived.Test.YteojhhfcfdkmdaaPm05
import Derived.Test.YteojhhfcfdkmdaaPm11
set_option linter.unusedSimpArgs false
set_option linter.unusedVariables false
/- A writer's way, change by change, and the history of the node's words that it makes; plain facts; conditions: each change was asked for. -/
namespace Go.Proofs.Yteojhhfcfdkmdaa
open Go.RowKit
set_option linter.unusedVariables false
/-- A change under way: the node ahead of it, its stores, how many are done, the node as it stands. -/
structure Wr where
  n0 : Nd
  ls : List (Int × Int)
  i : Nat
  c : Nd
structure WrOk (x : Wr) : Prop where
  cur : apL 1088 x.n0 (x.ls.take x.i) = some x.c
  le : x.i ≤ x.ls.length
  ok : CurOk x.c
  ask : x.ls = [] ∨ ∃ d key ptr, 0 ≤ d ∧ d < 6 ∧ InW key ∧ InW ptr ∧ (d = 5 → ptr = 1280) ∧ CurOk x.n0 ∧ askP 1088 x.n0 d key ptr = (x.ls, 0)
def Wr.rest (n : Nd) : Wr := ⟨n, [], 0, n⟩
theorem rest_ok {n : Nd} (h : CurOk n) : WrOk (Wr.rest n) := ⟨rfl, Nat.le_refl _, h, .inl rfl⟩
theorem wr_begin {n : Nd} {d key ptr : Int} {l : List (Int × Int)} (h0 : 0 ≤ d) (h6 : d < 6) (hn : CurOk n) (hk : InW key) (hp : InW ptr) (h5 : d = 5 → ptr = 1280) (h : askP 1088 n d key ptr = (l, 0)) : WrOk ⟨n, l, 0, n⟩ :=
  ⟨rfl, Nat.zero_le _, hn, .inr ⟨d, key, ptr, h0, h6, hk, hp, h5, hn, h⟩⟩
/-- A store is done. -/
theorem wr_store {x : Wr} (h : WrOk x) (hi : x.i < x.ls.length) : ∃ m, WrOk { x with i := x.i + 1, c := m } ∧ (x.i + 1 = x.ls.length → m.inv = -1 ∧ apL 1088 x.n0 x.ls = some m) ∧
    (∃ j : Nat, 0 < j ∧ j < 24 ∧ x.ls[x.i].1 = 1088 + 8 * (j : Int) ∧ wo9 m = (wo9 x.c).set j x.ls[x.i].2 ∧ InW x.ls[x.i].2) ∧
    (m.ct = if x.i = 0 ∨ x.i + 1 = x.ls.length then IntKind.u64.wrap (x.c.ct + 1) else x.c.ct) ∧
    (∀ j, (wo9 m).getD j 0 ≠ (wo9 x.c).getD j 0 → ∀ k, k ≤ x.i → ∀ mk, apL 1088 x.n0 (x.ls.take k) = some mk → (wo9 mk).getD j 0 ≠ (wo9 m).getD j 0) := by
  rcases h.ask with h0 | ⟨d, key, ptr, d0, d6, hk, hp, h5, hn, ha⟩
  · rw [h0] at hi
    exact absurd hi (Nat.not_lt_zero _)
  · obtain ⟨hst, hlen, hw⟩ := way_ok d0 d6 hn hk hp h5 ha
    obtain ⟨m, hm, hmok, hinv⟩ := hw (x.i + 1) hi
    obtain ⟨hct, hnew⟩ := once_law d0 d6 ha hi h.cur hm
    obtain ⟨j, j0, j1, j2, j3⟩ := way_next hi h.cur hm
    refine ⟨m, ⟨hm, hi, hmok, .inr ⟨d, key, ptr, d0, d6, hk, hp, h5, hn, ha⟩⟩, fun e => ⟨hinv e, by rw [e, List.take_length] at hm; exact hm⟩, ⟨j, j0, j1, j2, j3, (hst _ (List.getElem_mem hi)).1⟩, ?_, hnew⟩
    have hcc : x.i = 0 ∨ 0 < x.i ∧ x.c.ct = IntKind.u64.wrap (x.n0.ct + 1) := by
      by_cases e : x.i = 0
      · exact .inl e
      · right
        obtain ⟨u, hu⟩ : ∃ u, x.i = u + 1 := ⟨x.i - 1, by omega⟩
        obtain ⟨mu, hmu, _⟩ := hw u (by omega)
        have hc := h.cur
        rw [hu] at hc
        have := (once_law d0 d6 ha (by omega) hmu hc).1
        rw [if_pos (by omega)] at this
        exact ⟨by omega, this⟩
    rw [hct]
    rcases hcc with e | ⟨e, hc⟩
    · rw [if_pos (by omega), if_pos (.inl e)]
      have hc := h.cur
      rw [e] at hc
      have hc : some x.n0 = some x.c := hc
      rw [Option.some.inj hc]
    · by_cases hl : x.i + 1 = x.ls.length
      · rw [if_neg (by omega), if_pos (.inr hl), hc]
        simp only [IntKind.wrap_u64]
        omega
      · rw [if_pos (by omega), if_neg (by omega), hc]
/-- What is known of the past: the node at each time, and how many times it was counted up. -/
def Xc (C : Nat → Nd) (a j : Nat) : Int := (wo9 (C a)).getD j 0
structure HW (C : Nat → Nd) (cN : Nat → Nat) (t : Nat) (x : Wr) : Prop where
  hist : Hist (Xc C) cN t
  cnt : ∀ a, a ≤ t → (C a).ct = IntKind.u64.wrap ((C 0).ct + cN a)
  le : cN t ≤ t
  cur : C t = x.c
  all : ∀ a, a ≤ t → CurOk (C a)
  mid : 0 < x.i → x.i < x.ls.length → ∀ a, a ≤ t → cN a = cN t → ∃ q, q ≤ x.i ∧ apL 1088 x.n0 (x.ls.take q) = some (C a)
theorem ct_in {n : Nd} (h : CurOk n) : InW n.ct := h.in9.at_ 3
theorem wrap_in' {x : Int} (h : InW x) : IntKind.u64.wrap x = x := by
  obtain ⟨h1, h2⟩ := h
  rw [IntKind.wrap_u64]
  omega
theorem hw_zero {x : Wr} (h : WrOk x) : HW (fun _ => x.c) (fun _ => 0) 0 x :=
  ⟨hist_zero _ _, fun a _ => by show x.c.ct = IntKind.u64.wrap (x.c.ct + ((0 : Nat) : Int)); rw [show x.c.ct + ((0 : Nat) : Int) = x.c.ct by omega, wrap_in' (ct_in h.ok)], Nat.le_refl _, rfl, fun _ _ => h.ok, fun _ _ a _ _ => ⟨x.i, Nat.le_refl _, h.cur⟩⟩
section
variable {C : Nat → Nd} {cN : Nat → Nat} {t : Nat} {x x' : Wr}
/-- Another change begins, or one is through: at the same time. -/
theorem HW.turn (h : HW C cN t x) (hc : x'.c = x.c) (hi : x'.i = 0) : HW C cN t x' :=
  ⟨h.hist, h.cnt, h.le, h.cur.trans hc.symm, h.all, fun h0 => by omega⟩
/-- The past, and one moment more. -/
def upC (C : Nat → Nd) (t : Nat) (m : Nd) (a : Nat) : Nd := if a ≤ t then C a else m
def upN9 (cN : Nat → Nat) (t k : Nat) (a : Nat) : Nat := if a ≤ t then cN a else k
theorem upC_old {m : Nd} {a : Nat} (h : a ≤ t) : upC C t m a = C a := if_pos h
theorem upC_new {m : Nd} : upC C t m (t + 1) = m := if_neg (by omega)
theorem upN_old {k a : Nat} (h : a ≤ t) : upN9 cN t k a = cN a := if_pos h
theorem upN_new {k : Nat} : upN9 cN t k (t + 1) = k := if_neg (by omega)
theorem Xc_old {m : Nd} {a : Nat} (h : a ≤ t) : Xc (upC C t m) a = Xc C a := by
  funext j
  unfold Xc
  rw [upC_old h]
/-- Time passes, and nothing is stored. -/
theorem HW.stay (h : HW C cN t x) (hx : WrOk x) : HW (upC C t x.c) (upN9 cN t (cN t)) (t + 1) x := by
  refine ⟨?_, fun a ha => ?_, ?_, upC_new, fun a ha => ?_, fun h0 h1 a ha he => ?_⟩
  · refine h.hist.next (fun a ha => Xc_old ha) (fun a ha => upN_old ha) (by rw [upN_old (Nat.le_refl _), upN_new]; exact Nat.le_refl _) (fun a ha he => ?_) (.inr fun j hj hne => ?_)
    · rw [upN_old ha, upN_new]
      refine h.hist.eqc a t ha (Nat.le_refl _) ?_
      rw [he]
      unfold Xc
      rw [upC_new, h.cur]
    · exfalso
      apply hne
      unfold Xc
      rw [upC_new, h.cur]
  · rw [upC_old (Nat.zero_le _)]
    by_cases e : a ≤ t
    · rw [upC_old e, upN_old e]
      exact h.cnt a e
    · obtain rfl : a = t + 1 := by omega
      rw [upC_new, upN_new, ← h.cur]
      exact h.cnt t (Nat.le_refl _)
  · rw [upN_new]
    have := h.le
    omega
  · by_cases e : a ≤ t
    · rw [upC_old e]
      exact h.all a e
    · obtain rfl : a = t + 1 := by omega
      rw [upC_new]
      exact hx.ok
  · rw [upN_new] at he
    by_cases e : a ≤ t
    · rw [upN_old e] at he
      obtain ⟨q, hq, hq2⟩ := h.mid h0 h1 a e he
      exact ⟨q, hq, by rw [upC_old e]; exact hq2⟩
    · obtain rfl : a = t + 1 := by omega
      exact ⟨x.i, Nat.le_refl _, by rw [upC_new]; exact hx.cur⟩
/-- A store is done: the history goes on. -/
theorem HW.store (h : HW C cN t x) (hx : WrOk x) (hi : x.i < x.ls.length) {m : Nd} (ht : t ≤ 1000000)
    (hok : WrOk { x with i := x.i + 1, c := m })
    (hct : m.ct = if x.i = 0 ∨ x.i + 1 = x.ls.length then IntKind.u64.wrap (x.c.ct + 1) else x.c.ct)
    (hnew : ∀ j, (wo9 m).getD j 0 ≠ (wo9 x.c).getD j 0 → ∀ k, k ≤ x.i → ∀ mk, apL 1088 x.n0 (x.ls.take k) = some mk → (wo9 mk).getD j 0 ≠ (wo9 m).getD j 0) :
    ∃ cN', HW (upC C t m) cN' (t + 1) { x with i := x.i + 1, c := m } := by
  obtain ⟨K, hK⟩ : ∃ K, K = if x.i = 0 ∨ x.i + 1 = x.ls.length then cN t + 1 else cN t := ⟨_, rfl⟩
  have hle := h.le
  have hmono : ∀ a, a ≤ t → cN a ≤ cN t := fun a ha => h.hist.mono a t ha (Nat.le_refl _)
  have hKle : cN t ≤ K ∧ K ≤ cN t + 1 := by rw [hK]; split <;> omega
  have hcur : x.c.ct = IntKind.u64.wrap ((C 0).ct + cN t) := by rw [← h.cur]; exact h.cnt t (Nat.le_refl _)
  have hmct : m.ct = IntKind.u64.wrap ((C 0).ct + K) := by
    rw [hct, hK]
    split
    · rw [hcur]
      simp only [IntKind.wrap_u64]
      omega
    · exact hcur
  have heq : ∀ a, a ≤ t → Xc C a 3 = (wo9 m).getD 3 0 → cN a = K := fun a ha he => by
    have h1 : (C a).ct = m.ct := he
    rw [h.cnt a ha, hmct] at h1
    simp only [IntKind.wrap_u64] at h1
    have := hmono a ha
    omega
  refine ⟨upN9 cN t K, ?_, fun a ha => ?_, ?_, upC_new, fun a ha => ?_, fun h0 h1 a ha he => ?_⟩
  · refine h.hist.next (fun a ha => Xc_old ha) (fun a ha => upN_old ha) (by rw [upN_old (Nat.le_refl _), upN_new]; exact hKle.1) (fun a ha he => ?_) ?_
    · rw [upN_old ha, upN_new]
      refine heq a ha ?_
      rw [he]
      unfold Xc
      rw [upC_new]
    · by_cases hc : x.i = 0 ∨ x.i + 1 = x.ls.length
      · left
        intro a ha
        rw [upN_old ha, upN_new, hK, if_pos hc]
        have := hmono a ha
        omega
      · right
        intro j hj hne a ha he
        rw [upN_old ha, upN_new, hK, if_neg hc] at he
        obtain ⟨q, hq, hq2⟩ := h.mid (by omega) hi a ha he
        have hne' : (wo9 m).getD j 0 ≠ (wo9 x.c).getD j 0 := by
          unfold Xc at hne
          rw [upC_new, h.cur] at hne
          exact hne
        unfold Xc
        rw [upC_new]
        exact hnew j hne' q hq _ hq2
  · rw [upC_old (Nat.zero_le _)]
    by_cases e : a ≤ t
    · rw [upC_old e, upN_old e]
      exact h.cnt a e
    · obtain rfl : a = t + 1 := by omega
      rw [upC_new, upN_new]
      exact hmct
  · rw [upN_new]
    omega
  · by_cases e : a ≤ t
    · rw [upC_old e]
      exact h.all a e
    · obtain rfl : a = t + 1 := by omega
      rw [upC_new]
      exact hok.ok
  · rw [upN_new] at he
    have h1 : x.i + 1 < x.ls.length := h1
    by_cases e : a ≤ t
    · rw [upN_old e, hK] at he
      have := hmono a e
      by_cases hc : x.i = 0
      · rw [if_pos (.inl hc)] at he
        omega
      · rw [if_neg (by omega)] at he
        obtain ⟨q, hq, hq2⟩ := h.mid (by omega) hi a e he
        exact ⟨q, Nat.le_succ_of_le hq, by rw [upC_old e]; exact hq2⟩
    · obtain rfl : a = t + 1 := by omega
      exact ⟨x.i + 1, Nat.le_refl _, by rw [upC_new]; exact hok.cur⟩
end
/-- Its words are a node's. -/
theorem ofR_wo9 {c : Nd} (h : isLv c = true) : ofR (wo9 c) = (c, 0) := by
  have e : wo9 c = wi c := by
    unfold wo9 wi
    rw [if_pos h]
  rw [e, (wi_of c).2, if_pos h]
/-- A snapshot that is through is the node as it stood at some time. -/
theorem sn_done {C : Nat → Nd} {cN : Nat → Nat} {t : Nat} {x : Wr} {S : SS} {lw : Int} (H : HW C cN t x) (h : SnIn (Xc C) t lw S) (hp : S.ph = .en) (hs : sameR (rput S.r 27 (Xc C t 3)) = true) :
    ∃ σ, σ ≤ t ∧ (S.next (Xc C t 3) 0).d = true ∧ (S.next (Xc C t 3) 0).k = 0 ∧ (S.next (Xc C t 3) 0).n = (C σ).tr ((C σ).len + 1) (C σ).len ∧ ((C σ).nx ≠ 0 → (S.next (Xc C t 3) 0).lo = lw) := by
  obtain ⟨σ, hσ, hf, hl⟩ := h.fin H.hist hp hs
  have hR := ofR_full (x := wo9 (C σ)) (W := Xc C σ) (fun i hi => rfl)
  rw [ofR_wo9 (H.all σ hσ).lv] at hR
  have hrd : rdL (rput S.r 27 (Xc C t 3)) 24 = (List.range 24).map (fullC (Xc C σ) (Xc C σ 3)) := by
    unfold rdL
    exact List.map_congr_left fun j hj => hf j (List.mem_range.1 hj)
  have hrd2 : ofR (rdL (rput S.r 27 (Xc C t 3)) 24) = ((C σ).tr ((C σ).len + 1) (C σ).len, 0) := by rw [hrd]; exact hR
  have h26 : S.r 26 = (C σ).nx := by
    have h1 := hf 2 (by omega)
    unfold rput at h1
    rw [if_neg (by omega)] at h1
    rw [show 24 + 2 = 26 from rfl] at h1
    rw [h1]
    unfold fullC
    rw [if_neg (by omega), full_low (by omega) (by omega)]
    rfl
  obtain ⟨ph, d, k, a, r, wh, wd, lo, n⟩ := S
  dsimp only at hp hs hrd2 h26 hl
  subst hp
  refine ⟨σ, hσ, ?_, ?_, ?_, fun hx => ?_⟩
  · show (enD false (rput r 27 (Xc C t 3)) 0 || enK (rput r 27 (Xc C t 3)) 0 != 0) = true
    unfold enD
    rw [if_pos ⟨rfl, hs⟩]
    rfl
  · show enK (rput r 27 (Xc C t 3)) 0 = 0
    unfold enK
    rw [if_pos ⟨rfl, hs⟩, hrd2]
  · show enN n (rput r 27 (Xc C t 3)) 0 = _
    unfold enN
    rw [if_pos ⟨rfl, hs⟩, hrd2]
  · exact hl (by rw [h26]; exact hx)
/-- A snapshot that is not: it begins anew. -/
theorem sn_again {C : Nat → Nd} {t : Nat} {S : SS} {lw v : Int} (h : SnIn (Xc C) t lw S) (hp : S.ph = .en) (hs : ¬ sameR (rput S.r 27 v) = true) : SnIn (Xc C) t lw (S.next v 0) ∧ (S.next v 0).k = 0 := by
  obtain ⟨ph, d, k, a, r, wh, wd, lo, n⟩ := S
  dsimp only at hp hs
  subst hp
  have hd : d = false := h.1
  have hph : (SS.next ⟨.en, d, k, a, r, wh, wd, lo, n⟩ v 0).ph = .bg := if_neg fun h => hs h.2
  have hk : enK (rput r 27 v) 0 = 0 := if_neg fun h => hs h.2
  have hdd : enD false (rput r 27 v) 0 = false := if_neg fun h => hs h.2
  refine ⟨⟨?_, ?_⟩, hk⟩
  · show (enD false (rput r 27 v) 0 || enK (rput r 27 v) 0 != 0) = false
    rw [hk, hdd]
    rfl
  · rw [hph]
    trivial
end Go.Proofs.Yteojhhfcfdkmdaa
/- A writer's run, step by step: the node's words as a memory shows them, and the history; plain facts; conditions: the change was asked for. -/
namespace Go.Proofs.Yteojhhfcfdkmdaa
open Go.RowKit
set_option linter.unusedVariables false
/-- A run under way, of a change. -/
structure RnIn (x : Wr) (r : RnRS) : Prop where
  good : r.Good 64
  left : r.left = natL (x.ls.drop x.i)
  ph : r.ph ≠ .en
/-- What is seen of the node, and of the one to its right. -/
structure MemIn (s : St) (low : Int) (c : Nd) : Prop where
  wd : ∀ j, j < 24 → ((s.view.getD (136 + j) 0 : Nat) : Int) = (wo9 c).getD j 0
  lo : ((s.view.getD 161 0 : Nat) : Int) = low
/-- The history goes on, one moment. -/
def StepRel (x x' : Wr) : Prop := ∀ C cN t, t ≤ 1000000 → HW C cN t x → ∃ cN', HW (upC C t x'.c) cN' (t + 1) x'
theorem rel_stay {x : Wr} (h : WrOk x) : StepRel x x := fun C cN t _ hw => ⟨_, hw.stay h⟩
theorem rel_turn {x x' x2 : Wr} (h : StepRel x x') (hc : x2.c = x'.c) (hi : x2.i = 0) : StepRel x x2 := fun C cN t ht hw => by
  obtain ⟨cN', h'⟩ := h C cN t ht hw
  refine ⟨cN', ?_⟩
  have := h'.turn (x' := x2) hc hi
  rw [hc]
  exact this
theorem rel_from {x x0 x' : Wr} (hc : x0.c = x.c) (hi : x0.i = 0) (h : StepRel x0 x') : StepRel x x' := fun C cN t ht hw => h C cN t ht (hw.turn hc hi)
theorem natL_cons (e : Int × Int) (l : List (Int × Int)) : natL (e :: l) = (e.1.toNat, e.2.toNat) :: natL l := rfl
theorem getD_set {l : List Nat} {i : Nat} (hi : i < l.length) (x : Nat) (j : Nat) : (l.set i x).getD j 0 = if j = i then x else l.getD j 0 := by
  rw [List.getD_eq_getElem?_getD, List.getElem?_set]
  by_cases h : i = j
  · subst h
    simp [hi]
  · rw [if_neg h, if_neg (fun e => h e.symm), List.getD_eq_getElem?_getD]
theorem getD_setI {l : List Int} {i : Nat} (hi : i < l.length) (x : Int) (j : Nat) : (l.set i x).getD j 0 = if j = i then x else l.getD j 0 := by
  rw [List.getD_eq_getElem?_getD, List.getElem?_set]
  by_cases h : i = j
  · subst h
    simp [hi]
  · rw [if_neg h, if_neg (fun e => h e.symm), List.getD_eq_getElem?_getD]
theorem mem_store {s : St} {low : Int} {c m : Nd} {j : Nat} {v : Int} (h : MemIn s low c) (hl : s.view.length = 512) (j1 : j < 24) (hv : 0 ≤ v) (hm : wo9 m = (wo9 c).set j v) : MemIn (s.store (1088 + 8 * j) v.toNat) low m := by
  have e : (s.store (1088 + 8 * j) v.toNat).view = s.view.set (136 + j) v.toNat := by
    show s.view.set ((1088 + 8 * j) / 8) v.toNat = _
    rw [show (1088 + 8 * j) / 8 = 136 + j by omega]
  refine ⟨fun q hq => ?_, ?_⟩
  · rw [e, getD_set (by omega), hm, getD_setI (by rw [wo9_len]; exact j1)]
    by_cases h1 : q = j
    · rw [if_pos (by omega), if_pos h1]
      omega
    · rw [if_neg (by omega), if_neg h1]
      exact h.wd q hq
  · rw [e, getD_set (by omega), if_neg (by omega)]
    exact h.lo
theorem mem_same {s s' : St} {low : Int} {c : Nd} (h : MemIn s low c) (e : s'.view = s.view) : MemIn s' low c := ⟨by rw [e]; exact h.wd, by rw [e]; exact h.lo⟩
/-- A step of the run. -/
theorem run_step {x : Wr} {r : RnRS} {s : St} {low : Int} {n k : Nat} (hx : WrOk x) (hr : RnIn x r) (hm : MemIn s low x.c) (hl : Lds 64 n s) (hn : n ≤ 1000000) (hs : Small s k) :
    ∃ x1, WrOk x1 ∧ MemIn (r.mem s) low x1.c ∧ StepRel x x1 ∧ x1.n0 = x.n0 ∧ x1.ls = x.ls ∧ Lds 64 (n + 1) (r.mem s) ∧ Small (r.mem s) (k + 1) ∧ (r.next.done = false → RnIn x1 r.next) ∧ (r.next.done = true → x1.i = x1.ls.length) := by
  have hS := mem_Small (r := r) hs
  obtain ⟨g, hleft, hph⟩ := hr
  have hvl : s.view.length = 512 := hl.vl
  obtain ⟨c, left, line, ph, done, code⟩ := r
  dsimp only at hleft hph
  cases ph with
  | en => exact absurd rfl hph
  | st =>
    by_cases hi : x.i < x.ls.length
    · rw [List.drop_eq_getElem_cons hi, natL_cons] at hleft
      obtain ⟨m, hok, hend, ⟨j, j0, j1, j2, j3, jv⟩, hct, hnew⟩ := wr_store hx hi
      have ha : x.ls[x.i].1.toNat = 1088 + 8 * j := by rw [j2]; omega
      rw [ha] at hleft
      subst hleft
      have hmem : (RnRS.mem ⟨c, (1088 + 8 * j, x.ls[x.i].2.toNat) :: natL (x.ls.drop (x.i + 1)), line, .st, done, code⟩ s) = s.store (1088 + 8 * j) x.ls[x.i].2.toNat := rfl
      have hnx : (RnRS.next ⟨c, (1088 + 8 * j, x.ls[x.i].2.toNat) :: natL (x.ls.drop (x.i + 1)), line, .st, done, code⟩).left = natL (x.ls.drop (x.i + 1)) := rfl
      have hnp : (RnRS.next ⟨c, (1088 + 8 * j, x.ls[x.i].2.toNat) :: natL (x.ls.drop (x.i + 1)), line, .st, done, code⟩).ph ≠ .en := by
        show (if ends (1088 + 8 * j) (natL (x.ls.drop (x.i + 1))) then Ph.fl else .st) ≠ .en
        split <;> (intro h; cases h)
      have hnd : (RnRS.next ⟨c, (1088 + 8 * j, x.ls[x.i].2.toNat) :: natL (x.ls.drop (x.i + 1)), line, .st, done, code⟩).done = false := g.dn
      rw [hmem] at hS ⊢
      refine ⟨{ x with i := x.i + 1, c := m }, hok, mem_store hm hvl j1 jv.1 j3, fun C cN t ht hw => ?_, rfl, rfl, hl.store hn (by omega) (by omega) (by have := jv.2; omega), hS, fun hd => ⟨next_Good g hd, hnx, hnp⟩, fun hd => ?_⟩
      · exact hw.store hx hi ht hok hct hnew
      · rw [hnd] at hd
        cases hd
    · rw [List.drop_of_length_le (by omega)] at hleft
      exact absurd hleft (g.lf rfl)
  | fl =>
    refine ⟨x, hx, mem_same hm rfl, rel_stay hx, rfl, rfl, hl.flush hn _ _, hS, fun hd => ⟨next_Good g hd, hleft, fun h => by cases h⟩, fun hd => ?_⟩
    have : done = true := hd
    have h2 : done = false := g.dn
    rw [this] at h2
    cases h2
  | fe =>
    refine ⟨x, hx, mem_same hm rfl, rel_stay hx, rfl, rfl, hl.fence hn _, hS, fun hd => ⟨next_Good g hd, hleft, fun h => by cases h⟩, fun hd => ?_⟩
    have h1 : left.isEmpty = true := hd
    rw [List.isEmpty_iff.1 h1] at hleft
    have h2 : (natL (x.ls.drop x.i)).length = 0 := by rw [← hleft]; rfl
    unfold natL at h2
    rw [List.length_map, List.length_drop] at h2
    have := hx.le
    omega
end Go.Proofs.Yteojhhfcfdkmdaa
/- A writer as it lies: its node, what is asked, its run, its memory; conditions: they lie. -/
namespace Go.Proofs.Yteojhhfcfdkmdaa
open Go.RowKit
set_option linter.unusedVariables false
/-- What is asked, as it lies. -/
abbrev Ask3 := Int × Int × Int
def Ask3At (W : World) (V : Value) (l : List Ask3) : Prop :=
  ∃ B cap, V = .slice B l.length cap ∧ l.length ≤ cap ∧ cap ≤ maxLen ∧ ∀ k q, l[k]? = some q → ∃ b, B = some b ∧ W.cell? (b.add (3 * k)) = some (.int .i64 q.1) ∧ W.cell? (b.add (3 * k + 1)) = some (.int .u64 q.2.1) ∧ W.cell? (b.add (3 * k + 2)) = some (.int .u64 q.2.2)
theorem cell_lt {W : World} {p : Addr} {v : Value} (h : W.cell? p = some v) : p.block < W.heap.size := W.block_lt_of_cell? _ h
theorem Ask3At.below {W W' : World} {V : Value} {l : List Ask3} (h : Ask3At W V l) (hb : Below W.heap.size W W') : Ask3At W' V l := by
  obtain ⟨B, cap, rfl, h1, h2, h3⟩ := h
  refine ⟨B, cap, rfl, h1, h2, fun k q hq => ?_⟩
  obtain ⟨b, rfl, a0, a1, a2⟩ := h3 k q hq
  exact ⟨b, rfl, (hb.cell (cell_lt a0)).trans a0, (hb.cell (cell_lt a1)).trans a1, (hb.cell (cell_lt a2)).trans a2⟩
theorem under_Asks : Try.prog.underlying 28 = some (.slice (Try.prog.elem 28)) := by kernel_rfl
theorem size_Asks (w : World) : (sizeOf (Try.prog.elem 28)).run Try.prog w = .ok 3 w := by kernel_rfl
/-- The first one, and the others. -/
theorem Ask3At.head {W : World} {V : Value} {q : Ask3} {t : List Ask3} (h : Ask3At W V (q :: t)) : ∃ b cap P2, V = .slice (some b) (t.length + 1) cap ∧ t.length + 1 ≤ cap ∧ cap ≤ maxLen ∧ W.cell? b = some (.int .i64 q.1) ∧ W.cell? ⟨b.block, b.off + 1, none⟩ = some (.int .u64 q.2.1) ∧ W.cell? ⟨b.block, b.off + 2, none⟩ = some (.int .u64 q.2.2) ∧
    (∀ W', (Instr.slice 28 (.slice (some b) (t.length + 1) cap) (some (.int .i64 1)) none none).run Try.prog W' = .ok (.slice P2 t.length (cap - 1)) W') ∧ Ask3At W (.slice P2 t.length (cap - 1)) t := by
  obtain ⟨B, cap, rfl, h1, h2, h3⟩ := h
  obtain ⟨b, rfl, a0, a1, a2⟩ := h3 0 q rfl
  rw [List.length_cons] at h1
  refine ⟨b, cap, if cap = 1 then some b else some (b.add 3), rfl, h1, h2, ?_, ?_, ?_, fun W' => ?_, _, _, rfl, by omega, by omega, fun k z hz => ?_⟩
  · have := a0
    rw [Nat.mul_zero, Addr.add_zero'] at this
    exact this
  · have := a1
    simp only [Nat.mul_zero, Nat.zero_add, Addr.add_succ'] at this
    simpa using this
  · have := a2
    simp only [Nat.mul_zero, Nat.zero_add, Addr.add_succ'] at this
    simpa using this
  · have := run_slice_l (P := Try.prog) (w := W') 28 (some b) (t.length + 1) cap under_Asks .i64 1 (by omega) (by omega)
    rw [size_Asks] at this
    refine Eq.trans this ?_
    simp only [Result.andThen, sliced]
    by_cases e : cap = 1
    · rw [if_pos e]
      simp [e]
    · rw [if_neg e]
      simp [e]
  · have hk : k < t.length := (List.getElem?_eq_some_iff.1 hz).1
    obtain ⟨b', hb', c0, c1, c2⟩ := h3 (k + 1) z (by rw [List.getElem?_cons_succ]; exact hz)
    cases hb'
    refine ⟨b.add 3, by rw [if_neg (by omega)], ?_, ?_, ?_⟩
    · rw [Addr.add_add, show 3 + 3 * k = 3 * (k + 1) by omega]; exact c0
    · rw [Addr.add_add, show 3 + (3 * k + 1) = 3 * (k + 1) + 1 by omega]; exact c1
    · rw [Addr.add_add, show 3 + (3 * k + 2) = 3 * (k + 1) + 2 by omega]; exact c2
/-- A writer's cells. -/
def wrV (gy : Nat) (n : Nd) (V R : Value) : List Value := .pointer (some ⟨gy, 0, none⟩) :: (n.cl ++ [V, R])
def rpV : Option (Nat × RnRS × Value) → Value
  | none => .pointer none
  | some (rg, _) => .pointer (some ⟨rg, 0, none⟩)
def RunO (W : World) (y : Lay) (gw B : Nat) : Option (Nat × RnRS × Value) → Prop
  | none => True
  | some (rg, r, VR) => RunOn W y rg r VR ∧ rg ≠ gw ∧ B ≤ rg
def RunX (x : Wr) (nE : Nd) : Option (Nat × RnRS × Value) → Prop
  | none => x = Wr.rest nE
  | some (_, r, _) => RnIn x r ∧ apL 1088 x.n0 x.ls = some nE
def rK : Option (Nat × RnRS × Value) → Nat → Prop
  | none, _ => False
  | some (rg, r, VR), k => k = rg ∨ (r.left ≠ [] ∧ VR.ownBlock = some k)
/-- A writer on its way. -/
structure WS (w0 : World) (gw mS mL : Nat) (low : Int) (y : Lay) (s : St) (x : Wr) (nE : Nd) (l : List Ask3) (R : Option (Nat × RnRS × Value)) (W : World) : Prop where
  mem : MemAt W y s
  fm : ∀ k, y.fp k → w0.heap.size ≤ k
  sep : ¬ y.fp gw
  row : ∃ V, Row W gw 39 (wrV y.g nE V (rpV R)).toArray ∧ Ask3At w0 V l
  ro : RunO W y gw w0.heap.size R
  lds : Lds 64 mL s
  sm : Small s mS
  ok : WrOk x
  mi : MemIn s low x.c
  rx : RunX x nE R
  ce : CurOk nE
  lw : Below w0.heap.size w0 W
  pw : w0.heap.size ≤ gw
  few : ∀ q ∈ l, InW q.2.1 ∧ InW q.2.2
section
variable {w0 W W' : World} {gw mS mL : Nat} {low : Int} {y : Lay} {s : St} {x : Wr} {nE : Nd} {l : List Ask3} {R : Option (Nat × RnRS × Value)}
theorem RunO.below {B : Nat} (h : RunO W y gw B R) (hb : Below W.heap.size W W') : RunO W' y gw B R := by
  match R, h with
  | none, _ => trivial
  | some (rg, r, VR), h =>
    obtain ⟨h1, h2, h3⟩ := h
    exact ⟨h1.below hb, h2, h3⟩
theorem WS.below (h : WS w0 gw mS mL low y s x nE l R W) (hb : Below W.heap.size W W') : WS w0 gw mS mL low y s x nE l R W' := by
  obtain ⟨V, hr, ha⟩ := h.row
  exact { h with mem := h.mem.below hb, row := ⟨V, hr.below hb hr.lt, ha⟩, ro := h.ro.below hb, lw := h.lw.trans (hb.mono h.lw.size) }
/-- The writer's own cells turn, while no run is under way. -/
theorem WS.own (h : WS w0 gw mS mL low y s x nE l none W) {x' : Wr} {nE' : Nd} {l' : List Ask3} {V : Value} (hb : But W W' (fun k => k = gw)) (hr : Row W' gw 39 (wrV y.g nE' V (.pointer none)).toArray) (ha : Ask3At w0 V l') (hf : ∀ q ∈ l', InW q.2.1 ∧ InW q.2.2) (hx : x' = x) (hn : nE' = nE) : WS w0 gw mS mL low y s x' nE' l' none W' := by
  subst hx hn
  exact { h with mem := h.mem.but hb (fun k hk e => h.sep (e ▸ hk)), row := ⟨V, hr, ha⟩, ro := trivial, lw := h.lw.trans (hb.below h.lw.size fun k hk => by have := h.pw; omega), few := hf }
end
theorem flat_nat : ∀ {l : List (Int × Int)}, (∀ e ∈ l, 0 ≤ e.1 ∧ 0 ≤ e.2) → flat (natL l) = flatE l
  | [], _ => rfl
  | e :: l, h => by
    obtain ⟨h1, h2⟩ := h e List.mem_cons_self
    have ih := flat_nat (l := l) fun e he => h e (List.mem_cons_of_mem _ he)
    show wv e.1.toNat :: wv e.2.toNat :: flat (natL l) = uw e.1 :: uw e.2 :: flatE l
    rw [ih]
    unfold wv uw
    rw [show ((e.1.toNat : Nat) : Int) = e.1 by omega, show ((e.2.toNat : Nat) : Int) = e.2 by omega]
theorem ahead_of {W : World} {B : Nat} {v : Value} {l : List (Int × Int)} (h : W.ownsRow B 64 2 v l.length (flatE l)) (h0 : 0 < l.length) (hn : ∀ e ∈ l, 0 ≤ e.1 ∧ 0 ≤ e.2) : Ahead W v (natL l) ∧ ∀ k, v.ownBlock = some k → B ≤ k := by
  obtain ⟨g, cap, rfl, h1, h2, h3, h4, h5⟩ := flatE_cells h h0
  have hl : (natL l).length = l.length := by simp [natL]
  refine ⟨.inr ⟨fun e => by rw [e] at hl; simp at hl; omega, g, 0, cap, by rw [hl], by rw [hl]; exact h4, h3, fun i u hu => ?_⟩, fun k hk => by cases hk; exact h1⟩
  rw [flat_nat hn] at hu
  rw [Nat.zero_add]
  exact h5 i u hu
end Go.Proofs.Yteojhhfcfdkmdaa
/- A writer's run steps: what stands behind it; conditions: it is under way. -/
namespace Go.Proofs.Yteojhhfcfdkmdaa
open Go.RowKit
set_option linter.unusedVariables false
/-- What a writer's step leaves. -/
def WSP (w0 W : World) (gw mS mL : Nat) (low : Int) (y : Lay) (x : Wr) (R : Option (Nat × RnRS × Value)) (e : Ending) (w' : World) : Prop :=
  ∃ b y' s' x' nE' l' R', e = .returned (.bool b) ∧ WS w0 gw (mS + 1) (mL + 1) low y' s' x' nE' l' R' w' ∧ y'.g = y.g ∧ StepRel x x' ∧ But W w' (fun k => y.fp k ∨ k = gw ∨ rK R k) ∧ (∀ k, y'.fp k → y.fp k ∨ W.heap.size ≤ k) ∧ ∀ k, rK R' k → rK R k ∨ W.heap.size ≤ k
/-- What stands behind the run's step. -/
structure WR (w0 W : World) (gw mS mL : Nat) (low : Int) (y : Lay) (s : St) (x : Wr) (nE : Nd) (l : List Ask3) (rg : Nat) (r : RnRS) (VR V' : Value) (y' : Lay) (x1 : Wr) (w' : World) : Prop where
  mem : MemAt w' y' (r.mem s)
  g : y'.g = y.g
  fm : ∀ k, y'.fp k → w0.heap.size ≤ k
  sep : ¬ y'.fp gw
  row : ∃ V, Row w' gw 39 (wrV y.g nE V (.pointer (some ⟨rg, 0, none⟩))).toArray ∧ Ask3At w0 V l
  lds : Lds 64 (mL + 1) (r.mem s)
  sm : Small (r.mem s) (mS + 1)
  ok : WrOk x1
  mi : MemIn (r.mem s) low x1.c
  rel : StepRel x x1
  lw : Below w0.heap.size w0 w'
  pw : w0.heap.size ≤ gw
  few : ∀ q ∈ l, InW q.2.1 ∧ InW q.2.2
  ce : CurOk nE
  but : But W w' (fun k => y.fp k ∨ k = gw ∨ k = rg)
  fp : ∀ k, y'.fp k → y.fp k ∨ W.heap.size ≤ k
  nd : r.next.done = false → RunO w' y' gw w0.heap.size (some (rg, r.next, V')) ∧ RunX x1 nE (some (rg, r.next, V'))
  dn : r.next.done = true → x1.c = nE
  own : r.next.left ≠ [] → r.left ≠ [] ∧ V'.ownBlock = VR.ownBlock
section
variable {w0 W W' w' : World} {gw mS mL rg : Nat} {low : Int} {y y' : Lay} {s : St} {x x1 : Wr} {nE : Nd} {l : List Ask3} {r : RnRS} {VR V' : Value}
theorem WR.below (h : WR w0 W gw mS mL low y s x nE l rg r VR V' y' x1 w') (hb : Below w'.heap.size w' W') : WR w0 W gw mS mL low y s x nE l rg r VR V' y' x1 W' := by
  obtain ⟨V, hr, ha⟩ := h.row
  exact { h with mem := h.mem.below hb, row := ⟨V, hr.below hb hr.lt, ha⟩, lw := h.lw.trans (hb.mono h.lw.size), but := h.but.trans (But.of_below hb (fun k => y.fp k ∨ k = gw ∨ k = rg)) fun k hk => .inl hk, nd := fun hd => ⟨(h.nd hd).1.below hb, (h.nd hd).2⟩ }
/-- It is not through. -/
theorem WR.more (h : WR w0 W gw mS mL low y s x nE l rg r VR V' y' x1 w') (hd : r.next.done = false) : WSP w0 W gw mS mL low y x (some (rg, r, VR)) (.returned (.bool true)) w' := by
  obtain ⟨V, hr, ha⟩ := h.row
  obtain ⟨h1, h2⟩ := h.nd hd
  refine ⟨true, y', r.mem s, x1, nE, l, some (rg, r.next, V'), rfl, ⟨h.mem, h.fm, h.sep, ⟨V, by rw [h.g]; exact hr, ha⟩, h1, h.lds, h.sm, h.ok, h.mi, h2, h.ce, h.lw, h.pw, h.few⟩, h.g, h.rel, h.but.mono ?_, h.fp, fun k hk => ?_⟩
  · rintro k (h1 | h1 | h1)
    · exact .inl h1
    · exact .inr (.inl h1)
    · exact .inr (.inr (.inl h1))
  · rcases hk with h1 | ⟨h1, h2⟩
    · exact .inl (.inl h1)
    · obtain ⟨h3, h4⟩ := h.own h1
      exact .inl (.inr ⟨h3, h4 ▸ h2⟩)
/-- It is through: the writer has none any more. -/
theorem WR.last (h : WR w0 W gw mS mL low y s x nE l rg r VR V' y' x1 w') (hd : r.next.done = true) : WSP w0 W gw mS mL low y x (some (rg, r, VR)) (.returned (.bool true)) (w'.setCell ⟨gw, 23, none⟩ (.pointer none)) := by
  obtain ⟨V, hr, ha⟩ := h.row
  have hb : But w' (w'.setCell ⟨gw, 23, none⟩ (.pointer none)) (fun q => q = gw) := (But.refl w' (fun q => q = gw)).set (p := ⟨gw, 23, none⟩) rfl _
  have hc := h.dn hd
  refine ⟨true, y', r.mem s, Wr.rest nE, nE, l, none, rfl, ⟨h.mem.but hb (fun k hk e => h.sep (e ▸ hk)), h.fm, h.sep, ⟨V, ?_, ha⟩, trivial, h.lds, h.sm, rest_ok h.ce, ?_, rfl, h.ce, h.lw.trans (hb.below h.lw.size fun k hk => by have := h.pw; omega), h.pw, h.few⟩, h.g, rel_turn h.rel hc.symm rfl, (h.but.mono ?_).trans hb fun k hk => .inl (.inr (.inl hk)), h.fp, fun k hk => hk.elim⟩
  · have := Row.set hr 23 (.pointer none)
    rw [h.g]
    exact this
  · have := h.mi
    rw [hc] at this
    exact this
  · rintro k (h1 | h1 | h1)
    · exact .inl h1
    · exact .inr (.inl h1)
    · exact .inr (.inr (.inl h1))
/-- The run's step. -/
theorem ws_run (h : WS w0 gw mS mL low y s x nE l (some (rg, r, VR)) W) (hS : mS ≤ 900) (hL : mL ≤ 900000) :
    Calls Try.prog 27 #[.pointer (some ⟨rg, 0, none⟩)] W fun e w' => e = .returned (.tuple #[.bool r.next.done, .int .i64 0]) ∧ ∃ y' V' x1, WR w0 W gw mS mL low y s x nE l rg r VR V' y' x1 w' := by
  obtain ⟨hro, hne, hpg⟩ := h.ro
  obtain ⟨hin, hap⟩ := h.rx
  have hnl : s.nl = 64 := h.lds.nls
  obtain ⟨x1, ok1, mi1, rel1, e0, els, lds1, sm1, hmore, hlast⟩ := run_step h.ok hin h.mi h.lds (by omega) h.sm
  refine (rstepV_any h.mem h.lds.ok h.sm (by omega) hro (by rw [hnl]; exact hin.good)).mono ?_
  rintro e w' ⟨he, y', V', hm', hro', T, hO⟩
  refine ⟨he, y', V', x1, ?_⟩
  obtain ⟨V, hr, ha⟩ := h.row
  have hgw := hr.lt
  have hsz := h.lw.size
  have hpw := h.pw
  have hnf : ¬ (y.fp gw ∨ gw = rg) := fun e => e.elim h.sep fun e => hne e.symm
  refine ⟨hm', T.g, fun k hk => ?_, fun hf => ?_, ⟨V, T.but.row hr hnf, ha⟩, lds1, sm1, ok1, mi1, rel1, h.lw.trans (T.but.below hsz fun k hk => ?_), hpw, h.few, h.ce, T.but.mono fun k hk => ?_, T.fp, fun hd => ⟨⟨hro', hne, hpg⟩, hmore hd, ?_⟩, fun hd => ?_, fun hn => ⟨?_, hO hn⟩⟩
  · rcases T.fp k hk with h1 | h1
    · exact h.fm k h1
    · omega
  · rcases T.fp gw hf with h1 | h1
    · exact h.sep h1
    · omega
  · rcases hk with h1 | h1
    · exact h.fm k h1
    · omega
  · rcases hk with h1 | h1
    · exact .inl h1
    · exact .inr (.inr h1)
  · rw [e0, els]
    exact hap
  · have h1 := ok1.cur
    rw [hlast hd, List.take_length, e0, els, hap] at h1
    exact (Option.some.inj h1).symm
  · intro e
    apply hn
    obtain ⟨c, left, line, ph, done, code⟩ := r
    dsimp only at e
    subst e
    cases ph <;> rfl
end
end Go.Proofs.Yteojhhfcfdkmdaa
/- A writer's step, its loop: what stands where it looks for a change; conditions: the writer lies. -/
namespace Go.Proofs.Yteojhhfcfdkmdaa
open Go.RowKit
set_option linter.unusedVariables false
/-- How many changes are asked for, and one if no run is under way. -/
def mW (gw : Nat) (W : World) : Nat := (match W.cell? ⟨gw, 22, none⟩ with | some (.slice _ n _) => n | _ => 0) + (match W.cell? ⟨gw, 23, none⟩ with | some (.pointer none) => 1 | _ => 0)
theorem mW_of {W : World} {gw gy : Nat} {n : Nd} {A R : Option Addr} {m c : Nat} (h : Row W gw 39 (wrV gy n (.slice A m c) (.pointer R)).toArray) : mW gw W = m + (match R with | none => 1 | some _ => 0) := by
  unfold mW
  rw [show W.cell? ⟨gw, 22, none⟩ = some (.slice A m c) from h.cell 22, show W.cell? ⟨gw, 23, none⟩ = some (.pointer R) from h.cell 23]
  cases R <;> rfl
/-- Where the loop stands. -/
structure WL (w0 W : World) (gw mS mL : Nat) (low : Int) (y : Lay) (s : St) (x0 : Wr) (R0 : Option (Nat × RnRS × Value)) (x : Wr) (nE : Nd) (l : List Ask3) (R : Option (Nat × RnRS × Value)) (wr : World) : Prop where
  ws : WS w0 gw mS mL low y s x nE l R wr
  xc : x.c = x0.c
  xi : x = x0 ∨ x.i = 0
  rr : R = R0 ∨ (R0 = none ∧ ∀ k, rK R k → W.heap.size ≤ k)
  but : But W wr (fun k => k = gw)
section
variable {w0 W wr w' : World} {gw mS mL : Nat} {low : Int} {y : Lay} {s : St} {x0 x : Wr} {R0 R : Option (Nat × RnRS × Value)} {nE : Nd} {l : List Ask3} {e : Ending}
theorem WL.start (h : WS w0 gw mS mL low y s x nE l R W) : WL w0 W gw mS mL low y s x R x nE l R W := ⟨h, rfl, .inl rfl, .inl rfl, But.refl _ _⟩
theorem WL.below (h : WL w0 W gw mS mL low y s x0 R0 x nE l R wr) (hb : Below wr.heap.size wr w') : WL w0 W gw mS mL low y s x0 R0 x nE l R w' :=
  { h with ws := h.ws.below hb, but := h.but.trans (But.of_below hb (fun k => k = gw)) fun k hk => .inl hk }
/-- What a step leaves, from there on. -/
theorem WL.post (h : WL w0 W gw mS mL low y s x0 R0 x nE l R wr) (hp : WSP w0 wr gw mS mL low y x R e w') : WSP w0 W gw mS mL low y x0 R0 e w' := by
  obtain ⟨b, y', s', x', nE', l', R', he, hw, hg, hrel, hbut, hfp, hrk⟩ := hp
  have hsz := h.but.size
  refine ⟨b, y', s', x', nE', l', R', he, hw, hg, ?_, (h.but.mono fun k hk => .inr (.inl hk)).trans hbut fun k hk => ?_, fun k hk => ?_, fun k hk => ?_⟩
  · rcases h.xi with rfl | hi
    · exact hrel
    · exact rel_from h.xc hi hrel
  · rcases hk with h1 | h1 | h1
    · exact .inl (.inl h1)
    · exact .inl (.inr (.inl h1))
    · rcases h.rr with rfl | ⟨_, h2⟩
      · exact .inl (.inr (.inr h1))
      · exact .inr (h2 k h1)
  · rcases hfp k hk with h1 | h1
    · exact .inl h1
    · exact .inr (Nat.le_trans hsz h1)
  · rcases hrk k hk with h1 | h1
    · rcases h.rr with rfl | ⟨_, h2⟩
      · exact .inl h1
      · exact .inr (h2 k h1)
    · exact .inr (Nat.le_trans hsz h1)
/-- Nothing is left to do. -/
theorem WL.none_ (h : WL w0 W gw mS mL low y s x0 R0 x nE l R wr) : WSP w0 wr gw mS mL low y x R (.returned (.bool false)) wr :=
  ⟨false, y, s, x, nE, l, R, rfl, { h.ws with lds := h.ws.lds.mono (Nat.le_succ _), sm := h.ws.sm.mono (Nat.le_succ _) }, rfl, rel_stay h.ws.ok, But.refl _ _, fun k hk => .inl hk, fun k hk => .inl hk⟩
/-- One that can't be is left out. -/
theorem WL.skip {V : Value} {t : List Ask3} {q : Ask3} (h : WL w0 W gw mS mL low y s x0 R0 x nE (q :: t) none wr) (hb : But wr w' (fun k => k = gw)) (hr : Row w' gw 39 (wrV y.g nE V (.pointer none)).toArray) (ha : Ask3At w0 V t) : WL w0 W gw mS mL low y s x0 R0 x nE t none w' :=
  ⟨h.ws.own hb hr ha (fun z hz => h.ws.few z (List.mem_cons_of_mem _ hz)) rfl rfl, h.xc, h.xi, h.rr, h.but.trans hb fun k hk => .inl hk⟩
/-- A change begins: its run, the node that it leads to. -/
theorem WL.begin {V : Value} {t : List Ask3} {q : Ask3} {ls : List (Int × Int)} {rg : Nat} {V' : Value} {mE : Nd} {w4 : World} (h : WL w0 W gw mS mL low y s x0 R0 x nE (q :: t) none wr) (hask : ask11 nE q.1 q.2.1 q.2.2 = (ls, 0)) (hE : apL 1088 nE ls = some mE)
    (h4 : Below wr.heap.size wr w4 ∨ But wr w4 (fun k => k = gw)) (hra : RunAt w' rg (some ⟨y.g, 0, none⟩) (RnRS.new 1 (natL ls)) V') (hg : w4.heap.size ≤ rg) (hv : ∀ k, V'.ownBlock = some k → natL ls ≠ [] → w4.heap.size ≤ k ∧ k ≠ rg)
    (hb : But wr w' (fun k => k = gw)) (hr : Row w' gw 39 (wrV y.g mE V (.pointer (some ⟨rg, 0, none⟩))).toArray) (ha : Ask3At w0 V t) : WL w0 W gw mS mL low y s x0 R0 ⟨nE, ls, 0, nE⟩ mE t (some (rg, RnRS.new 1 (natL ls), V')) w' ∧ R0 = none := by
  have hxr : x = Wr.rest nE := h.ws.rx
  have hsz4 : wr.heap.size ≤ w4.heap.size := by rcases h4 with h4 | h4 <;> exact h4.size
  have hsz := h.but.size
  have hlw := h.ws.lw.size
  obtain ⟨V0, hr0, _⟩ := h.ws.row
  have hgw := hr0.lt
  have hR0 : R0 = none := by
    rcases h.rr with h1 | ⟨h1, _⟩
    · exact h1.symm
    · exact h1
  obtain ⟨d0, d6, d5⟩ := d11_lt (k11_lt q.1)
  obtain ⟨k1, k2⟩ := h.ws.few q List.mem_cons_self
  have hp : InW (p11 (k11 q.1) q.2.2) := by
    unfold p11
    split
    · exact ⟨by decide, by decide⟩
    · exact k2
  have h5 : d11 (k11 q.1) = 5 → p11 (k11 q.1) q.2.2 = 1280 := fun e => by
    unfold p11
    rw [if_pos (d5 e)]
  have hok : WrOk ⟨nE, ls, 0, nE⟩ := wr_begin d0 d6 h.ws.ce k1 hp h5 hask
  obtain ⟨hst, hlen, hway⟩ := way_ok d0 d6 h.ws.ce k1 hp h5 hask
  obtain ⟨m', hm', hmok, _⟩ := hway ls.length (Nat.le_refl _)
  rw [List.take_length, hE] at hm'
  have hm' := Option.some.inj hm'
  have hpu : ∀ p ∈ natL ls, p.1 % 8 = 0 ∧ p.1 < 64 * 64 ∧ p.2 < 18446744073709551616 := fun p hp => by
    obtain ⟨e, he, rfl⟩ := List.mem_map.1 hp
    obtain ⟨j, j0, j1, j2⟩ := (apL_wo9 hE).2 e he
    have := (hst e he).1
    refine ⟨?_, ?_, ?_⟩
    · show e.1.toNat % 8 = 0
      omega
    · show e.1.toNat < 64 * 64
      omega
    · show e.2.toNat < _
      have := this.2
      omega
  have hgood := new_Good (c := 1) (nl := 64) (by decide) (by decide) (by decide) hpu
  have hnn : natL ls ≠ [] := fun e => by
    have : (natL ls).length = 0 := by rw [e]; rfl
    simp [natL] at this
    rw [this] at hlen
    simp at hlen
  refine ⟨⟨⟨h.ws.mem.but hb (fun k hk e => h.ws.sep (e ▸ hk)), h.ws.fm, h.ws.sep, ⟨V, hr, ha⟩, ⟨⟨hra, fun hf => ?_, fun b hb' h0 => ⟨fun hf => ?_, (hv b hb' hnn).2⟩⟩, ?_, ?_⟩, h.ws.lds, h.ws.sm, hok, ?_, ⟨⟨hgood, rfl, ?_⟩, hE⟩, ?_, h.ws.lw.trans (hb.below hlw fun k hk => by have := h.ws.pw; omega), h.ws.pw, fun z hz => h.ws.few z (List.mem_cons_of_mem _ hz)⟩, ?_, .inr rfl, .inr ⟨hR0, fun k hk => ?_⟩, h.but.trans hb fun k hk => .inl hk⟩, hR0⟩
  · have := h.ws.mem.lt _ hf
    omega
  · have := h.ws.mem.lt _ hf
    have := (hv b hb' hnn).1
    omega
  · omega
  · omega
  · have := h.ws.mi
    rw [hxr] at this
    exact this
  · show (if natL ls = [] then Ph.en else .st) ≠ .en
    rw [if_neg hnn]
    intro e
    cases e
  · rw [hm']
    exact hmok
  · show nE = x0.c
    rw [← h.xc, hxr]
    rfl
  · rcases hk with hk | ⟨_, hk⟩
    · omega
    · have := (hv k hk hnn).1
      omega
end
end Go.Proofs.Yteojhhfcfdkmdaa
/- A writer's step: a change that comes is begun, a step of its run is done; conditions: the writer lies. -/
namespace Go.Proofs.Yteojhhfcfdkmdaa
open Go.RowKit
set_option linter.unusedVariables false
theorem askI : (Try.prog.info? 68).map (·.size) = some 3 := by kernel_rfl
theorem own6_sl {w : World} {B n s : Nat} {e : TypeId} {v : Value} {xs : List Value} (h : w.ownsRow B e s v n xs) : ∃ A cap, v = .slice A n cap := by
  rcases h.2 with ⟨rfl, rfl⟩ | ⟨g, cap, cur, rfl, _⟩
  · exact ⟨none, 0, rfl⟩
  · exact ⟨_, cap, rfl⟩
theorem setL_midW (pre old post vs : List Value) (h : old.length = vs.length) : setL (pre ++ (old ++ post)).toArray pre.length vs = (pre ++ (vs ++ post)).toArray := by
  have hg := (setL_get vs pre.length (pre ++ (old ++ post)).toArray (by simp; omega)).2
  apply Array.ext_getElem?
  intro i
  rw [hg i, List.getElem?_toArray, List.getElem?_toArray]
  by_cases h1 : i < pre.length
  · rw [if_neg (by omega), List.getElem?_append_left h1, List.getElem?_append_left h1]
  · by_cases h2 : i < pre.length + vs.length
    · rw [if_pos ⟨by omega, h2⟩, List.getElem?_append_right (l₁ := pre) (by omega), List.getElem?_append_left (by omega)]
    · rw [if_neg (by omega), List.getElem?_append_right (l₁ := pre) (l₂ := old ++ post) (by omega), List.getElem?_append_right (l₁ := pre) (l₂ := vs ++ post) (by omega), List.getElem?_append_right (l₁ := old) (by omega), List.getElem?_append_right (l₁ := vs) (by omega), h]
theorem wr_node {W : World} {gw gy : Nat} {n m : Nd} {V R : Value} (h : Row W gw 39 (wrV gy n V R).toArray) : Row (W.setCells gw 1 m.cl) gw 39 (wrV gy m V R).toArray := by
  have h1 := row_setCellsAux m.cl 1 W (wrV gy n V R).toArray h
  have e := setL_midW [.pointer (some ⟨gy, 0, none⟩)] n.cl [V, R] m.cl rfl
  exact (show Row _ _ _ _ from e ▸ h1)
theorem But.cellsW {fp : Nat → Prop} {b : Nat} (hp : fp b) : ∀ (vs : List Value) (o : Nat) {w w' : World}, But w w' fp → But w (w'.setCells b o vs) fp
  | [], _, _, _, h => h
  | v :: r, o, _, _, h => But.cellsW hp r (o + 1) (h.set (p := ⟨b, o, none⟩) hp v)
theorem wr_rng {W : World} {gw gy : Nat} {n : Nd} {V R : Value} (h : Row W gw 39 (wrV gy n V R).toArray) : W.rangeAt gw 1 n.cl := fun j v hv => by
  have hj : j < 21 := (List.getElem?_eq_some_iff.1 hv).1
  rw [h.cell, List.getElem?_toArray]
  unfold wrV
  rw [show 1 + j = j + 1 by omega, List.getElem?_cons_succ, List.getElem?_append_left (by show j < 21; exact hj)]
  exact hv
theorem wr_there {W : World} {gw gy : Nat} {n : Nd} {V R : Value} (h : Row W gw 39 (wrV gy n V R).toArray) : W.there gw 1 21 := fun j hj => by
  exact ⟨by rw [h.cell, Array.getElem?_eq_getElem (by show 1 + j < 24; omega)]; rfl, h.free _⟩
set_option maxRecDepth 100000 in
set_option maxHeartbeats 6400000 in
theorem wstep11_any {w0 W : World} {gw mS mL : Nat} {low : Int} {y : Lay} {s : St} {x0 : Wr} {nE0 : Nd} {l0 : List Ask3} {R0 : Option (Nat × RnRS × Value)} (h : WS w0 gw mS mL low y s x0 nE0 l0 R0 W) (hS : mS ≤ 900) (hL : mL ≤ 900000) :
    Calls Try.prog 8 #[.pointer (some ⟨gw, 0, none⟩)] W (WSP w0 W gw mS mL low y x0 R0) := by
  have mixed : Try.prog.follows .mixedOrders = true := by kernel_rfl
  have EP := Lib.hid (enters_of Try.func24 (by kernel_rfl) rfl)
  have HH := Lib.hid (WL.start h)
  have HBS := Lib.hid (And.intro hS hL)
  clear h hS hL
  go_enter Try.func8, Try.ntmps8
  go_wp2_with fail
  go_loopw [] (fun wr => ∃ x nE l R, WL w0 W gw mS mL low y s x0 R0 x nE l R wr) (fun wr => mW gw wr)
  case atStart => exact ⟨x0, nE0, l0, R0, HH.out⟩
  case round =>
    rename World => wr
    obtain ⟨x, nE, l, R, hw⟩ := hrel
    obtain ⟨V, hr, ha⟩ := hw.ws.row
    obtain ⟨A, m, c, hV⟩ : ∃ A m c, V = .slice A m c := by obtain ⟨B, cap, e, _⟩ := ha; exact ⟨B, _, cap, e⟩
    subst hV
    have c23 : wr.cell? ⟨gw, 23, none⟩ = some (rpV R) := hr.cell 23
    have HW := Lib.hid hw
    have HR := Lib.hid hr
    have HA := Lib.hid ha
    cases R with
    | some rr =>
      obtain ⟨rg, r, VR⟩ := rr
      unfold rpV at c23
      dsimp only at c23
      have HST := Lib.hid (ws_run hw.ws HBS.out.1 HBS.out.2)
      clear hw hr ha
      go_wp2_with fail
      refine HST.out.mono ?_
      rintro e w2 ⟨rfl, y', V', x1, hq⟩
      obtain ⟨V2, hr2, _⟩ := hq.row
      have d23 : w2.cell? ⟨gw, 23, none⟩ = some (.pointer (some ⟨rg, 0, none⟩)) := hr2.cell 23
      have f23 := hr2.free 23
      have HQ := Lib.hid hq
      obtain ⟨D, hD⟩ : ∃ D, D = r.next.done := ⟨_, rfl⟩
      rw [← hD]
      have HD := Lib.hid hD
      clear hq hr2 hD HST c23
      cases D with
      | true =>
        go_wp2_with fail
        go_ret
        exact HW.out.post (HQ.out.last HD.out.symm)
      | false =>
        go_wp2_with fail
        go_ret
        exact HW.out.post (HQ.out.more HD.out.symm)
    | none =>
      unfold rpV at c23
      dsimp only at c23
      have c22 : wr.cell? ⟨gw, 22, none⟩ = some (.slice A m c) := hr.cell 22
      have HMW : Hid (mW gw wr = m + 1) := Lib.hid (mW_of (R := none) hr)
      cases l with
      | nil =>
        obtain ⟨B, cap, e, _⟩ := ha
        simp only [List.length_nil, Value.slice.injEq] at e
        obtain ⟨rfl, rfl, rfl⟩ := e
        clear hw hr
        go_wp2_with fail
        go_ret
        exact HW.out.post HW.out.none_
      | cons q t =>
        obtain ⟨b, cap, P2, e, e1, e2, a0, a1, a2, HSL, hat⟩ := ha.head
        simp only [Value.slice.injEq] at e
        obtain ⟨rfl, rfl, rfl⟩ := e
        obtain ⟨k, key, ptr⟩ := q
        dsimp only at a0 a1 a2
        have b0 : wr.cell? b = some (.int .i64 k) := (hw.ws.lw.cell (cell_lt a0)).trans a0
        have b1 : wr.cell? ⟨b.block, b.off + 1, none⟩ = some (.int .u64 key) := (hw.ws.lw.cell (cell_lt a1)).trans a1
        have b2 : wr.cell? ⟨b.block, b.off + 2, none⟩ = some (.int .u64 ptr) := (hw.ws.lw.cell (cell_lt a2)).trans a2
        have HAT := Lib.hid hat
        have h1c : (1 : Int) ≤ (t.length : Int) + 1 := by omega
        obtain ⟨n, hn⟩ : ∃ n, n = t.length := ⟨_, rfl⟩
        rw [← hn] at c22 HSL HMW h1c HAT
        have f22 := hr.free 22
        have hlt := hr.lt
        have HNN := Lib.hid hn
        clear hw hr ha a0 a1 a2 hat e1 e2 hn HA
        go_upto_region 6 with fail
        obtain ⟨W4, hW4⟩ : ∃ W4, W4 = (wr.setCell ⟨gw, 22, none⟩ (.slice P2 n (c - 1))).alloc (.cells #[.int .i64 k, .int .u64 key, .int .u64 ptr] 68) := ⟨_, rfl⟩
        rw [← hW4]
        have hb4 : But wr W4 (fun q => q = gw) := by
          rw [hW4]
          exact ((But.refl wr (fun q => q = gw)).set (p := ⟨gw, 22, none⟩) rfl _).trans (But.of_below (alloc_below _ _) (fun q => q = gw)) fun q hq => .inl hq
        have hr4 : Row W4 gw 39 (wrV y.g nE (.slice P2 n (c - 1)) (.pointer none)).toArray := by
          rw [hW4]
          have := Row.set HR.out 22 (.slice P2 n (c - 1))
          exact Row.alloc this _
        obtain ⟨ga, hga⟩ : ∃ ga, ga = wr.heap.size := ⟨_, rfl⟩
        have hra4 : Row W4 ga 68 #[.int .i64 k, .int .u64 key, .int .u64 ptr] := by
          have := Row.new (wr.setCell ⟨gw, 22, none⟩ (.slice P2 n (c - 1))) 68 #[.int .i64 k, .int .u64 key, .int .u64 ptr]
          rw [hW4, hga]
          simpa using this
        rw [← hga]
        have HB4 := Lib.hid hb4
        have HR4 := Lib.hid hr4
        have HST := Lib.hid (show ∀ W, Below W4.heap.size W4 W → W.rangeAt gw 1 nE.cl ∧ W.rangeAt ga 0 [.int .i64 k, .int .u64 key, .int .u64 ptr] from fun W hb =>
          ⟨wr_rng (hr4.below hb hr4.lt), fun j v hv => by rw [Nat.zero_add, (hra4.below hb hra4.lt).cell, List.getElem?_toArray]; exact hv⟩)
        obtain ⟨ls, er, has⟩ : ∃ ls er, ask11 nE k key ptr = (ls, er) := ⟨_, _, rfl⟩
        have HAS := Lib.hid has
        clear hW4 hb4 hr4 hra4 hga c22 c23 f22 b0 b1 b2 HSL has HR
        (try refine wp_region_noPanic ?_)
        refine wp_region_held_drew (S := fun W : World => W.rangeAt gw 1 nE.cl ∧ W.rangeAt ga 0 [.int .i64 k, .int .u64 key, .int .u64 ptr]) (by kernel_rfl) (HST.out _ (drew_below _)) (fun hHeld => ?_)
        refine wpAnyH_take (i := 0) (oi := ⟨some 34, _, _, _, _, _⟩) (v := .pointer (some ⟨gw, 0, none⟩)) rfl (by kernel_rfl) (by kernel_rfl) (by kernel_rfl) (fun _ _ _ h => h) (Or.inl ⟨by kernel_rfl, by intro WW hSw; obtain ⟨s0, s1⟩ := hSw; go_simp⟩) (by assumption) ?_
        (try simp only [Act.put, List.setIfInBounds_toArray, List.set_cons_zero, List.set_cons_succ])
        refine wpAnyH_take (i := 1) (oi := ⟨some 35, _, _, _, _, _⟩) (v := .pointer (some ⟨gw, 0, none⟩)) rfl (by kernel_rfl) (by kernel_rfl) (by kernel_rfl) (fun _ _ _ h => h) (Or.inl ⟨by kernel_rfl, by intro WW hSw; obtain ⟨s0, s1⟩ := hSw; go_simp⟩) (by assumption) ?_
        (try simp only [Act.put, List.setIfInBounds_toArray, List.set_cons_zero, List.set_cons_succ])
        refine wpAnyH_take (i := 2) (oi := ⟨some 36, _, _, _, _, _⟩) (v := .pointer (some ⟨gw, 1, none⟩)) rfl (by kernel_rfl) (by kernel_rfl) (by kernel_rfl) (fun _ _ _ h => h) (Or.inl ⟨by kernel_rfl, by intro WW hSw; obtain ⟨s0, s1⟩ := hSw; go_simp⟩) (by assumption) ?_
        (try simp only [Act.put, List.setIfInBounds_toArray, List.set_cons_zero, List.set_cons_succ])
        refine wpAnyH_take (i := 3) (oi := ⟨some 37, _, _, _, _, _⟩) (v := .agg nE.cl.toArray) rfl (by kernel_rfl) (by kernel_rfl) (by kernel_rfl) (fun _ _ _ h => h) (yieldsIf_load_mid (by rfl) _ _ rfl gw 1 rfl nE.cl _ (fun w h => h.1) Try.underlying27 rfl ndI) (by assumption) ?_
        (try simp only [Act.put, List.setIfInBounds_toArray, List.set_cons_zero, List.set_cons_succ])
        refine wpAnyH_take (i := 4) (oi := ⟨some 38, _, _, _, _, _⟩) (v := .agg #[.int .i64 k, .int .u64 key, .int .u64 ptr]) rfl (by kernel_rfl) (by kernel_rfl) (by kernel_rfl) (fun _ _ _ h => h) (yieldsIf_load_mid (by rfl) _ _ rfl ga 0 rfl [.int .i64 k, .int .u64 key, .int .u64 ptr] _ (fun w h => h.2) Try.underlying68 rfl askI) (by assumption) ?_
        (try simp only [Act.put, List.setIfInBounds_toArray, List.set_cons_zero, List.set_cons_succ])
        refine wpAnyH_one (i := 5) (oi := ⟨some 39, _, _, _, _, _⟩) rfl (by kernel_rfl) (fun K hK => ?_)
        refine step_calls (by rfl) 24 EP.out [.tmp 37, .tmp 38] _ rfl [.agg nE.cl.toArray, .agg #[.int .i64 k, .int .u64 key, .int .u64 ptr]] rfl (puts11_any nE k key ptr _) ?_
        rintro e w6 ⟨⟨v6, rfl, ho6⟩, hb6'⟩
        have HB6 := Lib.hid (Below.and (drew_below W4) hb6')
        rw [HAS.out] at ho6 ⊢
        dsimp only at ho6 ⊢
        have ho6' := ownS_mono ho6 (show W4.heap.size ≤ W4.drew.heap.size from (drew_below W4).size)
        obtain ⟨A6, c6, rfl⟩ := own6_sl ho6'
        have HO6 := Lib.hid ho6'
        obtain ⟨M, hM⟩ : ∃ M, M = ls.length := ⟨_, rfl⟩
        rw [← hM] at HO6 ⊢
        have HM := Lib.hid hM
        clear ho6 ho6' hb6' hM
        refine ⟨_, rfl, hK _ _ (HST.out _ HB6.out) (fun hHeld => ?_)⟩
        clear hK K
        (try simp only [Act.put, List.setIfInBounds_toArray, List.set_cons_zero, List.set_cons_succ])
        refine wpAnyH_take (i := 6) (oi := ⟨some 33, _, _, _, _, _⟩) (v := .tuple #[.slice A6 M c6, .int .i64 er]) rfl (by kernel_rfl) (by kernel_rfl) (by kernel_rfl) (fun _ _ _ h => h) (Or.inl ⟨by kernel_rfl, by intro WW hSw; obtain ⟨s0, s1⟩ := hSw; go_simp⟩) (by assumption) ?_
        (try simp only [Act.put, List.setIfInBounds_toArray, List.set_cons_zero, List.set_cons_succ])
        refine wpAnyH_take (i := 7) (oi := ⟨some 40, _, _, _, _, _⟩) (v := .slice A6 M c6) rfl (by kernel_rfl) (by kernel_rfl) (by kernel_rfl) (fun _ _ _ h => h) (Or.inl ⟨by kernel_rfl, by intro WW hSw; obtain ⟨s0, s1⟩ := hSw; go_simp⟩) (by assumption) ?_
        (try simp only [Act.put, List.setIfInBounds_toArray, List.set_cons_zero, List.set_cons_succ])
        refine wpAnyH_take (i := 8) (oi := ⟨some 41, _, _, _, _, _⟩) (v := .int .i64 er) rfl (by kernel_rfl) (by kernel_rfl) (by kernel_rfl) (fun _ _ _ h => h) (Or.inl ⟨by kernel_rfl, by intro WW hSw; obtain ⟨s0, s1⟩ := hSw; go_simp⟩) (by assumption) ?_
        (try simp only [Act.put, List.setIfInBounds_toArray, List.set_cons_zero, List.set_cons_succ])
        refine wpAnyH_take (i := 9) (oi := ⟨some 4, _, _, _, _, _⟩) (v := .slice A6 M c6) rfl (by kernel_rfl) (by kernel_rfl) (by kernel_rfl) (fun _ _ _ h => h) (Or.inl ⟨by kernel_rfl, by intro WW hSw; obtain ⟨s0, s1⟩ := hSw; go_simp⟩) (by assumption) ?_
        (try simp only [Act.put, List.setIfInBounds_toArray, List.set_cons_zero, List.set_cons_succ])
        refine wpAnyH_take (i := 10) (oi := ⟨some 5, _, _, _, _, _⟩) (v := .int .i64 er) rfl (by kernel_rfl) (by kernel_rfl) (by kernel_rfl) (fun _ _ _ h => h) (Or.inl ⟨by kernel_rfl, by intro WW hSw; obtain ⟨s0, s1⟩ := hSw; go_simp⟩) (by assumption) ?_
        (try simp only [Act.put, List.setIfInBounds_toArray, List.set_cons_zero, List.set_cons_succ])
        refine wpAnyH_done (by kernel_rfl) ?_ _
        clear hHeld HST
        have HR6 := Lib.hid (HR4.out.below HB6.out HR4.out.lt)
        have HB46 := Lib.hid (show But wr w6 (fun q => q = gw) from HB4.out.trans (But.of_below HB6.out (fun q => q = gw)) fun q hq => .inl hq)
        (try refine (‹∀ (a : Act) (w : World), Code.wp Try.prog _ _ a w → _›) _ _ ?_)
        by_cases h0 : er = 0
        · subst h0
          have HHI := Lib.hid hlt
          have hE0 : ∃ mE, applyR 1088 nE ls = (mE, 0) ∧ apL 1088 nE ls = some mE ∧ (∀ e ∈ ls, 0 ≤ e.1 ∧ 0 ≤ e.2) ∧ (∀ e ∈ ls, e.1 < 18446744073709551616) ∧ 0 < ls.length ∧ ls.length ≤ 100 := by
            obtain ⟨d0, d6, d5⟩ := d11_lt (k11_lt k)
            obtain ⟨k1, k2⟩ := HW.out.ws.few (k, key, ptr) List.mem_cons_self
            have hp : InW (p11 (k11 k) ptr) := by
              unfold p11
              split
              · exact ⟨by decide, by decide⟩
              · exact k2
            have h5 : d11 (k11 k) = 5 → p11 (k11 k) ptr = 1280 := fun e => by
              unfold p11
              rw [if_pos (d5 e)]
            obtain ⟨hst, hlen, hway⟩ := way_ok d0 d6 HW.out.ws.ce k1 hp h5 HAS.out
            obtain ⟨m', hm', _, _⟩ := hway ls.length (Nat.le_refl _)
            rw [List.take_length] at hm'
            have hask := askP_ok 1088 nE (d11 (k11 k)) key (p11 (k11 k) ptr)
            have has2 : askP 1088 nE (d11 (k11 k)) key (p11 (k11 k) ptr) = (ls, 0) := HAS.out
            rw [has2] at hask
            refine ⟨m', ?_, hm', fun e he => ?_, fun e he => ?_, by omega, hask.1⟩
            · unfold applyR
              rw [if_pos (by decide), hm']
              rfl
            · obtain ⟨j, j0, j1, j2⟩ := (apL_wo9 hm').2 e he
              have := (hst e he).1.1
              omega
            · obtain ⟨j, j0, j1, j2⟩ := (apL_wo9 hm').2 e he
              omega
          obtain ⟨mE, hap, hmE, hpos, hwf, hl0, hl1⟩ := hE0
          have HAP := Lib.hid (show Calls Try.prog 25 #[.int .u64 1088, nE.V, .slice A6 M c6] w6 fun e w' => e = .returned (.tuple #[mE.V, .int .i64 0]) ∧ Below w6.heap.size w6 w' from by
            have := apply_any (base := 1088) (by decide) nE (w := w6) (v := .slice A6 M c6) (l := ls) (ent_ownG (by rw [← HM.out]; exact HO6.out)) (by omega) (fun e he => ⟨(hpos e he).1, hwf e he⟩)
            rw [hap] at this
            exact this)
          have hah6 := ahead_of (W := w6) (B := W4.heap.size) (v := .slice A6 M c6) (l := ls) (by rw [← HM.out]; exact HO6.out) hl0 hpos
          have HAH := Lib.hid hah6
          have HLL := Lib.hid (And.intro hmE (And.intro hl0 hl1))
          clear hap hmE hpos hwf hl0 hl1 hah6 HO6
          go_wp2_with (first
            | ((with_reducible refine show_loadN ?_); refine wpList_load_mid rfl _ _ rfl gw 1 rfl nE.cl _ (wr_rng HR6.out) Try.underlying27 rfl ndI ?_))
          refine HAP.out.mono ?_
          rintro e w7 ⟨rfl, hb7⟩
          have hr7 := HR6.out.below hb7 HR6.out.lt
          have HTH := Lib.hid (wr_there hr7)
          have HR7 := Lib.hid hr7
          have HB7 := Lib.hid hb7
          clear hr7 hb7 HAP
          go_upto_region 9 with (first
            | ((with_reducible refine show_storeN ?_); refine wpList_store_mid rfl _ _ _ rfl gw 1 mE.cl.toArray rfl rfl HTH.out ndI (all_oneCell_toArray (cl_one _)) ?_))
          obtain ⟨W9, hW9⟩ : ∃ W9, W9 = w7.setCells gw 1 mE.cl := ⟨_, rfl⟩
          (try rw [← hW9])
          have hr9 : Row W9 gw 39 (wrV y.g mE (.slice P2 n (c - 1)) (.pointer none)).toArray := by rw [hW9]; exact wr_node HR7.out
          have hb79 : But w7 W9 (fun q => q = gw) := by rw [hW9]; exact But.cellsW (fp := fun q => q = gw) rfl _ _ (But.refl w7 _)
          have hb9 : But wr W9 (fun q => q = gw) := (HB46.out.trans (But.of_below HB7.out (fun q => q = gw)) fun q hq => .inl hq).trans hb79 fun q hq => .inl hq
          have d0 : W9.cell? ⟨gw, 0, none⟩ = some (.pointer (some ⟨y.g, 0, none⟩)) := hr9.cell 0
          have HN := Lib.hid (show Calls Try.prog 26 #[.pointer (some ⟨y.g, 0, none⟩), .int .i64 1, .slice A6 M c6] W9 fun e w' => (∃ rg V', e = .returned (.pointer (some ⟨rg, 0, none⟩)) ∧ RunAt w' rg (some ⟨y.g, 0, none⟩) (RnRS.new 1 (natL ls)) V' ∧ W9.heap.size ≤ rg ∧ ∀ k, V'.ownBlock = some k → natL ls ≠ [] → W9.heap.size ≤ k ∧ k ≠ rg) ∧ Below W9.heap.size W9 w' from by
            have hl0 := HLL.out.2.1
            refine rnew_any _ _ ((HAH.out.1.below HB7.out).same fun q hq => ?_) (fun e => ?_) (by simp [natL]; have := HLL.out.2.2; omega)
            · have h1 := HAH.out.2 q hq
              have h2 := HB4.out.size
              have h3 : q < w7.heap.size := by
                have h4 := (HAH.out.1.below HB7.out).lt (fun e => by have : (natL ls).length = 0 := by rw [e]; rfl
                                                                     simp [natL] at this
                                                                     rw [this] at hl0
                                                                     simp at hl0) hq
                exact h4
              exact hb79.block q h3 (by omega)
            · exfalso
              have : (natL ls).length = 0 := by rw [e]; rfl
              simp [natL] at this
              rw [this] at hl0
              simp at hl0)
          have HB9 := Lib.hid hb9
          have HR9 := Lib.hid hr9
          clear hW9 hr9 hb9 hb79 HAH HTH HR7 HB7
          go_wp2_with fail
          refine HN.out.mono ?_
          rintro e w10 ⟨⟨rg, V', rfl, hra, hrg, hv⟩, hb10⟩
          have hr10 := HR9.out.below hb10 HR9.out.lt
          have e23 : w10.cell? ⟨gw, 23, none⟩ = some (.pointer none) := hr10.cell 23
          have f23 := hr10.free 23
          have HR10 := Lib.hid hr10
          have HB10 := Lib.hid hb10
          have HRA := Lib.hid (And.intro hra (And.intro hrg hv))
          clear hr10 hb10 hra hrg hv HN d0
          go_wp2_with fail
          have hl0 := HLL.out.2.1
          have hnn : natL ls ≠ [] := fun e => by
            have : (natL ls).length = 0 := by rw [e]; rfl
            simp [natL] at this
            rw [this] at hl0
            simp at hl0
          obtain ⟨hra, hrg, hv⟩ := HRA.out
          have hbF : But w10 (w10.setCell ⟨gw, 23, none⟩ (.pointer (some ⟨rg, 0, none⟩))) (fun q => q = gw) := (But.refl w10 (fun q => q = gw)).set (p := ⟨gw, 23, none⟩) rfl _
          have hrF : Row (w10.setCell ⟨gw, 23, none⟩ (.pointer (some ⟨rg, 0, none⟩))) gw 39 (wrV y.g mE (.slice P2 n (c - 1)) (.pointer (some ⟨rg, 0, none⟩))).toArray := by
            have := Row.set HR10.out 23 (.pointer (some ⟨rg, 0, none⟩))
            exact this
          have hsz9 := HB9.out.size
          have hgw9 := HHI.out
          refine ⟨⟨⟨nE, ls, 0, nE⟩, mE, t, some (rg, RnRS.new 1 (natL ls), V'), (HW.out.begin (w4 := W9) HAS.out HLL.out.1 (.inr HB9.out) ⟨hbF.row hra.row (by omega), hra.ah.same fun q hq => ?_⟩ hrg hv ((HB9.out.trans (But.of_below HB10.out (fun q => q = gw)) fun q hq => .inl hq).trans hbF fun q hq => .inl hq) hrF HAT.out).1⟩, ?_⟩
          · have h1 := (hv q hq hnn).1
            exact hbF.block q (hra.ah.lt hnn hq) (by omega)
          · have e1 : mW gw (w10.setCell ⟨gw, 23, none⟩ (.pointer (some ⟨rg, 0, none⟩))) = n + 0 := mW_of (R := some ⟨rg, 0, none⟩) hrF
            have e2 := HMW.out
            omega
        · have hne : (er != 0) = true := by simpa using h0
          go_wp2_with fail
          refine ⟨⟨x, nE, t, none, HW.out.skip HB46.out HR6.out HAT.out⟩, ?_⟩
          have e1 : mW gw w6 = n + 1 := mW_of (R := none) HR6.out
          have e2 := HMW.out
          omega
end Go.Proofs.Yteojhhfcfdkmdaa
/- The law's now: the node as a memory shows it, trimmed; conditions: the memory lies, and shows it. -/
namespace Go.Proofs.Yteojhhfcfdkmdaa
open Go.RowKit
set_option linter.unusedVariables false
theorem show_loadWN {P : Program} {ops : Array Oper} {rest : List Oper} {Q : Exit → Act → World → Prop} {d : Option Nat} {t2 : TypeId} {x : Operand} {ps : String} {af : Array Edge} {g : Option (Nat × Bool)} {a : Act} {w : World} (h : wpList P ops Q (⟨d, .load 76 x, t2, ps, af, g⟩ :: rest) a w) : wpList P ops Q (⟨d, .load 76 x, t2, ps, af, g⟩ :: rest) a w := h
theorem store_ndW (w1 : World) (n : Nd) : ∃ W2, W2 = (w1.alloc (.cells #[.int .i64 0, .int .u64 0, .int .u64 0, .int .u64 0, .int .u64 0, .int .u64 0, .int .u64 0, .int .u64 0, .int .u64 0, .int .u64 0, .int .u64 0, .int .u64 0, .int .u64 0, .int .u64 0, .int .u64 0, .int .u64 0, .int .u64 0, .int .u64 0, .int .u64 0, .int .u64 0, .int .u64 0] 27)).setCells w1.heap.size 0 n.cl ∧ NdAt W2 w1.heap.size n ∧ Below w1.heap.size w1 W2 :=
  ⟨_, rfl, row_setCells (Row.new w1 27 zeroNd.cl.toArray) rfl, setCells_low _ (Nat.le_refl _) (alloc_low _ _)⟩
/-- Where its loop stands: the words that were read, the memory. -/
structure NwS (W : World) (y : Lay) (s : St) (c : Nd) (gz gd k : Nat) (y' : Lay) (wr : World) : Prop where
  mem : MemAt wr y' { s with ld := s.ld + k }
  g : y'.g = y.g
  fp : ∀ q, y'.fp q → y.fp q ∨ W.heap.size ≤ q
  but : But W wr (fun q => y.fp q)
  row : Row wr gd 76 (preW (wo9 c) k).toArray
  nd : NdAt wr gz zeroNd
  sz : ¬ y'.fp gz
  sd : ¬ y'.fp gd
theorem wAt_wo9 (c : Nd) (j : Nat) : wAt (wo9 c) j = (wo9 c).getD j 0 := rfl
set_option maxRecDepth 100000 in
set_option maxHeartbeats 4000000 in
theorem now11_any {W : World} {y : Lay} {s : St} {n : Nat} {low : Int} {c : Nd} (hm : MemAt W y s) (hl : Lds 64 n s) (hn : n ≤ 900000) (hi : MemIn s low c) (hc : CurOk c) :
    Calls Try.prog 11 #[.pointer (some ⟨y.g, 0, none⟩)] W fun e w' => e = .returned (c.tr (c.len + 1) c.len).V ∧ ∃ y', MemAt w' y' { s with ld := s.ld + 24 } ∧ y'.g = y.g ∧ (∀ q, y'.fp q → y.fp q ∨ W.heap.size ≤ q) ∧ But W w' (fun q => y.fp q) := by
  have h00 : 0 ≤ wAt (wo9 c) 0 ∧ wAt (wo9 c) 0 < 18446744073709551616 := hc.in9.at_ 0
  obtain ⟨W1, hW1⟩ : ∃ W1, W1 = (W.alloc (.cells #[.int .i64 0, .int .u64 0, .int .u64 0, .int .u64 0, .int .u64 0, .int .u64 0, .int .u64 0, .int .u64 0, .int .u64 0, .int .u64 0, .int .u64 0, .int .u64 0, .int .u64 0, .int .u64 0, .int .u64 0, .int .u64 0, .int .u64 0, .int .u64 0, .int .u64 0, .int .u64 0, .int .u64 0] 27)).alloc (.cells zeroW.toArray 76) := ⟨_, rfl⟩
  have r0 : NdAt W1 W.heap.size zeroNd := by rw [hW1]; exact (Row.new W 27 zeroNd.cl.toArray).alloc _
  have r1 : Row W1 (W.heap.size + 1) 76 (preW (wo9 c) 0).toArray := by
    have := Row.new (W.alloc (.cells #[.int .i64 0, .int .u64 0, .int .u64 0, .int .u64 0, .int .u64 0, .int .u64 0, .int .u64 0, .int .u64 0, .int .u64 0, .int .u64 0, .int .u64 0, .int .u64 0, .int .u64 0, .int .u64 0, .int .u64 0, .int .u64 0, .int .u64 0, .int .u64 0, .int .u64 0, .int .u64 0, .int .u64 0] 27)) 76 zeroW.toArray
    rw [World.size_alloc] at this
    rw [hW1, preW_zero]
    exact this
  have hb1 : Below W.heap.size W W1 := by rw [hW1]; exact low_and' (alloc_low' _ _) (alloc_low' _ _)
  have hlt := hm.lt
  have HNS := Lib.hid (show NwS W y s c W.heap.size (W.heap.size + 1) 0 y W1 from ⟨hm.below hb1, rfl, fun q hq => .inl hq, But.of_below hb1 _, r1, r0, fun hf => by have := hlt _ hf; omega, fun hf => by have := hlt _ hf; omega⟩)
  have HLD := Lib.hid (show ∀ (k : Nat) (y' : Lay) (wr : World), k < 24 → NwS W y s c W.heap.size (W.heap.size + 1) k y' wr → Calls Try.prog 30 #[.pointer (some ⟨y.g, 0, none⟩), .int .u64 (1088 + 8 * (k : Int))] wr fun e w' => e = .returned (.tuple #[.int .u64 (wAt (wo9 c) k), .int .i64 0]) ∧ ∃ y2, MemAt w' y2 { s with ld := s.ld + (k + 1) } ∧ y2.g = y.g ∧ (∀ q, y2.fp q → y.fp q ∨ W.heap.size ≤ q) ∧ But W w' (fun q => y.fp q) ∧ Row w' (W.heap.size + 1) 76 (preW (wo9 c) k).toArray ∧ NdAt w' W.heap.size zeroNd ∧ ¬ y2.fp W.heap.size ∧ ¬ y2.fp (W.heap.size + 1) from fun k y' wr hk h => by
    have hnl : s.nl = 64 := hl.nls
    have hnum := hl.num
    have hok : St.Ok { s with ld := s.ld + k } := { hl.ok with num := ⟨by have := hl.ok.num; show s.ld + k < _; omega, hl.ok.num.2⟩ }
    have hcnd : (1088 + 8 * k) % 8 = 0 ∧ 1088 + 8 * k < 64 * s.nl := by rw [hnl]; omega
    have := load_any h.mem hok (1088 + 8 * k)
    have hv : ldV { s with ld := s.ld + k } (1088 + 8 * k) = wAt (wo9 c) k := by
      unfold ldV
      rw [if_pos hcnd, show (1088 + 8 * k) / 8 = 136 + k by omega]
      exact hi.wd k hk
    have hkk : ldK { s with ld := s.ld + k } (1088 + 8 * k) = 0 := if_pos hcnd
    have hs : ldS { s with ld := s.ld + k } (1088 + 8 * k) = { s with ld := s.ld + (k + 1) } := by
      unfold ldS
      rw [if_pos hcnd]
      rfl
    rw [hv, hkk, hs, h.g, show ((1088 + 8 * k : Nat) : Int) = 1088 + 8 * (k : Int) by omega] at this
    refine this.mono ?_
    rintro e w' ⟨he, y2, hm2, T⟩
    have hz := h.nd
    have hzl := Row.lt hz
    have hdl := h.row.lt
    refine ⟨he, y2, hm2, T.g.trans h.g, fun q hq => ?_, h.but.trans T.but fun q hq => h.fp q hq, T.but.row h.row h.sd, T.but.row h.nd h.sz, fun hf => ?_, fun hf => ?_⟩
    · rcases T.fp q hq with h1 | h1
      · exact h.fp q h1
      · exact .inr (Nat.le_trans h.but.size h1)
    · rcases T.fp _ hf with h1 | h1
      · exact h.sz h1
      · omega
    · rcases T.fp _ hf with h1 | h1
      · exact h.sd h1
      · omega)
  have HOF := Lib.hid (show ∀ W', Calls Try.prog 31 #[.agg ((wo9 c).map uw).toArray] W' fun e w' => e = .returned (.tuple #[c.V, .int .i64 0]) ∧ Below W'.heap.size W' w' from fun W' => by
    have := r8Of_any (wo9_len c) h00 W'
    rw [ofR_wo9 hc.lv] at this
    exact this)
  have HTR := Lib.hid fun W' => r11Trim_any c W'
  have HALL := Lib.hid (preW_all (wo9 c) (wo9_len c))
  have HW1 := Lib.hid hW1
  obtain ⟨gd, hgd⟩ : ∃ gd, gd = W.heap.size + 1 := ⟨_, rfl⟩
  have HGD := Lib.hid hgd
  obtain ⟨gm, hgm⟩ : ∃ gm, gm = y.g := ⟨_, rfl⟩
  rw [← hgm] at HLD ⊢
  have HGM := Lib.hid hgm
  have HYN := Lib.hid hlt
  clear hW1 r0 r1 hb1 hlt hm hl hn hi hc h00 hgd hgm
  go_enter Try.func11, Try.ntmps11
  go_wp2_with fail
  (try unfold zeroW at HW1)
  (try unfold uw at HW1)
  rw [← HW1.out]
  rw [← HGD.out] at HNS HLD ⊢
  go_loopw [4] (fun i wr => ∃ k : Nat, k ≤ 24 ∧ i = .int .i64 (k : Int) ∧ ∃ y', NwS W y s c W.heap.size gd k y' wr) (fun i _ => 24 - (intOf i).toNat)
  case atStart => exact ⟨0, by omega, rfl, y, HNS.out⟩
  case round =>
    rename World => wr
    obtain ⟨k, hk, rfl, y', hq⟩ := hrel
    by_cases hlt : k < 24
    · have hk24 : (k : Int) < 24 := by omega
      have hw0 : IntKind.u64.wrap (8 * (k : Int)) = 8 * (k : Int) := by rw [IntKind.wrap_u64]; omega
      have hw1 : IntKind.u64.wrap (1088 + 8 * (k : Int)) = 1088 + 8 * (k : Int) := by rw [IntKind.wrap_u64]; omega
      have HC := Lib.hid (HLD.out k y' wr hlt hq)
      have HST := Lib.hid (preW_set (wo9 c) hlt)
      have HPG := Lib.hid (preW_get (wo9 c) k hlt)
      obtain ⟨v, hv⟩ : ∃ v, v = wAt (wo9 c) k := ⟨_, rfl⟩
      rw [← hv] at HC HST
      clear hq hv
      go_wp2_with fail
      refine HC.out.mono ?_
      rintro e w2 ⟨rfl, y2, m2, g2, f2, b2, r2, n2, z2, d2⟩
      have hc : w2.cell? ⟨gd, k, none⟩ = some (.int .u64 0) := by
        rw [r2.cell, List.getElem?_toArray, HPG.out, if_neg (by omega)]
      have hf := r2.free k
      have H2 := Lib.hid (And.intro m2 (And.intro g2 (And.intro f2 (And.intro b2 (And.intro r2 (And.intro n2 (And.intro z2 d2)))))))
      clear m2 g2 f2 b2 r2 n2 z2 d2 HC
      go_wp2_with fail
      refine ⟨⟨k + 1, by omega, by go_num, y2, ?_⟩, by simp [intOf]; omega⟩
      obtain ⟨m2, g2, f2, b2, r2, n2, z2, d2⟩ := H2.out
      have hgd := HGD.out
      refine ⟨m2.same fun q hq => heap_setCell_other _ _ _ _ (fun e => d2 ((show q = gd from e) ▸ hq)), g2.trans HGM.out, f2, ?_, ?_, n2.other (p := ⟨gd, k, none⟩) (by dsimp only; omega) _, z2, d2⟩
      · exact b2.trans ((But.refl w2 (fun q => q = gd)).set (p := ⟨gd, k, none⟩) rfl _) fun q hq => .inr (by omega)
      · rw [← HST.out]
        exact r2.set k _
    · obtain rfl : k = 24 := by omega
      obtain ⟨VS, hVS⟩ : ∃ VS, VS = preW (wo9 c) 24 := ⟨_, rfl⟩
      have hrow := hq.row
      rw [← hVS] at hrow
      have HROW := Lib.hid hrow
      have HQ := Lib.hid hq
      have HVL := Lib.hid (show VS.length = 24 by rw [hVS, preW_len])
      have HOF2 := Lib.hid (show ∀ W', Calls Try.prog 31 #[.agg VS.toArray] W' fun e w' => e = .returned (.tuple #[c.V, .int .i64 0]) ∧ Below W'.heap.size W' w' from fun W' => by rw [hVS, HALL.out]; exact HOF.out W')
      obtain ⟨M, hM⟩ : ∃ M, M = c.tr (c.len + 1) c.len := ⟨_, rfl⟩
      have HTR2 := Lib.hid (show ∀ W', Calls Try.prog 29 #[c.V] W' fun e w' => e = .returned M.V ∧ Below W'.heap.size W' w' from fun W' => by rw [hM]; exact HTR.out W')
      have HM := Lib.hid hM
      clear hVS hM hrow hq HOF HALL HLD HTR HNS hk
      go_wp2_with (first
        | ((with_reducible refine show_loadWN ?_); refine wpList_load_mid rfl _ _ rfl gd 0 rfl VS _ (rowR HROW.out) Try.underlying76 rfl (by rw [HVL.out]; exact w24I) ?_)
        | (go_at_call 31; refine (HOF2.out _).mono ?_; rintro e w3 ⟨rfl, hb3⟩; have HB3 := Lib.hid hb3; clear hb3)
        | (go_at_call 29; refine (HTR2.out _).mono ?_; rintro e w5 ⟨rfl, hb5⟩; have HB5 := Lib.hid (Below.and HB4.out hb5); have H05 := Lib.hid (Row.below HQ.out.nd HB5.out (Row.lt HQ.out.nd)); clear hb5)
        | ((with_reducible refine show_storeN ?_); refine wpList_store_row rfl _ _ _ rfl W.heap.size M.cl rfl rfl H05.out rfl ndI (cl_one _) ?_)
        | ((with_reducible refine show_storeN ?_); refine wpList_store_row rfl _ _ _ rfl w3.heap.size c.cl rfl rfl (Row.new w3 27 zeroNd.cl.toArray) rfl ndI (cl_one _) ?_; obtain ⟨W4, hW4, hn4, hb4⟩ := store_ndW w3 c; rw [← hW4]; have HN4 := Lib.hid hn4; have HB4 := Lib.hid (Below.and HB3.out hb4); clear hW4 hn4 hb4)
        | ((with_reducible refine show_loadN ?_); refine wpList_load_mid rfl _ _ rfl w3.heap.size 0 rfl c.cl _ (ndR HN4.out) Try.underlying27 rfl ndI ?_))
      refine bodyPost_ret (results_node1 rfl _ _ W.heap.size M rfl (row_setCells H05.out rfl)) rfl ⟨?_, ?_⟩
      · rw [HM.out]
      · have hq := HQ.out
        have hbF : But wr (w5.setCells W.heap.size 0 M.cl) (fun q => q = W.heap.size) := by
          have h1 : But wr w5 (fun q => q = W.heap.size) := But.of_below HB5.out _
          have hset : ∀ (vs : List Value) (o : Nat) {w w' : World}, But w w' (fun q => q = W.heap.size) → But w (w'.setCells W.heap.size o vs) (fun q => q = W.heap.size) := fun vs => by
            induction vs with
            | nil => exact fun o w w' h => h
            | cons v r ih => exact fun o w w' h => ih (o + 1) (h.set (p := ⟨W.heap.size, o, none⟩) rfl v)
          exact hset _ _ h1
        have hm := hq.mem.but hbF (fun q hf e => hq.sz (e ▸ hf))
        exact ⟨y', hm, hq.g.trans HGM.out.symm, hq.fp, hq.but.trans hbF fun q e => .inr (by omega)⟩
end Go.Proofs.Yteojhhfcfdkmdaa
