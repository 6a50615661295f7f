/- Texts of this claim, packed: 6La, 6Lb, 6Do1, 6Do8, 6Dj. -/
import Derived.Test.YtahojhaeebmpoaaGreatDoorPq40
import Derived.Test.YtahojhaeebmpoaaGreatDoorPq43
import Derived.Test.YtahojhaeebmpoaaGreatDoorPq42
import Derived.Deep.QuietTactic
import Derived.Deep.DeepCutAuto
import Derived.Deep.CutBlock
/- What of the headers' lines may have lasted, in the law's game: plain facts. -/
namespace Go.Proofs.YtahojhaeebmpoaaGreatDoor
open Go.RowKit Go.Sort
set_option linter.unusedVariables false
theorem bitV_bit {v b j : Nat} (hb : b < 18446744073709551616) (hj : j < 64) (k : Nat) : (bitV v b j).testBit k = if j = k then decide (v = 4) else b.testBit k := by
  have hjj : 0 ≤ (j : Int) ∧ (j : Int) ≤ 63 := ⟨by omega, by omega⟩
  have e1 : mk (j : Int) = 2 ^ j := by rw [mk_in hjj]; rfl
  unfold bitV
  by_cases hv : v = 4
  · rw [if_pos hv, ← or_mk hb, e1, Nat.testBit_or, Nat.testBit_two_pow]
    by_cases e : j = k
    · simp [e, hv]
    · simp [e]
  · rw [if_neg hv, ← andn_mk hb, e1, Nat.testBit_and, not_bit hj]
    by_cases e : j = k
    · simp [e, hv]
    · by_cases hk : b.testBit k = true
      · simp [e, hk, bit_lt hb hk]
      · simp [e, Bool.not_eq_true _ ▸ hk]
/-- A slab's class and bits, where so many of its line's pending stores have lasted. -/
def fr (s : St) (i m : Nat) : Nat × Nat := ((lastW s.lasted ((s.pend.getD (16 * (i + 1)) []).take m)).getD (128 * (i + 1)) 0, (lastW s.lasted ((s.pend.getD (16 * (i + 1)) []).take m)).getD (128 * (i + 1) + 1) 0)
def pl (s : St) (i : Nat) : Nat := (s.pend.getD (16 * (i + 1)) []).length
/-- Some of them have lasted: the rest is as before. -/
structure Sh (s s' : St) (i m : Nat) : Prop where
  le : m ≤ pl s i
  len : pl s' i = pl s i - m
  fr : ∀ q, fr s' i q = fr s i (m + q)
  mks : ∀ c, s'.mm (16 * (i + 1)) c = s.mm (16 * (i + 1)) c - m
theorem getD_opt {l l' : List Nat} {k : Nat} (h : l[k]? = l'[k]?) : l.getD k 0 = l'.getD k 0 := by rw [List.getD_eq_getElem?_getD, List.getD_eq_getElem?_getD, h]
theorem lastW_two (las : List Nat) (a b : List (Nat × Nat)) : lastW las (a ++ b) = lastW (lastW las a) b := by simp [lastW]
theorem take_two {α : Type} (l : List α) (m q : Nat) : l.take (m + q) = l.take m ++ (l.drop m).take q := by rw [List.take_add]
theorem sh_last {s : St} (ok : s.Ok) {i j m : Nat} (hj : j < s.pend.length) (hm : m ≤ (s.pend.getD j []).length) : ∃ m', Sh s (s.last j m) i m' := by
  have hpl : ∀ k, (s.last j m).pend.getD k [] = if j = k then (s.pend.getD j []).drop m else s.pend.getD k [] := fun k => by
    show (s.pend.set j ((s.pend.getD j []).drop m)).getD k [] = _
    rw [List.getD_eq_getElem?_getD, List.getElem?_set]
    by_cases e : j = k
    · subst e; rw [if_pos rfl, if_pos hj, if_pos rfl]; rfl
    · rw [if_neg e, if_neg e, ← List.getD_eq_getElem?_getD]
  by_cases e : j = 16 * (i + 1)
  · subst e
    refine ⟨m, hm, ?_, fun q => ?_, fun c => ?_⟩
    · unfold pl
      rw [hpl, if_pos rfl, List.length_drop]
    · unfold fr
      rw [hpl, if_pos rfl]
      show ((lastW (lastW s.lasted ((s.pend.getD (16 * (i + 1)) []).take m)) _).getD _ 0, (lastW (lastW s.lasted ((s.pend.getD (16 * (i + 1)) []).take m)) _).getD _ 0) = _
      rw [take_two, lastW_two]
    · show umk s.mm (16 * (i + 1)) m (16 * (i + 1)) c = _
      rw [umk_at]
  · refine ⟨0, Nat.zero_le _, ?_, fun q => ?_, fun c => ?_⟩
    · unfold pl
      rw [hpl, if_neg e]; omega
    · have hloc : ∀ k, k / 8 = 16 * (i + 1) → (lastW (s.last j m).lasted ((s.pend.getD (16 * (i + 1)) []).take q)).getD k 0 = (lastW s.lasted ((s.pend.getD (16 * (i + 1)) []).take (0 + q))).getD k 0 := fun k hk => by
        rw [Nat.zero_add]
        refine getD_opt (lastW_local _ (lastW_length _ _) ?_)
        show (lastW s.lasted ((s.pend.getD j []).take m))[k]? = _
        refine lastW_far fun p hp => ?_
        have h1 := List.mem_of_mem_take hp
        rw [List.getD_eq_getElem?_getD] at h1
        cases hg : s.pend[j]? with
        | none => rw [hg] at h1; cases h1
        | some l =>
          rw [hg] at h1
          have h2 := ok.put j l hg p h1
          omega
      unfold fr
      rw [hpl, if_neg e, hloc _ (by omega), hloc _ (by omega)]
    · show umk s.mm j m (16 * (i + 1)) c = _
      rw [umk_far (fun h => e h.symm)]
      omega
theorem sh_fence {s : St} (ok : s.Ok) (hp : s.pend.length = s.nl) (hl : s.lasted.length = 8 * s.nl) {i c : Nat} (hi : 16 * (i + 1) < s.nl) : Sh s (s.fence c) i (s.mm (16 * (i + 1)) c) := by
  have hpl : (s.fence c).pend.getD (16 * (i + 1)) [] = (s.pend.getD (16 * (i + 1)) []).drop (s.mm (16 * (i + 1)) c) := by
    simp [St.fence, St.fenV, List.getD_eq_getElem?_getD, List.getElem?_mapIdx]
    rw [List.getElem?_eq_getElem (by omega)]
    simp
  have hla : ∀ k, k / 8 = 16 * (i + 1) → (s.fence c).lasted[k]? = (lastW s.lasted ((s.pend.getD (16 * (i + 1)) []).take (s.mm (16 * (i + 1)) c)))[k]? := fun k hk => by
    have hkl : k < s.lasted.length := by omega
    have h2 : k < (lastW s.lasted ((s.pend.getD (16 * (i + 1)) []).take (s.mm (16 * (i + 1)) c))).length := by rw [lastW_length]; exact hkl
    rw [List.getElem?_eq_getElem h2]
    have : (s.fence c).lasted[k]? = some ((lastW s.lasted ((s.pend.getD (k / 8) []).take (s.mm (k / 8) c))).getD k 0) := by
      simp [St.fence, St.fenV, List.getElem?_mapIdx, List.getElem?_eq_getElem hkl]
    rw [this, hk, List.getD_eq_getElem?_getD, List.getElem?_eq_getElem h2]
    rfl
  refine ⟨ok.mks _ _, ?_, fun q => ?_, fun c' => ?_⟩
  · unfold pl
    rw [hpl, List.length_drop]
  · have hloc : ∀ k, k / 8 = 16 * (i + 1) → (lastW (s.fence c).lasted (((s.pend.getD (16 * (i + 1)) []).drop (s.mm (16 * (i + 1)) c)).take q)).getD k 0 = (lastW s.lasted ((s.pend.getD (16 * (i + 1)) []).take (s.mm (16 * (i + 1)) c + q))).getD k 0 := fun k hk => by
      rw [take_two, lastW_two]
      refine getD_opt (lastW_local _ ?_ (hla k hk))
      rw [lastW_length]
      simp [St.fence, St.fenV]
    unfold fr
    rw [hpl, hloc _ (by omega), hloc _ (by omega)]
  · simp [St.fence, St.fenV]
/-- A store into the header. -/
theorem fr_store {s : St} (hp : s.pend.length = s.nl) (hl : s.lasted.length = 8 * s.nl) {i e v : Nat} (he : e < 2) (hi : 16 * (i + 1) < s.nl) :
    pl (s.store (1024 * (i + 1) + 8 * e) v) i = pl s i + 1 ∧ (∀ m, m ≤ pl s i → fr (s.store (1024 * (i + 1) + 8 * e) v) i m = fr s i m) ∧
    fr (s.store (1024 * (i + 1) + 8 * e) v) i (pl s i + 1) = (if e = 0 then v else (fr s i (pl s i)).1, if e = 0 then (fr s i (pl s i)).2 else v) := by
  have ha : (1024 * (i + 1) + 8 * e) / 64 = 16 * (i + 1) := by omega
  have ha8 : (1024 * (i + 1) + 8 * e) / 8 = 128 * (i + 1) + e := by omega
  have hpl : (s.store (1024 * (i + 1) + 8 * e) v).pend.getD (16 * (i + 1)) [] = s.pend.getD (16 * (i + 1)) [] ++ [(1024 * (i + 1) + 8 * e, v)] := by
    show (s.pend.set ((1024 * (i + 1) + 8 * e) / 64) (s.pend.getD ((1024 * (i + 1) + 8 * e) / 64) [] ++ [(1024 * (i + 1) + 8 * e, v)])).getD (16 * (i + 1)) [] = _
    rw [ha, List.getD_eq_getElem?_getD, List.getElem?_set, if_pos rfl, if_pos (by omega)]
    rfl
  refine ⟨by unfold pl; rw [hpl, List.length_append]; rfl, fun m hm => ?_, ?_⟩
  · unfold fr
    rw [hpl, List.take_append_of_le_length hm]
    rfl
  · have hfull : ∀ k, (lastW s.lasted ((s.pend.getD (16 * (i + 1)) []).take (pl s i))).getD k 0 = (lastW s.lasted (s.pend.getD (16 * (i + 1)) [])).getD k 0 := fun k => by unfold pl; rw [List.take_length]
    have hlen : (lastW s.lasted (s.pend.getD (16 * (i + 1)) [])).length = 8 * s.nl := by rw [lastW_length, hl]
    have hst : ∀ k, k < 8 * s.nl → (lastW (s.store (1024 * (i + 1) + 8 * e) v).lasted (((s.store (1024 * (i + 1) + 8 * e) v).pend.getD (16 * (i + 1)) []).take (pl s i + 1))).getD k 0 = if 128 * (i + 1) + e = k then v else (lastW s.lasted (s.pend.getD (16 * (i + 1)) [])).getD k 0 := fun k hk => by
      rw [hpl, List.take_of_length_le (by unfold pl; rw [List.length_append]; exact Nat.le_refl _), lastW_snoc, ha8, List.getD_eq_getElem?_getD, List.getElem?_set, show (s.store (1024 * (i + 1) + 8 * e) v).lasted = s.lasted from rfl]
      by_cases e2 : 128 * (i + 1) + e = k
      · rw [if_pos e2, if_pos e2, if_pos (by rw [hlen]; omega)]; rfl
      · rw [if_neg e2, if_neg e2, ← List.getD_eq_getElem?_getD]
    unfold fr
    rw [hst _ (by omega), hst _ (by omega), hfull, hfull]
    by_cases h0 : e = 0
    · subst h0; simp
    · obtain rfl : e = 1 := by omega
      simp
theorem fr_other {s : St} {i i' e v : Nat} (he : e < 2) (hn : i' ≠ i) : pl (s.store (1024 * (i + 1) + 8 * e) v) i' = pl s i' ∧ ∀ m, fr (s.store (1024 * (i + 1) + 8 * e) v) i' m = fr s i' m := by
  have hpl : (s.store (1024 * (i + 1) + 8 * e) v).pend.getD (16 * (i' + 1)) [] = s.pend.getD (16 * (i' + 1)) [] := by
    show (s.pend.set ((1024 * (i + 1) + 8 * e) / 64) _).getD (16 * (i' + 1)) [] = _
    rw [List.getD_eq_getElem?_getD, List.getElem?_set, if_neg (by omega), ← List.getD_eq_getElem?_getD]
  exact ⟨by unfold pl; rw [hpl], fun m => by unfold fr; rw [hpl]; rfl⟩
/-- Such a header may be found, where a slab is so. -/
def okF (x : Hd) (p : Nat × Nat) : Prop := (p.1 = x.cls ∨ p.1 = 0 ∧ p.2 = 0) ∧ (∀ k, p.2.testBit k = true → ∃ v, x.bl[k]? = some v ∧ (v = 2 ∨ v = 3 ∨ v = 4)) ∧ ∀ k, x.bl[k]? = some 2 → p.2.testBit k = true
/-- What holds of the headers' lines. -/
structure La6 (z : S6) : Prop where
  f : ∀ i x, z.hs[i]? = some x → ∀ m, m ≤ pl z.s i → okF x (fr z.s i m)
  b : ∀ i x, z.hs[i]? = some x → x.bits = (fr z.s i (pl z.s i)).2
  t1 : ∀ t ∈ z.T, ∀ x, z.hs[t.i]? = some x → 1 ≤ t.k → (fr z.s t.i (pl z.s t.i)).1 = x.cls
  t2 : ∀ t ∈ z.T, t.k = 2 → (fr z.s t.i (pl z.s t.i)).2.testBit t.j = decide (t.v = 4)
  t3 : ∀ t ∈ z.T, t.k = 3 → ∀ m, z.s.mm (16 * (t.i + 1)) t.cl ≤ m → m ≤ pl z.s t.i → (fr z.s t.i m).2.testBit t.j = decide (t.v = 4)
end Go.Proofs.YtahojhaeebmpoaaGreatDoor
/- What of the headers' lines may have lasted: so it stays, whatever the law's game does; plain facts. -/
namespace Go.Proofs.YtahojhaeebmpoaaGreatDoor
open Go.RowKit Go.Sort
set_option linter.unusedVariables false
theorem TnOk.lt {hs : List Hd} {t : Tu} (h : TnOk hs t) : t.i < hs.length := by
  obtain ⟨x, hx, _⟩ := h
  exact (List.getElem?_eq_some_iff.1 hx).1
theorem La6.shift {z : S6} (L : La6 z) (ht : ∀ t ∈ z.T, TnOk z.hs t) {s' : St} (h : ∀ i, i < z.hs.length → ∃ m, Sh z.s s' i m) : La6 ⟨s', z.hs, z.cls, z.L, z.T⟩ := by
  refine ⟨fun i x hx m hm => ?_, fun i x hx => ?_, fun t htm x hx hk => ?_, fun t htm hk => ?_, fun t htm hk m h1 h2 => ?_⟩
  · obtain ⟨m0, hs⟩ := h i (List.getElem?_eq_some_iff.1 hx).1
    show okF x (fr s' i m)
    rw [hs.fr]
    have hm' : m ≤ pl s' i := hm
    rw [hs.len] at hm'
    exact L.f i x hx _ (by have := hs.le; omega)
  · obtain ⟨m0, hs⟩ := h i (List.getElem?_eq_some_iff.1 hx).1
    show x.bits = (fr s' i (pl s' i)).2
    rw [hs.fr, hs.len, show m0 + (pl z.s i - m0) = pl z.s i from by have := hs.le; omega]
    exact L.b i x hx
  · obtain ⟨m0, hs⟩ := h t.i (ht t htm).lt
    show (fr s' t.i (pl s' t.i)).1 = _
    rw [hs.fr, hs.len, show m0 + (pl z.s t.i - m0) = pl z.s t.i from by have := hs.le; omega]
    exact L.t1 t htm x hx hk
  · obtain ⟨m0, hs⟩ := h t.i (ht t htm).lt
    show (fr s' t.i (pl s' t.i)).2.testBit t.j = _
    rw [hs.fr, hs.len, show m0 + (pl z.s t.i - m0) = pl z.s t.i from by have := hs.le; omega]
    exact L.t2 t htm hk
  · obtain ⟨m0, hs⟩ := h t.i (ht t htm).lt
    show (fr s' t.i m).2.testBit t.j = _
    have h1' : s'.mm (16 * (t.i + 1)) t.cl ≤ m := h1
    have h2' : m ≤ pl s' t.i := h2
    rw [hs.mks] at h1'
    rw [hs.len] at h2'
    rw [hs.fr]
    exact L.t3 t htm hk _ (by omega) (by have := hs.le; omega)
theorem okF.set {x : Hd} {p : Nat × Nat} (h : okF x p) {j v : Nat} (hj : j < x.bl.length) (h1 : v = 2 → p.2.testBit j = true) (h2 : p.2.testBit j = true → v = 2 ∨ v = 3 ∨ v = 4) : okF { x with bl := x.bl.set j v } p := by
  refine ⟨h.1, fun k hk => ?_, fun k hk => ?_⟩
  · show ∃ u, (x.bl.set j v)[k]? = some u ∧ _
    rw [List.getElem?_set]
    by_cases e : j = k
    · subst e; rw [if_pos rfl, if_pos hj]; exact ⟨v, rfl, h2 hk⟩
    · rw [if_neg e]; exact h.2.1 k hk
  · have hk' : (x.bl.set j v)[k]? = some 2 := hk
    rw [List.getElem?_set] at hk'
    by_cases e : j = k
    · subst e; rw [if_pos rfl, if_pos hj] at hk'; exact h1 (Option.some.inj hk')
    · rw [if_neg e] at hk'; exact h.2.2 k hk'
theorem set_cases {hs : List Hd} {i k : Nat} {y z : Hd} (hi : i < hs.length) (hz : (hs.set i y)[k]? = some z) : (k = i ∧ z = y) ∨ (k ≠ i ∧ hs[k]? = some z) := by
  rw [List.getElem?_set] at hz
  by_cases e : i = k
  · subst e; rw [if_pos rfl, if_pos hi] at hz; exact .inl ⟨rfl, (Option.some.inj hz).symm⟩
  · rw [if_neg e] at hz; exact .inr ⟨fun h => e h.symm, hz⟩
/-- A block becomes something else; turns T' are on their way, of which all is known that there was. -/
theorem La6.set_bl {z : S6} (L : La6 z) {i j v : Nat} {x : Hd} {cls' : List Nat} {L' : List (Nat × Nat)} {T' : List Tu} (hx : z.hs[i]? = some x) (hj : j < x.bl.length)
    (h1 : v = 2 → ∀ m, m ≤ pl z.s i → (fr z.s i m).2.testBit j = true) (h2 : ¬ (v = 2 ∨ v = 3 ∨ v = 4) → ∀ m, m ≤ pl z.s i → (fr z.s i m).2.testBit j = false) (hT : ∀ t ∈ T', t ∈ z.T ∨ t.k = 0) :
    La6 ⟨z.s, z.hs.set i { x with bl := x.bl.set j v }, cls', L', T'⟩ := by
  have hi := (List.getElem?_eq_some_iff.1 hx).1
  refine ⟨fun k y hy m hm => ?_, fun k y hy => ?_, fun t ht y hy hk => ?_, fun t ht hk => ?_, fun t ht hk => ?_⟩
  · rcases set_cases hi hy with ⟨rfl, rfl⟩ | ⟨_, hy⟩
    · refine (L.f k x hx m hm).set hj (fun e => h1 e m hm) fun hb => Decidable.byContradiction fun hn => ?_
      rw [h2 hn m hm] at hb
      cases hb
    · exact L.f k y hy m hm
  · rcases set_cases hi hy with ⟨rfl, rfl⟩ | ⟨_, hy⟩
    · exact L.b k x hx
    · exact L.b k y hy
  · rcases hT t ht with h | h
    · rcases set_cases hi hy with ⟨e, rfl⟩ | ⟨_, hy⟩
      · rw [← e] at hx; exact L.t1 t h x hx hk
      · exact L.t1 t h y hy hk
    · omega
  · rcases hT t ht with h | h
    · exact L.t2 t h hk
    · omega
  · rcases hT t ht with h | h
    · exact L.t3 t h hk
    · omega
theorem no_bits {b : Nat} (h : ∀ k, b.testBit k = true → False) : b = 0 := Nat.eq_of_testBit_eq fun k => by
  rw [Nat.zero_testBit]
  cases hb : b.testBit k with
  | false => rfl
  | true => exact (h k hb).elim
theorem La6.claim {z : S6} (L : La6 z) (ok : HsOk z.hs) (ht : ∀ t ∈ z.T, TnOk z.hs t) {i c : Nat} {x : Hd} (hx : z.hs[i]? = some x) (h0 : x.cls = 0) :
    La6 ⟨z.s, z.hs.set i ⟨x.no, c, 0, blK (blN c) 0 (blN c)⟩, z.cls, z.L, z.T⟩ := by
  have hi := (List.getElem?_eq_some_iff.1 hx).1
  have hl := (ok i x hx).2
  rw [h0] at hl
  have hbl : x.bl = [] := List.eq_nil_of_length_eq_zero hl
  have hz : ∀ m, m ≤ pl z.s i → (fr z.s i m).1 = 0 ∧ (fr z.s i m).2 = 0 := fun m hm => by
    have h := L.f i x hx m hm
    have hb : (fr z.s i m).2 = 0 := no_bits fun k hk => by
      obtain ⟨v, hv, _⟩ := h.2.1 k hk
      rw [hbl] at hv
      simp at hv
    refine ⟨?_, hb⟩
    rcases h.1 with h1 | ⟨h1, _⟩
    · rw [h1, h0]
    · exact h1
  have hne : ∀ t ∈ z.T, t.i ≠ i := fun t htm e => by
    obtain ⟨y, hy, hb, _⟩ := ht t htm
    rw [e, hx] at hy
    cases hy
    rw [hbl] at hb
    simp at hb
  refine ⟨fun k y hy m hm => ?_, fun k y hy => ?_, fun t htm y hy hk => ?_, L.t2, L.t3⟩
  · rcases set_cases hi hy with ⟨rfl, rfl⟩ | ⟨_, hy⟩
    · obtain ⟨h1, h2⟩ := hz m hm
      refine ⟨.inr ⟨h1, h2⟩, fun q hq => ?_, fun q hq => ?_⟩
      · have hq' : (fr z.s k m).2.testBit q = true := hq
        rw [h2, Nat.zero_testBit] at hq'
        cases hq'
      · have hq' : (blK (blN c) 0 (blN c))[q]? = some 2 := hq
        have := (List.getElem?_eq_some_iff.1 hq').1
        rw [blK_len] at this
        rw [blK_val this] at hq'
        simp at hq'
    · exact L.f k y hy m hm
  · rcases set_cases hi hy with ⟨rfl, rfl⟩ | ⟨_, hy⟩
    · exact (hz _ (Nat.le_refl _)).2.symm
    · exact L.b k y hy
  · rcases set_cases hi hy with ⟨e, rfl⟩ | ⟨_, hy⟩
    · exact absurd e (hne t htm)
    · exact L.t1 t htm y hy hk
theorem set_mem {T : List Tu} {q : Nat} {t u : Tu} {t' : Tu} (h2 : T.Pairwise fun t u => t.a ≠ u.a) (ht : T[q]? = some t) (hu : u ∈ T.set q t') : u = t' ∨ (u ∈ T ∧ u.a ≠ t.a) := by
  obtain ⟨p, hp⟩ := List.mem_iff_getElem?.1 hu
  rw [List.getElem?_set] at hp
  by_cases e : q = p
  · subst e
    rw [if_pos rfl, if_pos (List.getElem?_eq_some_iff.1 ht).1] at hp
    exact .inl (Option.some.inj hp).symm
  · rw [if_neg e] at hp
    exact .inr (erase_mem h2 ht (List.mem_eraseIdx_iff_getElem?.2 ⟨p, fun h => e h.symm, hp⟩))
theorem okF.free {x : Hd} {p : Nat × Nat} (h : okF x p) {j u : Nat} (hu : x.bl[j]? = some u) (hn : ¬ (u = 2 ∨ u = 3 ∨ u = 4)) : p.2.testBit j = false := by
  cases hb : p.2.testBit j with
  | false => rfl
  | true =>
    obtain ⟨v, hv, h3⟩ := h.2.1 j hb
    rw [hu] at hv
    cases hv
    exact absurd h3 hn
theorem ne_ij {hs : List Hd} {t u : Tu} (h : TnOk hs t) (h2 : TnOk hs u) (hn : t.a ≠ u.a) (hi : t.i = u.i) : t.j ≠ u.j := fun hj => h.ne_a h2 hn ⟨hi, hj⟩
/-- So it stays. -/
theorem La6.step {n : Nat} {z z' : S6} (L : La6 z) (I : Inv6 n z) (ok : HsOk z.hs) (sok : z.s.Ok) (hp : z.s.pend.length = z.s.nl) (hl : z.s.lasted.length = 8 * z.s.nl) (hsz : 64 * z.s.nl = 1024 * (z.hs.length + 1)) (st : Step6 z z') : La6 z' := by
  have hnl : z.s.nl = 16 * (z.hs.length + 1) := by omega
  cases st with
  | stay => exact L
  | res hs1 hs' cls' L' c e hc1 hc3 hcl htk hw hlen =>
    have L1 : La6 ⟨z.s, hs1, z.cls, z.L, z.T⟩ := by
      rcases hcl with ⟨_, rfl⟩ | ⟨_, ⟨i, x, hz, hx, rfl⟩ | ⟨_, rfl⟩⟩
      · exact L
      · obtain ⟨⟨y, hy, h0⟩, _⟩ := hz
        rw [hx] at hy
        cases hy
        exact L.claim ok I.tn hx h0
      · exact L
    rcases htk with ⟨i, j, x, hx, _, hb, _, rfl, _⟩ | ⟨_, rfl, _⟩
    · exact L1.set_bl hx (List.getElem?_eq_some_iff.1 hb).1 (fun h => by omega) (fun _ m hm => (L1.f i x hx m hm).free hb (by omega)) (fun t ht => .inl ht)
    · exact ⟨L1.f, L1.b, L1.t1, L1.t2, L1.t3⟩
  | rel i j x hx hb => exact L.set_bl hx (List.getElem?_eq_some_iff.1 hb).1 (fun h => by omega) (fun _ m hm => (L.f i x hx m hm).free hb (by omega)) (fun t ht => .inl ht)
  | start i j x u v gt cl hx hb huv hcl =>
    refine L.set_bl hx (List.getElem?_eq_some_iff.1 hb).1 (fun h => by omega) (fun h => by omega) (fun t ht => ?_)
    rcases List.mem_append.1 ht with h | h
    · exact .inl h
    · rw [List.mem_singleton.1 h]; exact .inr rfl
  | t0 q t x ht hk hx =>
    have htm := List.mem_of_getElem? ht
    have hno := (ok t.i x hx).1
    have hi := (List.getElem?_eq_some_iff.1 hx).1
    obtain ⟨f1, f2, f3⟩ := fr_store hp hl (v := x.cls) (e := 0) (i := t.i) (by decide) (by omega)
    rw [Nat.mul_zero, Nat.add_zero, ← hno] at f1 f2 f3
    have fo := fun i' (h : i' ≠ t.i) => by
      have := fr_other (s := z.s) (i := t.i) (i' := i') (e := 0) (v := x.cls) (by decide) h
      rw [Nat.mul_zero, Nat.add_zero, ← hno] at this
      exact this
    simp only [if_pos] at f3
    have hold : ∀ u ∈ z.T.set q { t with k := 1 }, (u = { t with k := 1 }) ∨ u ∈ z.T := fun u hu => by
      rcases set_mem I.two ht hu with h | h
      · exact .inl h
      · exact .inr h.1
    refine ⟨fun k y hy m hm => ?_, fun k y hy => ?_, fun u hu y hy hk1 => ?_, fun u hu hk2 => ?_, fun u hu hk3 m h1 h2 => ?_⟩
    · by_cases e : k = t.i
      · subst e
        have hy : z.hs[t.i]? = some y := hy
        rw [hx] at hy
        cases hy
        have hm : m ≤ pl (z.s.store (1024 * x.no) x.cls) t.i := hm
        rw [f1] at hm
        show okF x (fr (z.s.store (1024 * x.no) x.cls) t.i m)
        by_cases e2 : m ≤ pl z.s t.i
        · rw [f2 m e2]; exact L.f t.i x hx m e2
        · rw [show m = pl z.s t.i + 1 from by omega, f3]
          have := L.f t.i x hx _ (Nat.le_refl _)
          exact ⟨.inl rfl, this.2.1, this.2.2⟩
      · obtain ⟨g1, g2⟩ := fo k e
        have hm : m ≤ pl (z.s.store (1024 * x.no) x.cls) k := hm
        rw [g1] at hm
        show okF y (fr (z.s.store (1024 * x.no) x.cls) k m)
        rw [g2]
        exact L.f k y hy m hm
    · show y.bits = (fr (z.s.store (1024 * x.no) x.cls) k (pl (z.s.store (1024 * x.no) x.cls) k)).2
      by_cases e : k = t.i
      · subst e; rw [f1, f3]; exact L.b t.i y hy
      · obtain ⟨g1, g2⟩ := fo k e
        rw [g1, g2]; exact L.b k y hy
    · show (fr (z.s.store (1024 * x.no) x.cls) u.i (pl (z.s.store (1024 * x.no) x.cls) u.i)).1 = y.cls
      by_cases e : u.i = t.i
      · rw [e, f1, f3]
        have hy : z.hs[u.i]? = some y := hy
        rw [e, hx] at hy
        cases hy
        rfl
      · obtain ⟨g1, g2⟩ := fo u.i e
        rw [g1, g2]
        rcases hold u hu with rfl | h
        · exact absurd rfl e
        · exact L.t1 u h y hy hk1
    · show (fr (z.s.store (1024 * x.no) x.cls) u.i (pl (z.s.store (1024 * x.no) x.cls) u.i)).2.testBit u.j = _
      rcases hold u hu with rfl | h
      · exact absurd (show (1 : Nat) = 2 from hk2) (by decide)
      · by_cases e : u.i = t.i
        · rw [e, f1, f3, ← e]; exact L.t2 u h hk2
        · obtain ⟨g1, g2⟩ := fo u.i e
          rw [g1, g2]; exact L.t2 u h hk2
    · show (fr (z.s.store (1024 * x.no) x.cls) u.i m).2.testBit u.j = _
      have h1 : z.s.mm (16 * (u.i + 1)) u.cl ≤ m := h1
      have h2 : m ≤ pl (z.s.store (1024 * x.no) x.cls) u.i := h2
      rcases hold u hu with rfl | h
      · exact absurd (show (1 : Nat) = 3 from hk3) (by decide)
      · by_cases e : u.i = t.i
        · rw [e, f1] at h2
          rw [e]
          by_cases e2 : m ≤ pl z.s t.i
          · rw [f2 m e2, ← e]; exact L.t3 u h hk3 m h1 (by rw [e]; exact e2)
          · rw [show m = pl z.s t.i + 1 from by omega, f3, ← e]
            exact L.t3 u h hk3 _ (sok.mks _ _) (Nat.le_refl _)
        · obtain ⟨g1, g2⟩ := fo u.i e
          rw [g1] at h2
          rw [g2]; exact L.t3 u h hk3 m h1 h2
  | t1 q t x ht hk hx =>
    have htm := List.mem_of_getElem? ht
    obtain ⟨x', hx', hv, _, h34, _, _⟩ := I.tn t htm
    rw [hx] at hx'
    cases hx'
    have hno := (ok t.i x hx).1
    have hi := (List.getElem?_eq_some_iff.1 hx).1
    have hjl := (List.getElem?_eq_some_iff.1 hv).1
    have hj64 : t.j < 64 := by have := (ok t.i x hx).2; have := blN_le x.cls; omega
    have hbb := bits_mem I.bits hx
    have hbit := bitV_bit (v := t.v) hbb hj64
    have hb0 := L.b t.i x hx
    have hcl := L.t1 t htm x hx (by omega)
    obtain ⟨W, hW⟩ : ∃ W, W = bitV t.v x.bits t.j := ⟨_, rfl⟩
    rw [← hW] at hbit ⊢
    obtain ⟨f1, f2, f3⟩ := fr_store hp hl (v := W) (e := 1) (i := t.i) (by decide) (by omega)
    rw [Nat.mul_one, ← hno] at f1 f2 f3
    have fo := fun i' (h : i' ≠ t.i) => by
      have := fr_other (s := z.s) (i := t.i) (i' := i') (e := 1) (v := W) (by decide) h
      rw [Nat.mul_one, ← hno] at this
      exact this
    have hone : ¬ ((1 : Nat) = 0) := by decide
    simp only [if_neg hone] at f3
    have hold : ∀ u ∈ z.T.set q { t with k := 2 }, (u = { t with k := 2 }) ∨ (u ∈ z.T ∧ u.a ≠ t.a) := fun u hu => set_mem I.two ht hu
    have hfull : okF x ((fr z.s t.i (pl z.s t.i)).1, W) := by
      have h := L.f t.i x hx _ (Nat.le_refl _)
      refine ⟨.inl hcl, fun k hk2 => ?_, fun k hk2 => ?_⟩
      · have hk2 : W.testBit k = true := hk2
        rw [hbit] at hk2
        by_cases e : t.j = k
        · subst e; exact ⟨t.v, hv, by omega⟩
        · rw [if_neg e, hb0] at hk2; exact h.2.1 k hk2
      · show W.testBit k = true
        rw [hbit]
        by_cases e : t.j = k
        · subst e; rw [hv] at hk2; have := Option.some.inj hk2; exfalso; omega
        · rw [if_neg e, hb0]; exact h.2.2 k hk2
    have bits : ∀ (u : Tu), u ∈ z.T → u.a ≠ t.a → u.i = t.i → W.testBit u.j = (fr z.s t.i (pl z.s t.i)).2.testBit u.j := fun u hu hua e => by
      rw [hbit, if_neg (fun h => ne_ij (I.tn u hu) (I.tn t htm) hua e h.symm), hb0]
    refine ⟨fun k y hy m hm => ?_, fun k y hy => ?_, fun u hu y hy hk1 => ?_, fun u hu hk2 => ?_, fun u hu hk3 m h1 h2 => ?_⟩
    · have hm : m ≤ pl (z.s.store (1024 * x.no + 8) W) k := hm
      show okF y (fr (z.s.store (1024 * x.no + 8) W) k m)
      rcases set_cases hi hy with ⟨rfl, rfl⟩ | ⟨e, hy⟩
      · rw [f1] at hm
        by_cases e2 : m ≤ pl z.s t.i
        · rw [f2 m e2]; exact L.f t.i x hx m e2
        · rw [show m = pl z.s t.i + 1 from by omega, f3]; exact hfull
      · obtain ⟨g1, g2⟩ := fo k e
        rw [g1] at hm
        rw [g2]
        exact L.f k y hy m hm
    · show y.bits = (fr (z.s.store (1024 * x.no + 8) W) k (pl (z.s.store (1024 * x.no + 8) W) k)).2
      rcases set_cases hi hy with ⟨rfl, rfl⟩ | ⟨e, hy⟩
      · rw [f1, f3]
      · obtain ⟨g1, g2⟩ := fo k e
        rw [g1, g2]; exact L.b k y hy
    · show (fr (z.s.store (1024 * x.no + 8) W) u.i (pl (z.s.store (1024 * x.no + 8) W) u.i)).1 = y.cls
      rcases set_cases hi hy with ⟨e, rfl⟩ | ⟨e, hy⟩
      · rw [e, f1, f3]; exact hcl
      · obtain ⟨g1, g2⟩ := fo u.i e
        rw [g1, g2]
        rcases hold u hu with rfl | ⟨h, _⟩
        · exact absurd rfl e
        · exact L.t1 u h y hy hk1
    · show (fr (z.s.store (1024 * x.no + 8) W) u.i (pl (z.s.store (1024 * x.no + 8) W) u.i)).2.testBit u.j = _
      rcases hold u hu with rfl | ⟨h, hua⟩
      · show (fr (z.s.store (1024 * x.no + 8) W) t.i (pl (z.s.store (1024 * x.no + 8) W) t.i)).2.testBit t.j = decide (t.v = 4)
        rw [f1, f3]
        show W.testBit t.j = _
        rw [hbit, if_pos rfl]
      · by_cases e : u.i = t.i
        · rw [e, f1, f3]
          show W.testBit u.j = _
          rw [bits u h hua e, ← e]; exact L.t2 u h hk2
        · obtain ⟨g1, g2⟩ := fo u.i e
          rw [g1, g2]; exact L.t2 u h hk2
    · show (fr (z.s.store (1024 * x.no + 8) W) u.i m).2.testBit u.j = _
      have h1 : z.s.mm (16 * (u.i + 1)) u.cl ≤ m := h1
      have h2 : m ≤ pl (z.s.store (1024 * x.no + 8) W) u.i := h2
      rcases hold u hu with rfl | ⟨h, hua⟩
      · exact absurd (show (2 : Nat) = 3 from hk3) (by decide)
      · by_cases e : u.i = t.i
        · rw [e, f1] at h2
          rw [e]
          by_cases e2 : m ≤ pl z.s t.i
          · rw [f2 m e2, ← e]; exact L.t3 u h hk3 m h1 (by rw [e]; exact e2)
          · rw [show m = pl z.s t.i + 1 from by omega, f3]
            show W.testBit u.j = _
            rw [bits u h hua e, ← e]
            exact L.t3 u h hk3 _ (sok.mks _ _) (Nat.le_refl _)
        · obtain ⟨g1, g2⟩ := fo u.i e
          rw [g1] at h2
          rw [g2]; exact L.t3 u h hk3 m h1 h2
  | t2 q t x ht hk hx =>
    have htm := List.mem_of_getElem? ht
    have hno := (ok t.i x hx).1
    have ha : 1024 * x.no / 64 = 16 * (t.i + 1) := by rw [hno]; omega
    have hmm : ∀ l c, (z.s.flush t.cl (1024 * x.no)).mm l c = if (z.s.pend.getD (16 * (t.i + 1)) []).length = 0 then z.s.mm l c else if l = 16 * (t.i + 1) then (if c = t.cl then (z.s.pend.getD (16 * (t.i + 1)) []).length else z.s.mm l c) else z.s.mm l c := fun l c => by
      show (if (z.s.pend.getD (1024 * x.no / 64) []).length = 0 then z.s.mm else upd z.s.mm (1024 * x.no / 64) fun k => if k = t.cl then (z.s.pend.getD (1024 * x.no / 64) []).length else z.s.mm (1024 * x.no / 64) k) l c = _
      rw [ha]
      by_cases e : (z.s.pend.getD (16 * (t.i + 1)) []).length = 0
      · rw [if_pos e, if_pos e]
      · rw [if_neg e, if_neg e]
        unfold upd
        by_cases e2 : l = 16 * (t.i + 1)
        · subst e2; simp
        · simp [e2]
    refine ⟨L.f, L.b, fun u hu y hy hk1 => ?_, fun u hu hk2 => ?_, fun u hu hk3 m h1 h2 => ?_⟩
    · rcases set_mem I.two ht hu with rfl | ⟨h, _⟩
      · exact L.t1 t htm y hy (by omega)
      · exact L.t1 u h y hy hk1
    · rcases set_mem I.two ht hu with rfl | ⟨h, _⟩
      · exact absurd (show (3 : Nat) = 2 from hk2) (by decide)
      · exact L.t2 u h hk2
    · have h1 : (z.s.flush t.cl (1024 * x.no)).mm (16 * (u.i + 1)) u.cl ≤ m := h1
      have h2 : m ≤ pl z.s u.i := h2
      show (fr z.s u.i m).2.testBit u.j = _
      rw [hmm] at h1
      rcases set_mem I.two ht hu with rfl | ⟨h, _⟩
      · show (fr z.s t.i m).2.testBit t.j = decide (t.v = 4)
        have h2 : m ≤ pl z.s t.i := h2
        have hm : m = pl z.s t.i := by
          by_cases e : (z.s.pend.getD (16 * (t.i + 1)) []).length = 0
          · unfold pl at h2 ⊢; omega
          · rw [if_neg e, if_pos rfl, if_pos rfl] at h1
            unfold pl at h2 ⊢; omega
        rw [hm]
        exact L.t2 t htm hk
      · refine L.t3 u h hk3 m ?_ h2
        by_cases e : (z.s.pend.getD (16 * (t.i + 1)) []).length = 0
        · rw [if_pos e] at h1; exact h1
        · rw [if_neg e] at h1
          by_cases e2 : 16 * (u.i + 1) = 16 * (t.i + 1)
          · rw [if_pos e2] at h1
            by_cases e3 : u.cl = t.cl
            · rw [if_pos e3] at h1
              have := sok.mks (16 * (u.i + 1)) u.cl
              rw [e2] at this ⊢
              omega
            · rw [if_neg e3] at h1; exact h1
          · rw [if_neg e2] at h1; exact h1
  | t3 q t x ht hk hx =>
    have htm := List.mem_of_getElem? ht
    obtain ⟨x', hx', hv, _, h34, _, _⟩ := I.tn t htm
    rw [hx] at hx'
    cases hx'
    have hi := (List.getElem?_eq_some_iff.1 hx).1
    have hsh := fun i (h : i < z.hs.length) => sh_fence (i := i) (c := t.cl) sok hp hl (by omega)
    have L1 := L.shift I.tn (fun i h => ⟨_, hsh i h⟩)
    have hall : ∀ m, m ≤ pl (z.s.fence t.cl) t.i → (fr (z.s.fence t.cl) t.i m).2.testBit t.j = decide (t.v = 4) := fun m hm => by
      have h := hsh t.i hi
      rw [h.len] at hm
      rw [h.fr]
      exact L.t3 t htm hk _ (Nat.le_add_right _ _) (by have := h.le; omega)
    refine L1.set_bl hx (List.getElem?_eq_some_iff.1 hv).1 (fun h2 m hm => ?_) (fun h2 m hm => ?_) (fun u hu => .inl (erase_mem I.two ht hu).1)
    · rw [hall m hm]
      unfold settled at h2
      by_cases e : t.v = 4
      · simp [e]
      · rw [if_neg e] at h2; omega
    · rw [hall m hm]
      unfold settled at h2
      by_cases e : t.v = 4
      · rw [if_pos e] at h2; omega
      · simp [e]
  | ev i m hi hm2 => exact L.shift I.tn (fun k hk => sh_last sok (by omega) hm2)
end Go.Proofs.YtahojhaeebmpoaaGreatDoor
/- The law's game, an act: Reserve. -/
namespace Go.Proofs.YtahojhaeebmpoaaGreatDoor
open Go Go.RowKit Go.Sort
set_option linter.unusedVariables false
end Go.Proofs.YtahojhaeebmpoaaGreatDoor
/- The law's game, an act: one of no kind. -/
namespace Go.Proofs.YtahojhaeebmpoaaGreatDoor
open Go Go.RowKit Go.Sort
set_option linter.unusedVariables false
end Go.Proofs.YtahojhaeebmpoaaGreatDoor
/- The law's game, any act. -/
namespace Go.Proofs.YtahojhaeebmpoaaGreatDoor
open Go Go.RowKit Go.Sort
set_option linter.unusedVariables false
theorem Do6P.any {w0 : World} {P0 : Nat → Prop} {B size gg mg gs gw : Nat} {z : S6} {R : S6 → Prop} {e : Ending} {w' : World} (h : Do6P w0 P0 B size gg mg gs gw z R e w') : Do6P w0 P0 B size gg mg gs gw z (fun _ => True) e w' := by
  obtain ⟨he, z', h1, _, h2⟩ := h
  exact ⟨he, z', h1, trivial, h2⟩
end Go.Proofs.YtahojhaeebmpoaaGreatDoor
