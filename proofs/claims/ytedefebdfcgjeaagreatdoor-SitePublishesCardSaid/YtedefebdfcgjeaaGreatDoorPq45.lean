/- Texts of this claim, packed: SiP1, SiP2, SiQ. -/
import Derived.Test.YtedefebdfcgjeaaGreatDoorPq40
import Derived.Test.YtedefebdfcgjeaaGreatDoorPq44
import Derived.Test.YtedefebdfcgjeaaGreatDoorPq35
import Derived.Test.YtedefebdfcgjeaaGreatDoorPq30
import Derived.Test.YtedefebdfcgjeaaGreatDoorPq41
import Derived.Test.YtedefebdfcgjeaaGreatDoorPq36
/- What blocks and memory come to when blocks are published one behind the other: plain facts. -/
namespace Go.Proofs.YtedefebdfcgjeaaGreatDoor
open Go.RowKit Go.Sort
set_option linter.unusedVariables false
/-- Nothing is pending: all that is seen has lasted. -/
structure Quiet (s : St) : Prop where
  lv : s.lasted = s.view
  pe : ∀ l ∈ s.pend, l = []
  pl : s.pend.length = s.nl
  vl : s.view.length = 8 * s.nl
theorem Quiet.at_ {s : St} (q : Quiet s) (j : Nat) : s.pend.getD j [] = [] := by
  rw [List.getD_eq_getElem?_getD]
  cases h : s.pend[j]? with
  | none => rfl
  | some l => exact q.pe l (List.mem_of_getElem? h)
theorem quiet_zero (nl : Nat) : Quiet (St.zero nl) :=
  ⟨rfl, fun l h => List.eq_of_mem_replicate h, by simp [St.zero], by simp [St.zero]⟩
theorem pub_quiet {s : St} (q : Quiet s) {no cls b cl : Nat} (h : 16 * no < s.nl) :
    Quiet (tnS s no cls b cl 4) ∧ (tnS s no cls b cl 4).view = (s.view.set (128 * no) cls).set (128 * no + 1) b ∧ (tnS s no cls b cl 4).nl = s.nl := by
  have a1 : 1024 * no / 64 = 16 * no := by omega
  have a2 : (1024 * no + 8) / 64 = 16 * no := by omega
  have a3 : 1024 * no / 8 = 128 * no := by omega
  have a4 : (1024 * no + 8) / 8 = 128 * no + 1 := by omega
  have hpl := q.pl
  have p1 : (s.store (1024 * no) cls).pend = s.pend.set (16 * no) [(1024 * no, cls)] := by
    show s.pend.set (1024 * no / 64) (s.pend.getD (1024 * no / 64) [] ++ [(1024 * no, cls)]) = _
    rw [q.at_, a1]; rfl
  have p2 : ((s.store (1024 * no) cls).store (1024 * no + 8) b).pend = s.pend.set (16 * no) [(1024 * no, cls), (1024 * no + 8, b)] := by
    show (s.store (1024 * no) cls).pend.set ((1024 * no + 8) / 64) ((s.store (1024 * no) cls).pend.getD ((1024 * no + 8) / 64) [] ++ [(1024 * no + 8, b)]) = _
    rw [p1, a2, List.set_set, List.getD_eq_getElem?_getD, List.getElem?_set_self (by omega)]
    rfl
  have v2 : ((s.store (1024 * no) cls).store (1024 * no + 8) b).view = (s.view.set (128 * no) cls).set (128 * no + 1) b := by
    show (s.view.set (1024 * no / 8) cls).set ((1024 * no + 8) / 8) b = _
    rw [a3, a4]
  obtain ⟨s2, hs2⟩ : ∃ s2, s2 = (s.store (1024 * no) cls).store (1024 * no + 8) b := ⟨_, rfl⟩
  have l2 : s2.lasted = s.view := by rw [hs2]; exact q.lv
  have n2 : s2.nl = s.nl := by rw [hs2]; rfl
  have e4 : tnS s no cls b cl 4 = (s2.flush cl (1024 * no)).fence cl := by rw [hs2]; rfl
  rw [← hs2] at p2 v2
  have pg : ∀ j, s2.pend.getD j [] = if j = 16 * no then [(1024 * no, cls), (1024 * no + 8, b)] else [] := fun j => by
    rw [p2, set_getD (by omega)]
    split
    · rfl
    · exact q.at_ j
  have m3 : ∀ j, (s2.flush cl (1024 * no)).mm j cl = if j = 16 * no then 2 else s2.mm j cl := fun j => by
    show (if (s2.pend.getD (1024 * no / 64) []).length = 0 then s2.mm else upd s2.mm (1024 * no / 64) fun k => if k = cl then (s2.pend.getD (1024 * no / 64) []).length else s2.mm (1024 * no / 64) k) j cl = _
    rw [a1, pg, if_pos rfl, if_neg (by simp)]
    unfold upd
    split
    · simp
    · rfl
  have hlast : (tnS s no cls b cl 4).lasted = (s.view.set (128 * no) cls).set (128 * no + 1) b := by
    rw [e4]
    show s2.lasted.mapIdx (fun k x => if true = true then (lastW s2.lasted ((s2.pend.getD (k / 8) []).take ((s2.flush cl (1024 * no)).mm (k / 8) cl))).getD k 0 else x) = _
    rw [l2]
    apply List.ext_getElem?
    intro k
    rw [List.getElem?_mapIdx]
    by_cases hk : k < s.view.length
    · rw [List.getElem?_eq_getElem hk]
      simp only [Option.map_some, if_true]
      rw [pg, m3]
      by_cases hkl : k / 8 = 16 * no
      · rw [if_pos hkl, if_pos hkl]
        show some ((((s.view.set (1024 * no / 8) cls).set ((1024 * no + 8) / 8) b)).getD k 0) = _
        rw [a3, a4, List.getD_eq_getElem?_getD]
        rw [List.getElem?_eq_getElem (by simp; omega)]
        rfl
      · rw [if_neg hkl, if_neg hkl]
        rw [show (([] : List (Nat × Nat)).take (s2.mm (k / 8) cl)) = [] by simp]
        show some (s.view.getD k 0) = _
        rw [List.getElem?_set_ne (by omega), List.getElem?_set_ne (by omega), List.getD_eq_getElem?_getD, List.getElem?_eq_getElem hk]
        rfl
    · rw [List.getElem?_eq_none (by omega), List.getElem?_eq_none (by simp; omega)]
      rfl
  have hview : (tnS s no cls b cl 4).view = (s.view.set (128 * no) cls).set (128 * no + 1) b := by rw [e4]; exact v2
  have hpend : (tnS s no cls b cl 4).pend = s2.pend.mapIdx fun j l => if true = true then l.drop ((s2.flush cl (1024 * no)).mm j cl) else l := by rw [e4]; rfl
  have hnl : (tnS s no cls b cl 4).nl = s.nl := by rw [e4]; exact n2
  refine ⟨⟨hlast.trans hview.symm, fun l hl => ?_, ?_, ?_⟩, hview, hnl⟩
  · rw [hpend, List.mem_mapIdx] at hl
    obtain ⟨j, hj, rfl⟩ := hl
    have hg : s2.pend[j] = s2.pend.getD j [] := by rw [List.getD_eq_getElem?_getD, List.getElem?_eq_getElem hj]; rfl
    simp only [if_true]
    rw [hg, pg, m3]
    split
    · rfl
    · simp
  · rw [hpend, List.length_mapIdx, p2, List.length_set, hnl, hpl]
  · rw [hview, List.length_set, List.length_set, hnl, q.vl]
/-- A word's bytes are the word. -/
theorem ofB_wbytes {n : Nat} (h : n < 18446744073709551616) : ofB (wbytes n) = n := by
  have e : wbytes n = [wbyt n 0, wbyt n 1, wbyt n 2, wbyt n 3, wbyt n 4, wbyt n 5, wbyt n 6, wbyt n 7] := rfl
  rw [e]
  simp only [ofB, wbyt, Nat.pow_zero, Nat.div_one, Nat.reducePow]
  omega
theorem bytesL_word : ∀ (ws : List Nat) (i : Nat) (hi : i < ws.length), ((bytesL ws).drop (8 * i)).take 8 = wbytes ws[i]
  | a :: t, 0, _ => by
    show (wbytes a ++ bytesL t).take 8 = wbytes a
    rw [List.take_append_of_le_length (by rw [wbytes_length]; exact Nat.le_refl _), List.take_of_length_le (by rw [wbytes_length]; exact Nat.le_refl _)]
  | a :: t, i + 1, hi => by
    show ((wbytes a ++ bytesL t).drop (8 * (i + 1))).take 8 = _
    rw [show 8 * (i + 1) = (wbytes a).length + 8 * i by rw [wbytes_length]; omega, List.drop_append, List.drop_of_length_le (by omega), List.nil_append, Nat.add_sub_cancel_left]
    exact bytesL_word t i (by simpa using hi)
theorem pw_words {ws : List Nat} (hb : ∀ x ∈ ws, x < 18446744073709551616) {i : Nat} (hi : i < ws.length) : pw (bytesL ws) (bytesL ws).length i = ws.getD i 0 := by
  unfold pw
  rw [List.take_length, bytesL_word ws i hi, ofB_wbytes (hb _ (List.getElem_mem hi)), List.getD_eq_getElem?_getD, List.getElem?_eq_getElem hi]
  rfl
/-- How many blocks are published. -/
def cU (hs : List Hd) : Nat := (hs.map fun x => x.bl.count 2).sum
theorem count_set2 : ∀ (l : List Nat) (j v : Nat), l[j]? = some v → v ≠ 2 → (l.set j 2).count 2 = l.count 2 + 1
  | [], j, v, h, _ => by simp at h
  | a :: t, 0, v, h, hv => by
    simp only [List.getElem?_cons_zero, Option.some.injEq] at h
    subst h
    rw [List.set_cons_zero, List.count_cons_self, List.count_cons_of_ne hv]
  | a :: t, j + 1, v, h, hv => by
    rw [List.set_cons_succ, List.count_cons, List.count_cons, count_set2 t j v (by simpa using h) hv]
    omega
theorem cU_set : ∀ (hs : List Hd) (i : Nat) (x z : Hd), hs[i]? = some x → z.bl.count 2 = x.bl.count 2 + 1 → cU (hs.set i z) = cU hs + 1
  | [], i, x, z, h, _ => by simp at h
  | a :: t, 0, x, z, h, hc => by
    simp only [List.getElem?_cons_zero, Option.some.injEq] at h
    subst h
    show z.bl.count 2 + (t.map fun x => x.bl.count 2).sum = a.bl.count 2 + (t.map fun x => x.bl.count 2).sum + 1
    omega
  | a :: t, i + 1, x, z, h, hc => by
    have := cU_set t i x z (by simpa using h) hc
    show a.bl.count 2 + cU (t.set i z) = a.bl.count 2 + cU t + 1
    omega
theorem cU_same : ∀ (hs : List Hd) (i : Nat) (x z : Hd), hs[i]? = some x → z.bl.count 2 = x.bl.count 2 → cU (hs.set i z) = cU hs
  | [], i, x, z, h, _ => by simp at h
  | a :: t, 0, x, z, h, hc => by
    simp only [List.getElem?_cons_zero, Option.some.injEq] at h
    subst h
    show z.bl.count 2 + (t.map fun x => x.bl.count 2).sum = a.bl.count 2 + (t.map fun x => x.bl.count 2).sum
    omega
  | a :: t, i + 1, x, z, h, hc => by
    have := cU_same t i x z (by simpa using h) hc
    show a.bl.count 2 + cU (t.set i z) = a.bl.count 2 + cU t
    omega
/-- A header whose blocks are just what its bits say. -/
def Clean (x : Hd) : Prop := x.bl = blK (blN x.cls) x.bits (blN x.cls) ∧ okHead x.cls x.bits = true ∧ x.bits < 18446744073709551616
theorem blK_at {n b j : Nat} (h : j < n) : (blK n b n)[j]? = some (if b.testBit j = true then 2 else 0) := by
  unfold blK
  rw [List.getElem?_map, List.getElem?_range h]
  simp [h]
theorem setB_or {b j : Nat} (hb : b < 18446744073709551616) (hj : j < 15) : setB b (j : Int) = b ||| 2 ^ j := by
  rw [← or_mk hb, mk_in (by omega)]
  rfl
theorem setB_bit {b j : Nat} (hb : b < 18446744073709551616) (hj : j < 15) (k : Nat) : (setB b (j : Int)).testBit k = (b.testBit k || decide (j = k)) := by
  rw [setB_or hb hj, Nat.testBit_or, Nat.testBit_two_pow]
theorem blK_pub {n b j : Nat} (hb : b < 18446744073709551616) (hj : j < n) (hn : n ≤ 15) : (blK n b n).set j 2 = blK n (setB b (j : Int)) n := by
  apply List.ext_getElem?
  intro k
  rw [List.getElem?_set, blK_len]
  by_cases hk : k < n
  · rw [blK_at hk, blK_at hk, setB_bit hb (by omega)]
    by_cases e : j = k
    · subst e
      rw [if_pos rfl, if_pos hk]
      simp
    · rw [if_neg e]
      simp [e]
  · rw [List.getElem?_eq_none (by rw [blK_len]; omega), List.getElem?_eq_none (by rw [blK_len]; omega), if_neg (by omega)]
theorem may_set {n b j : Nat} (hb : b < 18446744073709551616) (hj : j < n) (hn : n ≤ 15) (h : mayS b (n : Int) = true) : mayS (setB b (j : Int)) (n : Int) = true := by
  unfold mayS at h ⊢
  rw [decide_eq_true_eq] at h ⊢
  intro x hx
  unfold upB at hx
  rw [List.mem_filter, setB_bit hb (by omega)] at hx
  by_cases e : j = x
  · omega
  · refine h x ?_
    unfold upB
    rw [List.mem_filter]
    refine ⟨hx.1, ?_⟩
    have := hx.2
    simpa [e] using this
theorem clean_new {no c : Nat} (h1 : 1 ≤ c) (h3 : c ≤ 3) : Clean ⟨no, c, 0, blK (blN c) 0 (blN c)⟩ := by
  refine ⟨rfl, ?_, by show (0 : Nat) < _; omega⟩
  show okHead c 0 = true
  rcases (by omega : c = 1 ∨ c = 2 ∨ c = 3) with rfl | rfl | rfl <;> decide +kernel
theorem clean_pub {x : Hd} (h : Clean x) {j : Nat} (hj : j < blN x.cls) : Clean { x with bits := setB x.bits (j : Int), bl := x.bl.set j 2 } := by
  obtain ⟨h1, h2, h3⟩ := h
  have hn := blN_le x.cls
  refine ⟨?_, ?_, setB_lt h3 _⟩
  · show x.bl.set j 2 = blK (blN x.cls) (setB x.bits (j : Int)) (blN x.cls)
    rw [h1, blK_pub h3 hj hn]
  · show okHead x.cls (setB x.bits (j : Int)) = true
    unfold okHead at h2 ⊢
    rw [Bool.and_eq_true] at h2 ⊢
    exact ⟨h2.1, may_set h3 hj hn h2.2⟩
theorem clean_zero (k : Nat) : Clean ⟨k, 0, 0, []⟩ := ⟨rfl, by show okHead 0 0 = true; decide +kernel, by show (0 : Nat) < _; omega⟩
/-- What holds of slabs and memory when so many blocks have been published. -/
structure PubI (hs : List Hd) (s : St) (got : List Nat) : Prop where
  q : Quiet s
  cl : ∀ (i : Nat) (x : Hd), hs[i]? = some x → Clean x
  wd : ∀ (i : Nat) (x : Hd), hs[i]? = some x → s.view.getD (128 * (i + 1)) 0 = x.cls ∧ s.view.getD (128 * (i + 1) + 1) 0 = x.bits
  at_ : ∀ a ∈ got, ∃ (i j : Nat) (x : Hd), hs[i]? = some x ∧ x.bl[j]? = some 2 ∧ adr x.no x.cls j = a
  cnt : cU hs = got.length
theorem sum_zero : ∀ (l : List Nat), (∀ n ∈ l, n = 0) → l.sum = 0
  | [], _ => rfl
  | a :: t, h => by
    rw [List.sum_cons, h a List.mem_cons_self, sum_zero t fun n hn => h n (List.mem_cons_of_mem _ hn)]
theorem cU_new0 {hs : List Hd} (h : New0 hs) : cU hs = 0 := by
  have : ∀ x ∈ hs, x.bl.count 2 = 0 := fun x hx => by
    obtain ⟨i, hi, rfl⟩ := List.getElem_of_mem hx
    rw [h i _ (List.getElem?_eq_getElem hi)]
    rfl
  unfold cU
  refine sum_zero _ fun n hn => ?_
  rw [List.mem_map] at hn
  obtain ⟨x, hx, rfl⟩ := hn
  exact this x hx
theorem pubI_new {hs : List Hd} (h : New0 hs) {nl : Nat} : PubI hs (St.zero nl) [] := by
  refine ⟨quiet_zero nl, fun i x hx => by rw [h i x hx]; exact clean_zero _, fun i x hx => ?_, fun a ha => absurd ha (by simp), cU_new0 h⟩
  rw [h i x hx]
  have : ∀ k, (St.zero nl).view.getD k 0 = 0 := fun k => by
    show (List.replicate (8 * nl) 0).getD k 0 = 0
    rw [List.getD_eq_getElem?_getD, List.getElem?_replicate]
    split <;> rfl
  exact ⟨this _, this _⟩
end Go.Proofs.YtedefebdfcgjeaaGreatDoor
/- A block is reserved and published: what was so stays so; plain facts. -/
namespace Go.Proofs.YtedefebdfcgjeaaGreatDoor
open Go.RowKit Go.Sort
set_option linter.unusedVariables false
theorem adr_in {c j no : Nat} (hj : j < blN c) : 1024 * no + 64 ≤ adr no c j ∧ adr no c j < 1024 * no + 1024 := by
  have h1 := (show 1024 * no + 64 ≤ adr no c j by unfold adr; omega)
  refine ⟨h1, ?_⟩
  unfold adr
  unfold blN at hj
  by_cases e1 : c = 1
  · subst e1; simp at hj; omega
  · by_cases e2 : c = 2
    · subst e2; simp at hj; omega
    · by_cases e3 : c = 3
      · subst e3; simp at hj; omega
      · simp [e1, e2, e3] at hj
theorem blK_nought_count (n m : Nat) : (blK n 0 m).count 2 = 0 := by
  rw [List.count_eq_zero]
  intro h
  unfold blK at h
  rw [List.mem_map] at h
  obtain ⟨j, _, hj⟩ := h
  simp at hj
section
variable {hs hs1 : List Hd} {s : St} {got : List Nat} {c i j : Nat} {x : Hd}
/-- What Reserve makes of the slabs ahead of taking: all but the one that it takes of stay, and that one has what it had, or is new. -/
theorem claimed_at (I : PubI hs s got) (h3 : c ≤ 3) (h1c : 1 ≤ c) (hcl : Claimed hs hs1 c) (hx : hs1[i]? = some x) (hc : x.cls = c) (hb : x.bl[j]? = some 0) :
    hs1.length = hs.length ∧ (∀ k, k ≠ i → hs1[k]? = hs[k]?) ∧ Clean x ∧ cU hs1 = cU hs ∧ ∀ (z : Hd) (k : Nat), hs[i]? = some z → z.bl[k]? = some 2 → z = x := by
  rcases hcl with ⟨_, rfl⟩ | ⟨hno, ⟨i0, x0, hf, hx0, rfl⟩ | ⟨_, rfl⟩⟩
  · exact ⟨rfl, fun _ _ => rfl, I.cl i x hx, rfl, fun z k hz _ => Option.some.inj (hz.symm.trans hx)⟩
  · have hi0 := (List.getElem?_eq_some_iff.1 hx0).1
    have e0 : i = i0 := by
      by_cases e : i = i0
      · exact e
      · rw [List.getElem?_set_ne (fun h => e h.symm)] at hx
        exact absurd ⟨i, j, x, hx, hc, hb, rfl⟩ (hno (adr x.no c j))
    subst e0
    rw [List.getElem?_set_self hi0] at hx
    have hx' := Option.some.inj hx
    have hz0 : x0.cls = 0 := by
      obtain ⟨z, hz, hzc⟩ := hf.1
      rw [hx0] at hz
      cases hz
      exact hzc
    have hcx := (I.cl i x0 hx0).1
    rw [hz0] at hcx
    have hbl0 : x0.bl = [] := by rw [hcx]; rfl
    refine ⟨by simp, fun k hk => List.getElem?_set_ne (fun h => hk h.symm), ?_, ?_, fun z k hz hzk => ?_⟩
    · rw [← hx']
      exact clean_new h1c h3
    · refine cU_same hs i x0 _ hx0 ?_
      rw [hbl0, blK_nought_count]
      rfl
    · rw [hx0] at hz
      cases hz
      rw [hbl0] at hzk
      simp at hzk
  · exact ⟨rfl, fun _ _ => rfl, I.cl i x hx, rfl, fun z k hz _ => Option.some.inj (hz.symm.trans hx)⟩
/-- The slab behind the block's turn. -/
def pubX (x : Hd) (j : Nat) : Hd := { x with bits := setB x.bits (j : Int), bl := x.bl.set j 2 }
theorem pub_step (I : PubI hs s got) (h3 : c ≤ 3) (h1c : 1 ≤ c) (hcl : Claimed hs hs1 c) (hx : hs1[i]? = some x) (hc : x.cls = c) (hb : x.bl[j]? = some 0) (hno : x.no = i + 1) (hsz : 16 * x.no < s.nl) (cl : Nat) :
    PubI (hs1.set i (pubX x j)) (tnS s x.no x.cls (setB x.bits (j : Int)) cl 4) (got ++ [adr x.no x.cls j]) := by
  obtain ⟨hlen, hoth, hclean, hcu, hold⟩ := claimed_at I h3 h1c hcl hx hc hb
  obtain ⟨q2, hv2, hn2⟩ := pub_quiet (cls := x.cls) (b := setB x.bits (j : Int)) (cl := cl) I.q hsz
  have hil := (List.getElem?_eq_some_iff.1 hx).1
  have hjl : j < blN x.cls := by
    have := (List.getElem?_eq_some_iff.1 hb).1
    rwa [hclean.1, blK_len] at this
  have hvl := I.q.vl
  have hset : ∀ (k : Nat) (z : Hd), (hs1.set i (pubX x j))[k]? = some z → (k = i ∧ z = pubX x j) ∨ (k ≠ i ∧ hs[k]? = some z) := fun k z hz => by
    by_cases e : k = i
    · subst e
      rw [List.getElem?_set_self hil] at hz
      exact .inl ⟨rfl, (Option.some.inj hz).symm⟩
    · rw [List.getElem?_set_ne (fun h => e h.symm), hoth k e] at hz
      exact .inr ⟨e, hz⟩
  refine ⟨q2, fun k z hz => ?_, fun k z hz => ?_, fun a ha => ?_, ?_⟩
  · rcases hset k z hz with ⟨_, rfl⟩ | ⟨_, h⟩
    · exact clean_pub hclean hjl
    · exact I.cl k z h
  · rw [hv2]
    rcases hset k z hz with ⟨rfl, rfl⟩ | ⟨hne, h⟩
    · rw [hno]
      constructor
      · rw [List.getD_eq_getElem?_getD, List.getElem?_set_ne (by omega), List.getElem?_set_self (by omega)]
        rfl
      · rw [List.getD_eq_getElem?_getD, List.getElem?_set_self (by rw [List.length_set]; omega)]
        rfl
    · have := I.wd k z h
      rw [hno]
      rw [List.getD_eq_getElem?_getD] at this ⊢
      rw [List.getD_eq_getElem?_getD] at this ⊢
      rw [List.getElem?_set_ne (by omega), List.getElem?_set_ne (by omega), List.getElem?_set_ne (by omega), List.getElem?_set_ne (by omega)]
      exact this
  · rw [List.mem_append, List.mem_singleton] at ha
    rcases ha with ha | rfl
    · obtain ⟨i', j', x', h1, h2, h4⟩ := I.at_ a ha
      by_cases e : i' = i
      · subst e
        have hxx := hold x' j' h1 h2
        subst hxx
        refine ⟨i', j', pubX x' j, List.getElem?_set_self hil, ?_, h4⟩
        show (x'.bl.set j 2)[j']? = some 2
        rw [List.getElem?_set]
        split
        · rename_i e2
          subst e2
          rw [if_pos (List.getElem?_eq_some_iff.1 hb).1]
        · exact h2
      · exact ⟨i', j', x', by rw [List.getElem?_set_ne (fun h => e h.symm), hoth i' e]; exact h1, h2, h4⟩
    · refine ⟨i, j, pubX x j, List.getElem?_set_self hil, ?_, rfl⟩
      show (x.bl.set j 2)[j]? = some 2
      rw [List.getElem?_set_self (List.getElem?_eq_some_iff.1 hb).1]
  · rw [cU_set hs1 i x _ hx (count_set2 x.bl j 0 hb (by decide)), hcu, I.cnt, List.length_append]
    rfl
end
/-- The turn's own words come to that. -/
theorem tnH_pub {hs1 : List Hd} {i j : Nat} {x : Hd} (hi : i < hs1.length) :
    tnH ((hs1.set i { x with bl := x.bl.set j 1 }).set i { ({ x with bl := x.bl.set j 1 } : Hd) with bl := (x.bl.set j 1).set j 4 }) i j 4 (setB x.bits (j : Int)) { ({ x with bl := x.bl.set j 1 } : Hd) with bl := (x.bl.set j 1).set j 4 } 4 = hs1.set i (pubX x j) := by
  show ((((hs1.set i _).set i _).set i _).set i _) = _
  rw [List.set_set, List.set_set, List.set_set]
  congr 1
  unfold pubX
  simp only [Hd.mk.injEq, true_and]
  show ((x.bl.set j 1).set j 4).set j (settled 4) = x.bl.set j 2
  rw [List.set_set, List.set_set]
  rfl
/-- An image of what has lasted is of just those slabs. -/
theorem again_hs {hs : List Hd} {s : St} {got : List Nat} (I : PubI hs s got) (ok : HsOk hs) (hb : ∀ x ∈ s.lasted, x < 18446744073709551616) (hsz : s.nl = 16 * (hs.length + 1)) :
    hsK (hcW (bytesL s.lasted)) (hbW (bytesL s.lasted)) hs.length hs.length = hs ∧ okHeads (bytesL s.lasted) hs.length := by
  have hll : s.lasted.length = 8 * s.nl := by rw [I.q.lv]; exact I.q.vl
  have hw : ∀ q x, hs[q]? = some x → hcW (bytesL s.lasted) q = x.cls ∧ hbW (bytesL s.lasted) q = x.bits := fun q x hx => by
    have hq := (List.getElem?_eq_some_iff.1 hx).1
    have := I.wd q x hx
    rw [← I.q.lv] at this
    unfold hcW hbW
    rw [pw_words hb (by omega), pw_words hb (by omega)]
    exact this
  constructor
  · apply List.ext_getElem?
    intro q
    by_cases hq : q < hs.length
    · have hx := List.getElem?_eq_getElem hq
      obtain ⟨h1, h2⟩ := hw q _ hx
      have hc := I.cl q _ hx
      have ho := ok q _ hx
      unfold hsK
      rw [List.getElem?_map, List.getElem?_range hq, hx]
      simp only [Option.map_some]
      rw [if_pos hq]
      unfold hdOf
      rw [h1, h2, ← hc.1, ← ho.1]
    · rw [List.getElem?_eq_none (by rw [hsK_len]; omega), List.getElem?_eq_none (by omega)]
  · intro q hq
    obtain ⟨h1, h2⟩ := hw q _ (List.getElem?_eq_getElem hq)
    rw [h1, h2]
    exact (I.cl q _ (List.getElem?_eq_getElem hq)).2.1
/-- Who was published is so. -/
theorem is_pub {hs : List Hd} {s : St} {got : List Nat} (I : PubI hs s got) (ok : HsOk hs) (hm : hs.length ≤ 64) {a v : Nat} (ha : a ∈ got) (hv : isAt hs a v) : v = 2 := by
  obtain ⟨i, j, x, hx, hj, had⟩ := I.at_ a ha
  have hf : Found hs a i j := ⟨x, hx, (List.getElem?_eq_some_iff.1 hj).1, had⟩
  rcases hv with ⟨i', j', x', hx', hj', ha', hv'⟩ | ⟨hno, _⟩
  · obtain ⟨rfl, rfl⟩ := found_one ok hm hf ⟨x', hx', hj', ha'⟩
    have : x = x' := Option.some.inj (hx.symm.trans hx')
    subst this
    exact (Option.some.inj (hj.symm.trans hv')).symm
  · exact absurd hf (hno i j)
theorem pub_slab {hs : List Hd} {s : St} {got : List Nat} (I : PubI hs s got) (ok : HsOk hs) (hm : hs.length ≤ 64) {a : Nat} (ha : a ∈ got) : 1024 ≤ a ∧ a < 66560 := by
  obtain ⟨i, j, x, hx, hj, had⟩ := I.at_ a ha
  have h := found_range ok hm ⟨x, hx, (List.getElem?_eq_some_iff.1 hj).1, had⟩
  have hjl := (List.getElem?_eq_some_iff.1 hj).1
  have ho := ok i x hx
  rw [ho.2] at hjl
  have h2 := adr_in (no := x.no) hjl
  have hi := (List.getElem?_eq_some_iff.1 hx).1
  omega
end Go.Proofs.YtedefebdfcgjeaaGreatDoor
/- Blocks published one behind the other by way of a site: what stands, and what each call makes of it. -/
namespace Go.Proofs.YtedefebdfcgjeaaGreatDoor
open Go.RowKit Go.Sort
set_option linter.unusedVariables false
theorem claimed_fail {hs hs1 : List Hd} {c : Nat} (h1 : 1 ≤ c) (h3 : c ≤ 3) (hcl : Claimed hs hs1 c) (hn : ∀ a, ¬ FreeB hs1 c a) : hs1 = hs := by
  rcases hcl with ⟨_, rfl⟩ | ⟨_, ⟨i, x, hf, hx, rfl⟩ | ⟨_, rfl⟩⟩
  · rfl
  · exfalso
    refine hn _ ⟨i, 0, ⟨x.no, c, 0, blK (blN c) 0 (blN c)⟩, List.getElem?_set_self (List.getElem?_eq_some_iff.1 hx).1, rfl, ?_, rfl⟩
    show (blK (blN c) 0 (blN c))[0]? = some 0
    rw [blK_at (by rcases (by omega : c = 1 ∨ c = 2 ∨ c = 3) with rfl | rfl | rfl <;> decide)]
    simp
  · rfl
theorem rowU_cnt (x : Hd) (h : ∀ v ∈ x.bl, v ≠ 3) (j : Nat) (hj : j ≤ x.bl.length) : (rowU x j).length = (x.bl.take j).count 2 := by
  induction j with
  | zero => rfl
  | succ j ih =>
    have ih := ih (by omega)
    have hlt : j < x.bl.length := by omega
    have hv : x.bl[j]? = some x.bl[j] := List.getElem?_eq_getElem hlt
    have h3 := h _ (List.getElem_mem hlt)
    rw [List.take_succ_eq_append_getElem hlt, List.count_append]
    by_cases e : x.bl[j] = 2
    · rw [rowU_yes hv (by rw [e]; rfl), List.length_append, ih, e]
      rfl
    · rw [rowU_no hv (by unfold uN; simp [e, h3]), ih, List.count_cons_of_ne e]
      rfl
theorem usedL_cnt : ∀ (hs : List Hd), (∀ x ∈ hs, ∀ v ∈ x.bl, v ≠ 3) → (usedL hs).length = cU hs
  | [], _ => rfl
  | a :: t, h => by
    have ih := usedL_cnt t fun x hx => h x (List.mem_cons_of_mem _ hx)
    have h1 := rowU_cnt a (h a List.mem_cons_self) a.bl.length (Nat.le_refl _)
    rw [List.take_length] at h1
    show (rowU a a.bl.length ++ usedL t).length = a.bl.count 2 + cU t
    rw [List.length_append, h1, ih]
theorem blK_no3 (n b m : Nat) : ∀ v ∈ blK n b m, v ≠ 3 := by
  intro v hv
  unfold blK at hv
  rw [List.mem_map] at hv
  obtain ⟨j, _, rfl⟩ := hv
  split <;> first | decide | (split <;> decide)
theorem PubI.used {hs : List Hd} {s : St} {got : List Nat} (I : PubI hs s got) : (usedL hs).length = got.length := by
  rw [← I.cnt]
  refine usedL_cnt hs fun x hx v hv => ?_
  obtain ⟨i, hi, rfl⟩ := List.getElem_of_mem hx
  have := (I.cl i _ (List.getElem?_eq_getElem hi)).1
  rw [this] at hv
  exact blK_no3 _ _ _ v hv
theorem nzFrom_nil : ∀ (p : List (List (Nat × Nat))) (i j : Nat), (∀ l ∈ p, l = []) → nzFrom p i j = []
  | [], _, _, _ => rfl
  | a :: t, i, j, h => by
    have := h a List.mem_cons_self
    unfold nzFrom
    rw [if_pos this]
    exact nzFrom_nil t i (j + 1) fun l hl => h l (List.mem_cons_of_mem _ hl)
/-- What stands between two calls. -/
structure PSt (w W : World) (ym : Lay) (s : St) (y : SLay) (hs : List Hd) (fs : Nat → List Nat) (gx gm gs N : Nat) (got : List Nat) (v : Value) : Prop where
  game : Game W ym s y hs fs
  eg : ym.g = gm
  es : y.gs = gs
  site : ∃ t, SiteAt W gx (some ⟨gm, 0, none⟩) (some ⟨gs, 0, none⟩) t
  len : hs.length = N
  ad : Adr W v got
  own : ∀ k, v.ownBlock = some k → w.heap.size ≤ k ∧ ¬ ym.fp k ∧ ¬ y.fp k
  fm : ∀ k, ym.fp k → w.heap.size ≤ k
  fy : ∀ k, y.fp k → w.heap.size ≤ k
  low : Below w.heap.size w W
  rl : 0 < w.heap.size
section
variable {w W W' : World} {ym ym' : Lay} {s s' : St} {y y' : SLay} {hs hs' hs1 : List Hd} {fs fs' : Nat → List Nat} {gx gm gs N gt : Nat} {got : List Nat} {v : Value}
theorem PSt.below (h : PSt w W ym s y hs fs gx gm gs N got v) (hb : Below W.heap.size W W') : PSt w W' ym s y hs fs gx gm gs N got v := by
  obtain ⟨t, hsite⟩ := h.site
  exact ⟨h.game.below hb, h.eg, h.es, ⟨t, Row.below hsite hb hsite.lt⟩, h.len, h.ad.below hb, h.own, h.fm, h.fy, h.low.trans (hb.mono h.low.size), h.rl⟩
theorem PSt.turn (h : PSt w W ym s y hs fs gx gm gs N got v) (G : Game W' ym' s' y' hs' fs') (t : GTurn W W' ym ym' y y' gt) (hg1 : v.ownBlock ≠ some gt) (hg2 : gt ≠ gx) (hg3 : w.heap.size ≤ gt) (hl : hs'.length = hs.length) : PSt w W' ym' s' y' hs' fs' gx gm gs N got v := by
  obtain ⟨tt, hsite⟩ := h.site
  have hlow := h.low.size
  have htag : Tag W gx 95 := Row.tag hsite
  refine ⟨G, t.g.trans h.eg, t.gs.trans h.es, ⟨tt, t.but.row hsite ?_⟩, hl.trans h.len, h.ad.keep t.but ?_, ?_, ?_, ?_, ?_, h.rl⟩
  · rintro (h1 | h1 | h1)
    · exact absurd h1 (h.game.pm.apart_tag htag (by decide) (by decide) (by decide) (by decide))
    · rcases h.game.mem.tag h1 with h' | h' | h' | h' | h' <;> exact absurd (htag.same h') (by decide)
    · exact hg2 h1.symm
  · rintro k hk (h1 | h1 | h1)
    · exact (h.own k hk).2.1 h1
    · exact (h.own k hk).2.2 h1
    · subst h1; exact hg1 hk
  · intro k hk
    have h1 := h.own k hk
    have h2 := h.ad.lt hk
    refine ⟨h1.1, fun hf => ?_, fun hf => ?_⟩
    · rcases t.fm k hf with h3 | h3
      · exact h1.2.1 h3
      · omega
    · rcases t.fy k hf with h3 | h3
      · exact h1.2.2 h3
      · omega
  · intro k hk
    rcases t.fm k hk with h1 | h1
    · exact h.fm k h1
    · omega
  · intro k hk
    rcases t.fy k hk with h1 | h1
    · exact h.fy k h1
    · omega
  · refine h.low.trans (t.but.below hlow fun k hk => ?_)
    rcases hk with h1 | h1 | h1
    · exact h.fm k h1
    · exact h.fy k h1
    · omega
theorem PSt.fresh (h : PSt w W ym s y hs fs gx gm gs N got v) (hg : W.heap.size ≤ gt) : v.ownBlock ≠ some gt ∧ gt ≠ gx ∧ w.heap.size ≤ gt := by
  obtain ⟨t, hsite⟩ := h.site
  have h1 := hsite.lt
  have h2 := h.low.size
  exact ⟨fun e => by have := h.ad.lt e; omega, by omega, by omega⟩
theorem PSt.slab (h : PSt w W ym s y hs fs gx gm gs N got v) (hm : SlabMem W' y' hs' fs') (ho : HsOk hs') (fo : FsOk hs' fs') (t : STurn W W' y y') (hl : hs'.length = hs.length) : PSt w W' ym s y' hs' fs' gx gm gs N got v := by
  obtain ⟨h1, h2, h3⟩ := h.fresh (Nat.le_refl _)
  exact h.turn (gt := W.heap.size) (h.game.onSlab hm ho fo hl t) (GTurn.of_slab ym _ t) h1 h2 h3 hl
theorem PSt.push (h : PSt w W ym s y hs fs gx gm gs N got v) {g off n cap p : Nat} (hA : Adr W' (.slice (some ⟨g, off, none⟩) n cap) (got ++ [p])) (hgr : W.grownBy W' v.ownBlock) (hb : v.ownBlock = some g ∨ W.heap.size ≤ g) :
    PSt w W' ym s y hs fs gx gm gs N (got ++ [p]) (.slice (some ⟨g, off, none⟩) n cap) := by
  obtain ⟨tt, hsite⟩ := h.site
  have hlow := h.low.size
  have htag : Tag W gx 95 := Row.tag hsite
  have hbut : But W W' (fun k => v.ownBlock = some k) := ⟨hgr.os, hgr.tape, hgr.output, hgr.size, fun k hk hn => hgr.block k hk (fun e => hn e.symm)⟩
  refine ⟨h.game.but hbut (fun q hq => (h.own q hq).2.1) (fun q hq => (h.own q hq).2.2) (fun hq => by have := (h.own _ hq).1; have := h.rl; omega), h.eg, h.es, ⟨tt, hbut.row hsite fun hk => ?_⟩, h.len, hA, fun k hk => ?_, h.fm, h.fy, h.low.trans (hbut.below hlow fun k hk => (h.own k hk).1), h.rl⟩
  · exact absurd (htag.same (h.ad.tag hk)) (by decide)
  · cases hk
    rcases hb with h1 | h1
    · exact h.own g h1
    · exact ⟨Nat.le_trans hlow h1, fun hf => Nat.lt_irrefl _ (Nat.lt_of_lt_of_le (h.game.pm.lt _ hf) h1), fun hf => Nat.lt_irrefl _ (Nat.lt_of_lt_of_le (h.game.mem.lt hf) h1)⟩
/-- What Reserve comes to. -/
def MayP (w : World) (ym : Lay) (s : St) (hs : List Hd) (gx gm gs N c : Nat) (got : List Nat) (v : Value) (e : Ending) (W' : World) : Prop :=
  (∃ (i j : Nat) (x : Hd) (hs1 : List Hd) (y' : SLay) (fs' : Nat → List Nat), e = .returned (.tuple #[wv (adr x.no x.cls j), .int .i64 0]) ∧ Claimed hs hs1 c ∧ hs1[i]? = some x ∧ x.cls = c ∧ x.bl[j]? = some 0 ∧ PSt w W' ym s y' (hs1.set i { x with bl := x.bl.set j 1 }) fs' gx gm gs N got v) ∨
  (e = .returned (.tuple #[.int .u64 0, .int .i64 4]) ∧ ∃ y' fs', PSt w W' ym s y' hs fs' gx gm gs N got v)
theorem rsv_p (h : PSt w W ym s y hs fs gx gm gs N got v) (I : PubI hs s got) {c : Nat} (h1 : 1 ≤ c) (h3 : c ≤ 3) :
    Calls Tryz.prog 12 #[.pointer (some ⟨gs, 0, none⟩), .int .i64 (c : Int)] W (MayP w ym s hs gx gm gs N c got v) := by
  have H : Calls Tryz.prog 12 #[fpt y.gs, jv c] W (ResPost W y hs c) := reserve_any h.game.mem h.game.ho h.game.fo h.game.rs h1 h3
  unfold fpt jv at H
  rw [h.es] at H
  refine H.mono ?_
  rintro e W' ⟨hs1, hs', y', fs', hcl, ht, hm, ho, fo, t⟩
  rcases ht with ⟨i, j, x, hx, hc, hb, _, rfl, rfl⟩ | ⟨hno, rfl, rfl⟩
  · have hlen := (claimed_at I h3 h1 hcl hx hc hb).1
    exact .inl ⟨i, j, x, hs1, y', fs', by rw [hc], hcl, hx, hc, hb, h.slab hm ho fo t (by rw [List.length_set]; exact hlen)⟩
  · have he := claimed_fail h1 h3 hcl hno
    subst he
    exact .inr ⟨rfl, y', fs', h.slab hm ho fo t rfl⟩
def MayC (w : World) (ym : Lay) (s : St) (hs : List Hd) (gx gm gs N c : Nat) (got : List Nat) (v : Value) (W' : World) (A : Nat) (E : Int) : Prop :=
  (E = 0 ∧ ∃ (i j : Nat) (x : Hd) (hs1 : List Hd) (y' : SLay) (fs' : Nat → List Nat), A = adr x.no x.cls j ∧ Claimed hs hs1 c ∧ hs1[i]? = some x ∧ x.cls = c ∧ x.bl[j]? = some 0 ∧ PSt w W' ym s y' (hs1.set i { x with bl := x.bl.set j 1 }) fs' gx gm gs N got v) ∨
  (E = 4 ∧ ∃ y' fs', PSt w W' ym s y' hs fs' gx gm gs N got v)
theorem MayP.split {c : Nat} {e : Ending} (h : MayP w ym s hs gx gm gs N c got v e W') : ∃ (A : Nat) (E : Int), e = .returned (.tuple #[.int .u64 (A : Int), .int .i64 E]) ∧ MayC w ym s hs gx gm gs N c got v W' A E := by
  rcases h with ⟨i, j, x, hs1, y', fs', rfl, h⟩ | ⟨rfl, h⟩
  · exact ⟨_, 0, rfl, .inl ⟨rfl, i, j, x, hs1, y', fs', rfl, h⟩⟩
  · exact ⟨0, 4, rfl, .inr ⟨rfl, h⟩⟩
/-- What Publish comes to. -/
def BegP (w : World) (ym : Lay) (s : St) (y : SLay) (hs : List Hd) (fs : Nat → List Nat) (gx gm gs N cl i j : Nat) (got : List Nat) (v : Value) (e : Ending) (W' : World) : Prop :=
  ∃ gt, e = .returned (.tuple #[fpt gt, .int .i64 0]) ∧ TAt W' ym y gt (cl : Int) i j 76 false 0 ∧ PSt w W' ym s y hs fs gx gm gs N got v ∧ v.ownBlock ≠ some gt ∧ gt ≠ gx ∧ w.heap.size ≤ gt
theorem pub_p {i j cl : Nat} {x : Hd} (h : PSt w W ym s y hs fs gx gm gs N got v) (hx : hs[i]? = some x) (hj : x.bl[j]? = some 1) (hcl : cl ≤ 64) :
    Calls Tryz.prog 13 #[.pointer (some ⟨gs, 0, none⟩), .pointer (some ⟨gm, 0, none⟩), .int .i64 (cl : Int), wv (adr x.no x.cls j)] W (BegP w ym s y (hs.set i { x with bl := x.bl.set j 4 }) fs gx gm gs N cl i j got v) := by
  have H := publish_ok h.game.mem h.game.ho h.game.rs h.game.pm (c := (cl : Int)) (by unfold fitsM inB; rw [decide_eq_true h.game.size]; simp; omega) hx hj rfl
  unfold fpt at H
  rw [h.es, h.eg] at H
  refine H.mono ?_
  rintro e W' ⟨gt, rfl, hr, hg, hm, t⟩
  obtain ⟨h1, h2, h3⟩ := h.fresh hg
  refine ⟨gt, rfl, ?_, h.slab hm (h.game.ho.set_bl hx) (h.game.fo.turn hx hj (by decide) (by decide)) t (by simp), h1, h2, h3⟩
  unfold TAt
  rw [h.eg]
  exact hr
end
theorem whl_p {w W : World} {ym : Lay} {s : St} {y : SLay} {hs hs1 : List Hd} {fs : Nat → List Nat} {gx gm gs N gt i j cl c : Nat} {got : List Nat} {v : Value} {x : Hd}
    (h : PSt w W ym s y ((hs1.set i { x with bl := x.bl.set j 1 }).set i { ({ x with bl := x.bl.set j 1 } : Hd) with bl := (x.bl.set j 1).set j 4 }) fs gx gm gs N got v) (I : PubI hs s got) (h1 : 1 ≤ c) (h3 : c ≤ 3) (hcl : Claimed hs hs1 c) (hx : hs1[i]? = some x) (hc : x.cls = c) (hb : x.bl[j]? = some 0)
    (T : TAt W ym y gt (cl : Int) i j 76 false 0) (g1 : v.ownBlock ≠ some gt) (g2 : gt ≠ gx) (g3 : w.heap.size ≤ gt) (hcl4 : cl ≤ 64) (ht : s.tot ≤ 100) :
    Calls Tryz.prog 14 #[.pointer (some ⟨gm, 0, none⟩), .func (.func 15) #[fpt gt] #[], .int .i64 20] W fun e W' => e = .returned (.tuple #[.int .i64 4, .bool false, .int .i64 0]) ∧
      ∃ ym' s' y' hs' fs', PSt w W' ym' s' y' hs' fs' gx gm gs N got v ∧ PubI hs' s' (got ++ [adr x.no x.cls j]) ∧ s'.tot = s.tot + 4 := by
  have hil := (List.getElem?_eq_some_iff.1 hx).1
  have hjl := (List.getElem?_eq_some_iff.1 hb).1
  obtain ⟨hlen, _, hclean, _, _⟩ := claimed_at I h3 h1 hcl hx hc hb
  have hx2 : ((hs1.set i { x with bl := x.bl.set j 1 }).set i { ({ x with bl := x.bl.set j 1 } : Hd) with bl := (x.bl.set j 1).set j 4 })[i]? = some { ({ x with bl := x.bl.set j 1 } : Hd) with bl := (x.bl.set j 1).set j 4 } := List.getElem?_set_self (by rw [List.length_set]; exact hil)
  have hno : x.no = i + 1 := (h.game.ho i _ hx2).1
  have hN : hs1.length = N := by have := h.len; simpa using this
  have hsz : 64 * s.nl = 1024 * (N + 1) := by have := h.game.size; rw [h.len] at this; exact this
  have HW := turn_whole h.game T (fun e => by have := h.rl; omega) hcl4 hx2 (v := 4) (by show ((x.bl.set j 1).set j 4)[j]? = some 4; rw [List.getElem?_set_self (by rw [List.length_set]; exact hjl)]) (by decide) hclean.2.2 (b := setB x.bits (j : Int)) rfl (by omega) (fun l hl => by rw [I.q.pe l hl]; simp) (Row.lt T) (by have := h.rl; have := h.low.size; omega)
  unfold fpt at HW ⊢
  rw [h.eg] at HW
  refine HW.mono ?_
  rintro e W' ⟨rfl, ym', y', fs', G', t'⟩
  have e1 := tnH_pub (hs1 := hs1) (i := i) (j := j) (x := x) hil
  rw [e1] at G'
  refine ⟨rfl, ym', _, y', _, fs', h.turn G' t' g1 g2 g3 (by simp), pub_step I h3 h1 hcl hx hc hb hno (by rw [hno]; omega) cl, ?_⟩
  exact tnS_tot _ _ _ _ _ (Nat.le_refl 4)
theorem img_p {W : World} {ym : Lay} {s : St} (h : MemAt W ym s) (ok : s.Ok) {n : Nat} (hn : (bytesL s.lasted).length = n) (h0 : 0 < n) :
    Calls Tryz.prog 8 #[.pointer (some ⟨ym.g, 0, none⟩)] W fun e W' => ∃ g c, e = .returned (.slice (some ⟨g, 0, none⟩) n c) ∧ Sl W' (some ⟨g, 0, none⟩) ((bytesL s.lasted).map bv) ∧ Below W.heap.size W W' := by
  refine (image_yes h ok.las).mono ?_
  rintro e W' ⟨⟨v, rfl, ho⟩, hb⟩
  rw [hn] at ho
  obtain ⟨A, cap, rfl, _, _, hs, hx⟩ := own_sl ho
  rcases ho.2 with ⟨h1, hz⟩ | ⟨g, cap', cur, h1, _⟩
  · cases h1; omega
  · cases h1; exact ⟨g, _, rfl, hs, hb⟩
theorem bytesL_nought (n : Nat) : bytesL (List.replicate n 0) = List.replicate (8 * n) 0 := by
  induction n with
  | zero => rfl
  | succ n ih =>
    rw [List.replicate_succ]
    show wbytes 0 ++ bytesL (List.replicate n 0) = _
    rw [ih, show 8 * (n + 1) = 8 + 8 * n by omega, ← List.replicate_append_replicate]
    rfl
def AgPost (W : World) (hs : List Hd) (e : Ending) (w' : World) : Prop :=
  ∃ y fs, e = .returned (.tuple #[fpt y.gs, .int .i64 0]) ∧ SlabMem w' y hs fs ∧ Below W.heap.size W w'
theorem again_p {w W W2 : World} {ym : Lay} {s : St} {y : SLay} {hs : List Hd} {fs : Nat → List Nat} {gx gm gs N g c : Nat} {got : List Nat} {v : Value} (h : PSt w W ym s y hs fs gx gm gs N got v) (I : PubI hs s got) (R : Rms W2) (h1 : 1 ≤ N) (h4 : N ≤ 64) (hA : Sl W2 (some ⟨g, 0, none⟩) ((bytesL s.lasted).map bv)) :
    Calls Tryz.prog 7 #[.slice (some ⟨g, 0, none⟩) (1024 * (N + 1)) c] W2 (AgPost W2 hs) := by
  have hsz : 64 * s.nl = 1024 * (N + 1) := by have := h.game.size; rw [h.len] at this; exact this
  have hll : s.lasted.length = 8 * s.nl := by rw [I.q.lv]; exact I.q.vl
  have hag := again_hs I h.game.ho h.game.ok.las (by rw [h.len]; omega)
  rw [h.len] at hag
  have H := slabOf_yes (cap := c) (n := N) (l := bytesL s.lasted) (by rw [bytesL_length]; omega) hA (bytesL_lt _) (by omega) h4 R
  refine H.mono fun e w' hp => ?_
  rcases hp with ⟨_, y2, he, hm, _, hb⟩ | ⟨hno, _⟩
  · rw [hag.1] at hm
    exact ⟨y2, _, he, hm, hb⟩
  · exact absurd hag.2 hno
end Go.Proofs.YtedefebdfcgjeaaGreatDoor
