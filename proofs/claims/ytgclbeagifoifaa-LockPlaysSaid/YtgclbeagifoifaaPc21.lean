/- Texts of this claim, packed: 7Held, 7Act. -/
import Derived.Test.YtgclbeagifoifaaPc20
import Derived.Test.YtgclbeagifoifaaPc07
import Derived.Test.YtgclbeagifoifaaPc05
/- Held: the locks that a client has, rising, in new memory; for any table and client. -/
namespace Go.Proofs.Ytgclbeagifoifaa
open Go.RowKit Go.Shelf Go.Maps
set_option linter.unusedVariables false
attribute [local go_sem] Oper.semAt_some
theorem own_cells {w : World} {B n g : Nat} {e : TypeId} {v : Value} {xs : List Value} (h : w.ownsRow B e 1 v n xs) (hg : v.ownBlock = some g) : ∃ cs t, w.heap[g]? = some (.cells cs t (0, 0)) := by
  rcases h.2 with ⟨rfl, _⟩ | ⟨g', cap, cur, rfl, _, hh, _⟩
  · cases hg
  · have : g' = g := by injection hg
    subst this
    exact ⟨_, _, hh⟩
theorem own_grown7 {w w' : World} {B n : Nat} {e : TypeId} {v : Value} {xs : List Value} {row : Option Nat} (h : w.ownsRow B e 1 v n xs) (hg : w.grownBy w' row) (hr : ∀ q, row = some q → ∃ o : Obj, w.heap[q]? = some o ∧ o.isCells = false) : w'.ownsRow B e 1 v n xs := by
  refine ⟨h.1, ?_⟩
  rcases h.2 with h0 | ⟨g, cap, cur, rfl, hb, hh, hrest⟩
  · exact .inl h0
  · refine .inr ⟨g, cap, cur, rfl, hb, (hg.block g (Array.getElem?_eq_some_iff.1 hh).1 ?_).trans hh, hrest⟩
    intro e
    obtain ⟨o, ho, hc⟩ := hr g e.symm
    rw [hh] at ho
    cases ho
    cases hc
/-- What holds when k locks were appended; the block r is the iterator's. -/
def HdI (w : World) (g : Nat) (c : Nat) (xs : List Nat) (r k : Nat) (W : World) : Prop :=
  r < W.heap.size ∧ w.heap.size + 3 ≤ r ∧ Below w.heap.size w W ∧ Row W (w.heap.size + 1) 24 #[.pointer (some ⟨g, 0, none⟩)] ∧ Row W (w.heap.size + 1 + 1) 3 #[.int .i64 (c : Int)] ∧
  ∃ v, Boxed W w.heap.size 38 v ∧ W.ownsRow (r + 1) 34 1 v k ((xs.take k).map wv)
theorem hdi_stay {w : World} {g c : Nat} {xs : List Nat} (r k : Nat) (W W' : World) (row : Option Nat) (h : HdI w g c xs r k W) (hg : W.grownBy W' row)
    (hr : ∀ q, row = some q → w.heap.size + 3 ≤ q ∧ ∃ o : Obj, W.heap[q]? = some o ∧ o.isCells = false) : HdI w g c xs r k W' := by
  obtain ⟨h1, h2, h3, h4, h5, v, h6, h7⟩ := h
  refine ⟨Nat.lt_of_lt_of_le h1 hg.size, h2, h3.trans ⟨hg.os, hg.tape, hg.output, hg.size, fun q hq => hg.block q (Nat.lt_of_lt_of_le hq h3.size) (fun e => by have := (hr q e.symm).1; omega)⟩,
    h4.grown hg (fun e => by have := (hr _ e.symm).1; omega), h5.grown hg (fun e => by have := (hr _ e.symm).1; omega), v, h6.kept hg (fun e => by have := (hr _ e.symm).1; omega), own_grown7 h7 hg (fun q e => (hr q e).2)⟩
def HeldPost (w : World) (xs : List Nat) (e : Ending) (w' : World) : Prop := ∃ v, e = .returned v ∧ w'.ownsRow w.heap.size 34 1 v xs.length (xs.map wv) ∧ Below w.heap.size w w'
set_option maxRecDepth 100000 in
set_option maxHeartbeats 2000000 in
theorem held_any {w : World} {g b : Nat} {s : Lk} (h : KAt w g b s) {c : Nat} (hc : c < s.n) {xs : List Nat} (hx : HeldIs s c xs) :
    Calls Try.prog 28 #[.pointer (some ⟨g, 0, none⟩), .int .i64 (c : Int)] w (HeldPost w xs) := by
  have hxl : xs.length ≤ 1000000 := by
    obtain ⟨D, hown, hkk, hs, ha⟩ := h.mp
    have h1 : (xs.map akey).Nodup := by
      rw [List.nodup_iff_pairwise_ne, List.pairwise_map]
      exact hx.1.imp (fun hlt e => by have := akey_inj e; omega)
    obtain ⟨es, rfl, hp, hl⟩ := hown.entries akeyed
    have h2 : xs.map akey ⊆ es.map Prod.fst := by
      intro k hk'
      obtain ⟨id, hid, rfl⟩ := List.mem_map.1 hk'
      have a1 := (hx.2 id).1 hid
      have h3 : Maps.has (.map es) (akey id) = true := by rw [hs id (h.ok.hc id c a1).2, a1]; rfl
      rw [Maps.has_eq, List.any_eq_true] at h3
      obtain ⟨p, hp', he⟩ := h3
      exact List.mem_map.2 ⟨p, hp', WideAt.sameKey_eq he⟩
    have h3 := List.Nodup.length_le_of_subset h1 h2
    simp only [List.length_map] at h3
    have h4 : Maps.size (DataW.map es : DataW Unit) = es.length := by simp [Maps.size_eq]
    have h5 := hown.size_le
    have h6 := h.ok.zs
    omega
  obtain ⟨i0, hi, hz0, hz1, hz2⟩ := info_parts kinfoAddr
  refine (callsIn_wide (n := 6)).1 ?_
  refine callsIn_of_wp_marks Try.func28 rfl trivial ?_ rfl
  simp only [Try.ntmps28, List.size_toArray, List.length_cons, List.length_nil, Nat.reduceAdd, Nat.reduceSub, Array.replicate_succ, Array.replicate_zero, List.push_toArray, List.append_toArray, List.nil_append, List.cons_append]
  gi_wp2_with (refine ⟨trivial, ?_⟩; gi_at_call 36; refine (callsIn_wide.2 (locks_any _ _ _)).mono ?_; rintro e w' ⟨rfl, rfl⟩)
  obtain ⟨W0, hW0⟩ : ∃ W0, W0 = (((w.alloc (.cells #[.slice none 0 0] 38)).alloc (.cells #[.pointer (some ⟨g, 0, none⟩)] 24)).alloc (.cells #[.int .i64 (c : Int)] 3)) := ⟨_, rfl⟩
  rw [← hW0]
  have hsz : W0.heap.size = w.heap.size + 3 := by rw [hW0]; simp
  have hb0 : Below w.heap.size w W0 := by
    rw [hW0]
    exact Below.and (Below.and (alloc_below _ _) (alloc_below _ _)) (alloc_below _ _)
  have r1 : Boxed W0 w.heap.size 38 (.slice none 0 0) := by
    rw [hW0]
    exact ((Boxed.new _ _ _).alloc _).alloc _
  have r3 : Row W0 (w.heap.size + 1) 24 #[.pointer (some ⟨g, 0, none⟩)] := by
    rw [hW0]
    refine Row.alloc ?_ _
    have := Row.new (w.alloc (.cells #[.slice none 0 0] 38)) 24 #[.pointer (some ⟨g, 0, none⟩)]
    simpa using this
  have r4 : Row W0 (w.heap.size + 1 + 1) 3 #[.int .i64 (c : Int)] := by
    rw [hW0]
    have := Row.new ((w.alloc (.cells #[.slice none 0 0] 38)).alloc (.cells #[.pointer (some ⟨g, 0, none⟩)] 24)) 3 #[.int .i64 (c : Int)]
    simpa using this
  have hm0 := h.below hb0
  have HM := Lib.hid h
  have HX := Lib.hid hx
  clear hW0 h hx
  refine range_allR rfl (by omega) (gf := 39) (lb := #[.pointer (some ⟨w.heap.size + 1, 0, none⟩), .pointer (some ⟨w.heap.size + 1 + 1, 0, none⟩)]) rfl trivial (enters_of Try.func39 (by kernel_rfl) rfl) xs (encs := encA) (fun _ => rfl) (HdI w g c xs)
    (fun r k W W' row hI hg hr => hdi_stay r k W W' row hI hg (fun q e => by obtain ⟨a1, _, a2⟩ := hr q e; exact ⟨by omega, a2⟩))
    (fun r W hb hr hr' => ⟨hr', by omega, hb0.trans (hb.mono hb0.size), r3.below hb r3.lt, r4.below hb r4.lt, _, (hb.block _ r1.lt).trans r1, World.ownsRow_nil _ _ _ _⟩)
    (kiter_tells hm0 hc HX.out (w.heap.size + 1) (w.heap.size + 1 + 1) _ (r3.cell 0) (r4.cell 0) ?reads)
    (fun x => { tmps := #[.pointer (some ⟨g, 0, none⟩), .int .i64 (c : Int), undef, undef, .slice none 0 0, .pointer (some ⟨w.heap.size, 0, none⟩), .int .u64 (x : Int), .pointer (some ⟨g, 0, none⟩), .int .i64 (c : Int),
      .func (.func 39) #[] #[.pointer (some ⟨w.heap.size + 1, 0, none⟩), .pointer (some ⟨w.heap.size + 1 + 1, 0, none⟩)], .int .u64 (x : Int), undef, undef, undef, undef, undef], defers := [] }) ?assign ?body ?done
  case reads =>
    rintro r k W ⟨_, _, hb, h4, h5, _⟩
    exact ⟨h4.cell 0, h5.cell 0, s, HM.out.below hb, fun _ _ => rfl, fun j id _ hj => (HX.out.2 id).1 (List.mem_of_getElem? hj)⟩
  case assign =>
    intro l x W K hK
    dsimp only [encA]
    gi_wp2
    exact hK
  case body =>
    rintro l r k x W hx hr2 ⟨h1, h2, hb, h4, h5, v, hv, hown⟩
    have hkl := (List.getElem?_eq_some_iff.1 hx).1
    have hsn : (xs.take (k + 1)).map wv = (xs.take k).map wv ++ [wv x] := by
      rw [List.take_succ_eq_append_getElem hkl, List.map_append, (List.getElem?_eq_some_iff.1 hx).2]
      rfl
    have HS := Lib.hid hsn
    have hc := hv.cell
    have a1 : k + 1 ≤ maxLen := by unfold maxLen; omega
    have a2 : (k + 1) * 8 ≤ 140737488355328 := by omega
    have H4 := Lib.hid h4
    have H5 := Lib.hid h5
    have HB := Lib.hid hb
    have HOWN := Lib.hid hown
    clear hsn hx hkl r1 r3 r4 hm0 hb0 h4 h5 hb
    gi_wp2_with (gi_at_builtin; refine wpListIn_append_own _ rfl _ _ 38 rfl (r + 1) 34 i0 (.int .u64 0) 1 8 Try.underlying38 hi hz0 hz1 hz2 rfl (by decide) _ k _ rfl (hown.alloc _) ⟨W.heap.size, 0, none⟩ 1 1 [.int .u64 (x : Int)] rfl rfl (cell_one_new _ _ _) (by simp [Value.oneCell']) a1 a2 (by simp; omega) ?_; intro v' w1 hown' hgrow _; obtain ⟨g', cap', rfl⟩ := ownsRow_succ hown'; obtain ⟨hc1, hf1⟩ : w1.cell? ⟨w.heap.size, 0, none⟩ = some v ∧ w1.frozen? ⟨w.heap.size, 0, none⟩ = false := ⟨((hv.alloc _).kept hgrow (hv.not_row (by decide) hown)).cell, ((hv.alloc _).kept hgrow (hv.not_row (by decide) hown)).frozen⟩)
    have hv1 := (hv.alloc (.cells #[.int .u64 (x : Int)] 34)).kept hgrow (hv.not_row (by decide) HOWN.out)
    have hob := own_from HOWN.out
    have hsz1 := hgrow.size
    have hge' : r + 1 ≤ g' := own_from hown' g' rfl
    have hall : ∀ q, q < W.heap.size → some q ≠ v.ownBlock → q ≠ w.heap.size → (w1.setCell ⟨w.heap.size, 0, none⟩ (.slice (some ⟨g', 0, none⟩) (k + 1) cap')).heap[q]? = W.heap[q]? := fun q hq hn hn' => by
      rw [heap_setCell_other _ _ _ _ (by show q ≠ w.heap.size; exact hn'), hgrow.block q (by simp; omega) hn]
      exact Below.heap_alloc W _ q hq
    have hne' : some w.heap.size ≠ (Value.slice (some ⟨g', 0, none⟩) (k + 1) cap').ownBlock := fun e => by have e2 : w.heap.size = g' := by { injection e }; omega
    have hrn : ∀ q, q ≤ r → some q ≠ v.ownBlock := fun q hq e => by have := hob q e.symm; omega
    refine ⟨⟨?_, ?_⟩, ⟨?_, h2, ?_, ?_, ?_, _, hv1.set _, ?_⟩, ?_⟩
    · simp [World.setCell] at hsz1 ⊢
      omega
    · intro q o hq ho hcl
      have hql := (Array.getElem?_eq_some_iff.1 ho).1
      rw [hall q hql (fun e => by obtain ⟨cs, t, h5⟩ := own_cells HOWN.out e.symm; rw [h5] at ho; cases ho; cases hcl) (by omega)]
      exact ho
    · simp [World.setCell] at hsz1 ⊢
      omega
    · exact ((HB.out.alloc (by omega) _).grown hgrow (by simp; omega) (fun q hq => by have := hob q hq; omega)).setCell (Nat.le_refl _) _
    · exact (hall _ (by omega) (hrn _ (by omega)) (by omega)).trans H4.out
    · exact (hall _ (by omega) (hrn _ (by omega)) (by omega)).trans H5.out
    · rw [HS.out]
      exact own_set hown' (p := ⟨w.heap.size, 0, none⟩) hne' _
    · rw [hall r h1 (hrn r (Nat.le_refl _)) (by omega)]
      exact Array.getElem?_eq_getElem h1
  case done =>
    rintro D r W hD hI hK
    obtain ⟨_, h2, hb, _, _, v, hv, hown⟩ := hI
    have hc := hv.cell
    rw [List.take_length] at hown
    clear r1 r3 r4 hm0 hb0
    gi_wp2
    refine ⟨by simp, .inl ⟨_, _, rfl, run_takeDeferred hK, ?_⟩⟩
    exact ⟨_, results_tmp rfl _ _ _, v, rfl, own_mono (own_grown7 hown (grownBy_putObj' W D (.deferred none)) (fun q e => by cases e; exact ⟨_, hK, rfl⟩)) (by omega), hb.trans (belowK_b (w := w) (Nat.le_refl _) W D _ _ (by omega) hK rfl rfl)⟩
end Go.Proofs.Ytgclbeagifoifaa
/- Try, Release, Held at any number and address; the law's list of acts as it lies in memory. -/
namespace Go.Proofs.Ytgclbeagifoifaa
open Go.RowKit
set_option linter.unusedVariables false
def tryR (s : Lk) (c : Int) (id : Nat) : Bool := isC s c && decide (id ≠ 0) && tryB s c.toNat id
def tryT (s : Lk) (c : Int) (id : Nat) : Lk := if isC s c = true ∧ id ≠ 0 then tryS s c.toNat id else s
def relR (s : Lk) (c : Int) (id : Nat) : Bool := isC s c && decide (id ≠ 0) && relB s c.toNat id
def relT (s : Lk) (c : Int) (id : Nat) : Lk := if isC s c = true ∧ id ≠ 0 then relS s c.toNat id else s
theorem tryT_n (s : Lk) (c : Int) (id : Nat) : (tryT s c id).n = s.n := by unfold tryT; split <;> simp [tryS_n]
theorem tryT_sz (s : Lk) (c : Int) (id : Nat) : (tryT s c id).sz ≤ s.sz + 1 := by unfold tryT; split; exact tryS_sz _ _ _; omega
theorem relT_n (s : Lk) (c : Int) (id : Nat) : (relT s c id).n = s.n := by unfold relT; split <;> rfl
theorem relT_sz (s : Lk) (c : Int) (id : Nat) : (relT s c id).sz = s.sz := by unfold relT; split <;> rfl
theorem but_same (w : World) (fp : Nat → Prop) : But w w fp := But.refl w fp
theorem try_all {w : World} {g b : Nat} {s : Lk} (h : KAt w g b s) (c : Int) {id : Nat} (hi : id < 18446744073709551616) (hz : s.sz < 1000000) :
    Calls Try.prog 14 #[.pointer (some ⟨g, 0, none⟩), .int .i64 c, .int .u64 (id : Int)] w (KPost w g b (tryR s c id) (tryT s c id)) := by
  by_cases hc : isC s c = true
  · obtain ⟨k, rfl, hk⟩ := isC_of hc
    by_cases h0 : id = 0
    · subst h0
      refine (try_zero h hk).mono ?_
      rintro e w' ⟨rfl, rfl⟩
      exact ⟨by simp [tryR], by simpa [tryT] using h, But.refl _ _⟩
    · have := try_any h hk h0 hi hz
      simpa [tryR, tryT, hc, h0] using this
  · have hcf : isC s c = false := by simpa using hc
    have hI := kis_any h c
    rw [hcf] at hI
    refine (try_out (id := id) hI).mono ?_
    rintro e w' ⟨rfl, rfl⟩
    exact ⟨by simp [tryR, hcf], by simpa [tryT, hcf] using h, But.refl _ _⟩
theorem rel_all {w : World} {g b : Nat} {s : Lk} (h : KAt w g b s) (c : Int) {id : Nat} (hi : id < 18446744073709551616) :
    Calls Try.prog 17 #[.pointer (some ⟨g, 0, none⟩), .int .i64 c, .int .u64 (id : Int)] w (KPost w g b (relR s c id) (relT s c id)) := by
  by_cases hc : isC s c = true
  · obtain ⟨k, rfl, hk⟩ := isC_of hc
    by_cases h0 : id = 0
    · subst h0
      refine (rel_zero h hk).mono ?_
      rintro e w' ⟨rfl, rfl⟩
      exact ⟨by simp [relR], by simpa [relT] using h, But.refl _ _⟩
    · have := rel_any h hk h0 hi
      simpa [relR, relT, hc, h0] using this
  · have hcf : isC s c = false := by simpa using hc
    have hI := kis_any h c
    rw [hcf] at hI
    refine (rel_out (id := id) hI).mono ?_
    rintro e w' ⟨rfl, rfl⟩
    exact ⟨by simp [relR, hcf], by simpa [relT, hcf] using h, But.refl _ _⟩
theorem try_cases {s : Lk} (ok : s.Ok) (c : Int) (id : Nat) :
    (∃ k : Nat, c = (k : Int) ∧ tryR s c id = true ∧ (tryT s c id).hm id = some k ∧ (s.hm id = none ∨ s.hm id = some k)) ∨
    (tryR s c id = false ∧ s.hm id = none ∧ (tryT s c id).hm id = none) ∨
    (∃ h, tryR s c id = false ∧ s.hm id = some h ∧ (tryT s c id).hm id = some h) := by
  by_cases hc : isC s c = true
  · obtain ⟨k, rfl, hk⟩ := isC_of hc
    by_cases h0 : id = 0
    · subst h0
      refine .inr (.inl ⟨by simp [tryR], ok.h0, by simpa [tryT] using ok.h0⟩)
    · have e1 : tryR s (k : Int) id = tryB s k id := by simp [tryR, hc, h0]
      have e2 : tryT s (k : Int) id = tryS s k id := by simp [tryT, hc, h0]
      rw [e1, e2]
      by_cases hb : tryB s k id = true
      · refine .inl ⟨k, rfl, hb, by simp [tryS, hb, setH], ?_⟩
        unfold tryB at hb
        cases h : s.hm id with
        | none => exact .inl rfl
        | some d => rw [h] at hb; simp at hb; exact .inr (by rw [hb])
      · cases h : s.hm id with
        | none => exact absurd (by simp [tryB, h]) hb
        | some d => exact .inr (.inr ⟨d, by simpa using hb, rfl, by simp [tryS, hb, h]⟩)
  · have hcf : isC s c = false := by simpa using hc
    have e1 : tryR s c id = false := by simp [tryR, hcf]
    have e2 : tryT s c id = s := by simp [tryT, hcf]
    rw [e1, e2]
    cases h : s.hm id with
    | none => exact .inr (.inl ⟨rfl, rfl, rfl⟩)
    | some d => exact .inr (.inr ⟨d, rfl, rfl, rfl⟩)
theorem rel_cases {s : Lk} (ok : s.Ok) (c : Int) (id : Nat) :
    (relR s c id = false ∧ s.hm id = none) ∨ (∃ h : Nat, s.hm id = some h ∧ relR s c id = ((h : Int) == c)) := by
  cases h : s.hm id with
  | none =>
    refine .inl ⟨?_, rfl⟩
    simp [relR, relB, h]
  | some d =>
    refine .inr ⟨d, rfl, ?_⟩
    have h0 : id ≠ 0 := fun e => by rw [e, ok.h0] at h; cases h
    have hd := (ok.hc id d h).1
    by_cases hc : isC s c = true
    · obtain ⟨k, rfl, hk⟩ := isC_of hc
      rw [Bool.eq_iff_iff]
      simp [relR, relB, h, hc, h0]
      omega
    · have hcf : isC s c = false := by simpa using hc
      have : ¬ (d : Int) = c := fun e => by subst e; rw [isC_yes hd] at hcf; cases hcf
      have e2 : ((d : Int) == c) = false := by simp [this]
      rw [e2]
      simp [relR, hcf]
theorem held_ex {s : Lk} (ok : s.Ok) (c : Nat) : ∃ xs, HeldIs s c xs := by
  refine ⟨(List.range 18446744073709551616).filter (fun id => s.hm id == some c), ?_, fun id => ?_⟩
  · exact List.pairwise_lt_range.filter _
  · rw [List.mem_filter, List.mem_range]
    constructor
    · rintro ⟨_, h⟩
      simpa using h
    · intro h
      exact ⟨(ok.hc id c h).2, by simpa using h⟩
/-- An act: what to do, for whom, of which lock. -/
structure Ac where
  k : Int
  c : Int
  id : Nat
def acAt (l : List Ac) (i : Nat) : Ac := l.getD i ⟨0, 0, 0⟩
structure ActsAt (w : World) (a : Addr) (l : List Ac) : Prop where
  c0 : ∀ i, i < l.length → w.cell? (a.add (i * 3)) = some (.int .i64 (acAt l i).k)
  c1 : ∀ i, i < l.length → w.cell? ⟨(a.add (i * 3)).block, (a.add (i * 3)).off + 1, none⟩ = some (.int .i64 (acAt l i).c)
  c2 : ∀ i, i < l.length → w.cell? ⟨(a.add (i * 3)).block, (a.add (i * 3)).off + 2, none⟩ = some (.int .u64 ((acAt l i).id : Int))
  fit : ∀ i, i < l.length → (acAt l i).id < 18446744073709551616
theorem ActsAt.below {w w' : World} {a : Addr} {l : List Ac} (h : ActsAt w a l) (hb : Below w.heap.size w w') : ActsAt w' a l :=
  ⟨fun i hi => (hb.cell (w.block_lt_of_cell? _ (h.c0 i hi))).trans (h.c0 i hi), fun i hi => (hb.cell (w.block_lt_of_cell? _ (h.c1 i hi))).trans (h.c1 i hi),
    fun i hi => (hb.cell (w.block_lt_of_cell? _ (h.c2 i hi))).trans (h.c2 i hi), h.fit⟩
/-- The slice (A, n, cap) holds the acts l. -/
def ActsIn (w : World) (A : Option Addr) (n cap : Nat) (l : List Ac) : Prop := l.length = n ∧ n ≤ cap ∧ n ≤ maxLen ∧ (0 < l.length → ∃ ga, A = some ga ∧ ActsAt w ga l)
end Go.Proofs.Ytgclbeagifoifaa
