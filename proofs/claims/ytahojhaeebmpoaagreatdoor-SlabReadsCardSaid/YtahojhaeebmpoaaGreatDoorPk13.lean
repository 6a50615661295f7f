/- Texts of this claim, packed: HFree, HPut, HNew. -/
import Derived.Test.YtahojhaeebmpoaaGreatDoorPk12
/- The set's functions: what each answers, and which set it leaves; for sets of at most 10^9 addresses (All, NewFree: of at most twelve). -/
namespace Go.Proofs.YtahojhaeebmpoaaGreatDoor
open Go.RowKit
set_option linter.unusedVariables false
/-- g is a set of just the addresses s, in whatever order. -/
def SetAt (w : World) (g : Nat) (s : List Nat) (v : Value) : Prop := ∃ l, FreeAt w g v l ∧ HeapP l l.length ∧ l.Perm s
theorem SetAt.keep {w w' : World} {g : Nat} {v : Value} {s : List Nat} {fp : Nat → Prop} (h : SetAt w g s v) (hb : But w w' fp) (hn : ∀ k, ffp g v k → ¬ fp k) : SetAt w' g s v := by
  obtain ⟨l, hF, h⟩ := h
  exact ⟨l, hF.keep hb hn, h⟩
theorem SetAt.below {w w' : World} {g : Nat} {v : Value} {s : List Nat} (h : SetAt w g s v) (hb : Below w.heap.size w w') : SetAt w' g s v := h.keep (But.of_below hb (fun _ => False)) (fun _ _ h => h)
theorem SetAt.perm {w : World} {g : Nat} {v : Value} {s s' : List Nat} (h : SetAt w g s v) (hp : s.Perm s') : SetAt w g s' v := by
  obtain ⟨l, hF, hh, hs⟩ := h
  exact ⟨l, hF, hh, hs.trans hp⟩
theorem SetAt.fp {w : World} {g : Nat} {v : Value} {s : List Nat} (h : SetAt w g s v) {k : Nat} (hk : ffp g v k) : k < w.heap.size := by
  obtain ⟨l, hF, _⟩ := h
  rcases hk with rfl | hk
  · exact hF.1.lt
  · exact hF.2.1.lt hk
theorem idx_yes {l : List Nat} {a : Nat} (h : a ∈ l) : ∃ k : Nat, idx l a = (k : Int) ∧ k < l.length ∧ gd l k = a := by
  have hk := List.idxOf_lt_length_iff.2 h
  refine ⟨l.idxOf a, if_pos h, hk, ?_⟩
  have : l[l.idxOf a] = a := List.getElem_idxOf hk
  rw [show gd l (l.idxOf a) = l[l.idxOf a] by simp [gd, hk]]
  exact this
theorem idx_no {l : List Nat} {a : Nat} (h : a ∉ l) : idx l a = -1 := if_neg h
set_option maxRecDepth 100000 in
set_option maxHeartbeats 1000000 in
theorem place_any {w : World} {g : Nat} {v : Value} {l : List Nat} (hF : FreeAt w g v l) (hl : l.length ≤ 1000000000) (a : Nat) :
    Calls Tryz.prog 133 #[.pointer (some ⟨g, 0, none⟩), wv a] w fun e w' => e = .returned (.tuple #[.int .i64 (idx l a), .bool (decide (a ∈ l))]) ∧ Below w.heap.size w w' := by
  have c0 := hF.cell
  have HI := Lib.hid (indexF_any (B := w.heap.size) (a := a) (hF.below (alloc_below w (.cells #[wv a] 24))).2.1 (by omega) (by simp) (by simp))
  have c1 : (w.alloc (.cells #[.int .u64 (a : Int)] 24)).cell? ⟨g, 0, none⟩ = some v := (hF.below (alloc_below w (.cells #[.int .u64 (a : Int)] 24))).cell
  unfold wv at HI ⊢
  by_cases ha : a ∈ l
  · obtain ⟨k, hk, hkl, _⟩ := idx_yes ha
    rw [hk] at HI ⊢
    rw [decide_eq_true ha]
    clear hk ha hF hl hkl
    go_enter Tryz.func133, Tryz.ntmps133
    go_wp2_with fail
    refine HI.out.mono ?_
    rintro e w1 ⟨rfl, hd⟩
    have HD := Lib.hid hd.below
    clear hd
    go_wp2
    go_ret2
    exact ⟨rfl, Below.and (alloc_below _ _) HD.out⟩
  · rw [idx_no ha] at HI ⊢
    rw [decide_eq_false ha]
    clear ha hF hl
    go_enter Tryz.func133, Tryz.ntmps133
    go_wp2_with fail
    refine HI.out.mono ?_
    rintro e w1 ⟨rfl, hd⟩
    have HD := Lib.hid hd.below
    clear hd
    go_wp2
    go_ret2
    exact ⟨rfl, Below.and (alloc_below _ _) HD.out⟩
set_option maxHeartbeats 400000 in
theorem place_nil (a : Nat) (w : World) : Calls Tryz.prog 133 #[.pointer none, wv a] w fun e w' => e = .returned (.tuple #[.int .i64 0, .bool false]) ∧ Below w.heap.size w w' := by
  unfold wv
  go_enter Tryz.func133, Tryz.ntmps133
  go_wp2
  go_ret2
  exact ⟨rfl, alloc_below _ _⟩
theorem SetAt.place {w : World} {g : Nat} {v : Value} {s : List Nat} (hS : SetAt w g s v) (hl : s.length ≤ 1000000000) (a : Nat) : ∃ l, FreeAt w g v l ∧ HeapP l l.length ∧ l.Perm s ∧ l.length = s.length ∧ decide (a ∈ l) = decide (a ∈ s) := by
  obtain ⟨l, hF, hH, hp⟩ := hS
  exact ⟨l, hF, hH, hp, hp.length_eq, by rw [Bool.eq_iff_iff]; simp [hp.mem_iff]⟩
set_option maxRecDepth 100000 in
theorem has_any {w : World} {g : Nat} {v : Value} {s : List Nat} (hS : SetAt w g s v) (hl : s.length ≤ 1000000000) (a : Nat) :
    Calls Tryz.prog 123 #[.pointer (some ⟨g, 0, none⟩), wv a] w fun e w' => e = .returned (.bool (decide (a ∈ s))) ∧ Below w.heap.size w w' := by
  obtain ⟨l, hF, _, _, hlen, hd⟩ := hS.place hl a
  have HP := Lib.hid (place_any hF (by omega) a)
  rw [hd] at HP
  clear hd hF hlen hl hS
  generalize decide (a ∈ s) = bb at HP ⊢
  generalize idx l a = k at HP
  unfold wv at HP ⊢
  go_enter Tryz.func123, Tryz.ntmps123
  go_wp2_with fail
  refine HP.out.mono ?_
  rintro e w1 ⟨rfl, hb⟩
  have HB := Lib.hid hb
  clear hb
  go_wp2
  go_ret
  exact ⟨rfl, HB.out⟩
theorem has_nil (a : Nat) (w : World) : Calls Tryz.prog 123 #[.pointer none, wv a] w fun e w' => e = .returned (.bool false) ∧ Below w.heap.size w w' := by
  have HP := Lib.hid (place_nil a w)
  unfold wv at HP ⊢
  go_enter Tryz.func123, Tryz.ntmps123
  go_wp2_with fail
  refine HP.out.mono ?_
  rintro e w1 ⟨rfl, hb⟩
  have HB := Lib.hid hb
  clear hb
  go_wp2
  go_ret
  exact ⟨rfl, HB.out⟩
theorem len_any {w : World} {g : Nat} {v : Value} {s : List Nat} (hS : SetAt w g s v) (hl : s.length ≤ 1000000000) :
    Calls Tryz.prog 48 #[.pointer (some ⟨g, 0, none⟩)] w fun e w' => e = .returned (.int .i64 (s.length : Int)) ∧ w = w' := by
  obtain ⟨l, hF, _, hp⟩ := hS
  have c0 := hF.cell
  obtain ⟨ad, cap, rfl⟩ := hF.2.1.shape
  rw [hp.length_eq] at c0
  clear hF hp
  generalize s.length = n at *
  go_enter Tryz.func48, Tryz.ntmps48
  go_wp2
  go_ret
  exact ⟨rfl, rfl⟩
theorem len_nil (w : World) : Calls Tryz.prog 48 #[.pointer none] w fun e w' => e = .returned (.int .i64 0) ∧ w = w' := by
  go_enter Tryz.func48, Tryz.ntmps48
  go_wp2
  go_ret
  exact ⟨rfl, rfl⟩
end Go.Proofs.YtahojhaeebmpoaaGreatDoor
/- The set's functions that change it: Put, Take, Drop; and Copy, All, NewFree: what each answers, and which set it leaves; for sets of at most 10^9 addresses (All, NewFree: of at most twelve). -/
namespace Go.Proofs.YtahojhaeebmpoaaGreatDoor
open Go.RowKit
set_option linter.unusedVariables false
theorem errno0 (w : World) : True := trivial
def LeftSet (w : World) (g : Nat) (v : Value) (s : List Nat) (w' : World) : Prop := ∃ v', SetAt w' g s v' ∧ FTurn w w' g v v'
theorem put_nil (a : Nat) (w : World) : Calls Tryz.prog 106 #[.pointer none, wv a] w fun e w' => e = .returned (.int .i64 1) ∧ w = w' := by
  unfold wv
  go_enter Tryz.func106, Tryz.ntmps106
  go_wp2
  go_ret
  exact ⟨rfl, rfl⟩
theorem put_zero (g : Nat) (w : World) : Calls Tryz.prog 106 #[.pointer (some ⟨g, 0, none⟩), wv 0] w fun e w' => e = .returned (.int .i64 2) ∧ w = w' := by
  unfold wv
  show Calls Tryz.prog 106 #[.pointer (some ⟨g, 0, none⟩), .int .u64 0] w _
  go_enter Tryz.func106, Tryz.ntmps106
  go_wp2
  go_ret
  exact ⟨rfl, rfl⟩
set_option maxRecDepth 100000 in
set_option maxHeartbeats 1000000 in
theorem put_any {w : World} {g : Nat} {v : Value} {s : List Nat} (hS : SetAt w g s v) (hl : s.length ≤ 999999999) {a : Nat} (h0 : a ≠ 0) :
    Calls Tryz.prog 106 #[.pointer (some ⟨g, 0, none⟩), wv a] w fun e w' => e = .returned (.int .i64 0) ∧ LeftSet w g v (if a ∈ s then s else a :: s) w' := by
  have HH := Lib.hid (has_any hS (by omega) a)
  have hz : ((a : Int) == 0) = false := by rw [Bool.eq_false_iff]; intro h; have := beq_iff_eq.1 h; omega
  by_cases ha : a ∈ s
  · rw [if_pos ha]
    rw [decide_eq_true ha] at HH
    have HS := Lib.hid hS
    clear hS ha hl
    unfold wv at HH ⊢
    go_enter Tryz.func106, Tryz.ntmps106
    go_wp2_with fail
    refine HH.out.mono ?_
    rintro e w1 ⟨rfl, hb⟩
    have HE := Lib.hid (show LeftSet w g v s w1 from ⟨v, HS.out.below hb, FTurn.of_below g v hb⟩)
    clear hb
    go_wp2
    go_ret
    exact ⟨rfl, HE.out⟩
  · rw [if_neg ha]
    rw [decide_eq_false ha] at HH
    have HS := Lib.hid hS
    have HL := Lib.hid hl
    clear hS ha hl
    unfold wv at HH ⊢
    go_enter Tryz.func106, Tryz.ntmps106
    go_wp2_with fail
    refine HH.out.mono ?_
    rintro e w1 ⟨rfl, hb⟩
    obtain ⟨l, hF, hhp, hp⟩ := HS.out.below hb
    have HB := Lib.hid (FTurn.of_below g v hb)
    have hps := push_heap hhp a
    have HP := Lib.hid (hPush_any hF (by have := HL.out; have := hp.length_eq; omega) a)
    have HQ := Lib.hid (show HeapP (upF (l ++ [a]) l.length) (upF (l ++ [a]) l.length).length ∧ (upF (l ++ [a]) l.length).Perm (a :: s) from ⟨by rw [hps.2.2]; exact hps.1, hps.2.1.trans (hp.cons a)⟩)
    clear hF hhp hp hps hb
    unfold wv at HP
    go_wp2_with fail
    refine HP.out.mono ?_
    rintro e w2 ⟨rfl, v2, hF2, hT2⟩
    have HE := Lib.hid (show LeftSet w g v (a :: s) w2 from ⟨v2, ⟨_, hF2, HQ.out⟩, HB.out.trans hT2⟩)
    clear hF2 hT2
    go_wp2
    go_ret
    exact ⟨rfl, HE.out⟩
theorem assertA2 (x : Int) (w : World) : (Instr.typeAssert (.iface 24 (.int .u64 x)) 20 24 true).run Tryz.prog w = .ok (.tuple #[.int .u64 x, .bool true]) w := assertA x w
theorem take_nil (w : World) : Calls Tryz.prog 69 #[.pointer none] w fun e w' => e = .returned (.tuple #[.int .u64 0, .bool false]) ∧ w = w' := by
  go_enter Tryz.func69, Tryz.ntmps69
  go_wp2_with fail
  refine (len_nil _).mono ?_
  rintro e w1 ⟨rfl, rfl⟩
  go_wp2
  go_ret2
  exact ⟨rfl, rfl⟩
theorem take_none {w : World} {g : Nat} {v : Value} (hS : SetAt w g [] v) : Calls Tryz.prog 69 #[.pointer (some ⟨g, 0, none⟩)] w fun e w' => e = .returned (.tuple #[.int .u64 0, .bool false]) ∧ w = w' := by
  have HL := Lib.hid (len_any hS (by simp))
  clear hS
  go_enter Tryz.func69, Tryz.ntmps69
  go_wp2_with fail
  refine HL.out.mono ?_
  rintro e w1 ⟨rfl, rfl⟩
  go_wp2
  go_ret2
  exact ⟨rfl, rfl⟩
set_option maxRecDepth 100000 in
set_option maxHeartbeats 1000000 in
theorem take_any {w : World} {g : Nat} {v : Value} {s : List Nat} (hS : SetAt w g s v) (hl : s.length ≤ 1000000000) {m : Nat} (hm : m ∈ s) (hmin : ∀ x ∈ s, m ≤ x) :
    Calls Tryz.prog 69 #[.pointer (some ⟨g, 0, none⟩)] w fun e w' => e = .returned (.tuple #[wv m, .bool true]) ∧ LeftSet w g v (s.erase m) w' := by
  have HL := Lib.hid (len_any hS hl)
  have hpos : 0 < s.length := List.length_pos_of_mem hm
  have hz : ((s.length : Int) == 0) = false := by rw [Bool.eq_false_iff]; intro h; have := beq_iff_eq.1 h; omega
  obtain ⟨l, hF, hhp, hp⟩ := hS
  have hlen := hp.length_eq
  have hph := pop_heap hhp (by omega)
  have hg : gd l 0 = m := by
    have h1 : gd l 0 ∈ s := hp.mem_iff.1 (gd_mem (by omega))
    have h2 := hmin _ h1
    obtain ⟨j, hj, hjm⟩ := mem_gd.1 (hp.mem_iff.2 hm)
    have h3 := heap_min hhp hj
    omega
  have HP := Lib.hid (hPop_any hF (by omega) (by omega))
  rw [hph.2.1, hg] at HP
  have hq : ((popF l).take (l.length - 1)).Perm (s.erase m) := by
    have h1 : (m :: (popF l).take (l.length - 1)).Perm s := by rw [← hg]; exact hph.2.2.2.trans hp
    exact (List.perm_cons m).1 (h1.trans (List.perm_cons_erase hm))
  have hql : ((popF l).take (l.length - 1)).length = l.length - 1 := by rw [List.length_take, hph.1]; omega
  have HQ := Lib.hid (show HeapP ((popF l).take (l.length - 1)) ((popF l).take (l.length - 1)).length ∧ ((popF l).take (l.length - 1)).Perm (s.erase m) from ⟨by rw [hql]; exact hph.2.2.1, hq⟩)
  have hta := assertA (m : Int)
  clear hF hhp hp hlen hph hg hq hql hm hmin hl
  generalize s.length = n at *
  unfold wv at HP ⊢
  go_enter Tryz.func69, Tryz.ntmps69
  go_wp2_with fail
  refine HL.out.mono ?_
  rintro e w1 ⟨rfl, rfl⟩
  go_wp2_with fail
  refine HP.out.mono ?_
  rintro e w2 ⟨rfl, v2, hF2, hT2⟩
  have HE := Lib.hid (show LeftSet w g v (s.erase m) w2 from ⟨v2, ⟨_, hF2, HQ.out⟩, hT2⟩)
  clear hF2 hT2
  go_wp2
  go_ret2
  exact ⟨rfl, HE.out⟩
end Go.Proofs.YtahojhaeebmpoaaGreatDoor
/- Copy, All and NewFree of a set: what each answers; All and NewFree of at most twelve addresses, Copy of at most 10^9. -/
namespace Go.Proofs.YtahojhaeebmpoaaGreatDoor
open Go.RowKit
set_option linter.unusedVariables false
/-- What All answers: the set's addresses, rising, in new memory. -/
def Listed (w : World) (s : List Nat) (e : Ending) (w' : World) : Prop := ∃ v l, e = .returned v ∧ Adr w' v l ∧ l.Perm s ∧ l.Pairwise (· ≤ ·) ∧ (∀ k, v.ownBlock = some k → w.heap.size ≤ k) ∧ Below w.heap.size w w'
/-- A new set of the addresses s, in new memory. -/
def Made (w : World) (s : List Nat) (e : Ending) (w' : World) : Prop := ∃ g v, e = .returned (.pointer (some ⟨g, 0, none⟩)) ∧ SetAt w' g s v ∧ (∀ k, ffp g v k → w.heap.size ≤ k) ∧ Below w.heap.size w w'
theorem made_of {w W : World} {v : Value} {l s : List Nat} (ha : Adr W v l) (hk : ∀ k, v.ownBlock = some k → w.heap.size ≤ k) (hb : Below w.heap.size w W) (hh : HeapP l l.length) (hp : l.Perm s) : Made w s (.returned (.pointer (some ⟨W.heap.size, 0, none⟩))) (W.alloc (.cells #[v] 145)) := by
  refine ⟨_, v, rfl, ⟨l, ⟨Row.new W 145 #[v], ha.below (alloc_below _ _), fun e => ?_⟩, hh, hp⟩, fun k hk' => ?_, hb.trans ((alloc_below W _).mono hb.size)⟩
  · have := ha.lt e; omega
  · rcases hk' with rfl | h
    · exact hb.size
    · exact hk k h
theorem heap_sorted {l : List Nat} (h : l.Pairwise (· < ·)) : HeapP l l.length := by
  intro i h0 hi
  have := List.pairwise_iff_getElem.1 h ((i - 1) / 2) i (by omega) hi (by omega)
  have e1 : gd l ((i - 1) / 2) = l[(i - 1) / 2] := by simp [gd, show (i - 1) / 2 < l.length by omega]
  have e2 : gd l i = l[i] := by simp [gd, hi]
  omega
theorem Adr.tail {w : World} {b off cap : Nat} {x : Nat} {l : List Nat} (ha : Adr w (.slice (some ⟨b, off, none⟩) (l.length + 1) cap) (x :: l)) : Adr w (.slice (some ⟨b, off + 1, none⟩) l.length (cap - 1)) l := by
  rcases ha with ⟨h0, _⟩ | ⟨b', o', c, cur, e, hr, h1, h2, h3, ht⟩
  · cases h0
  · cases e
    simp only [List.length_cons] at h1 ht
    refine .inr ⟨b, off + 1, cap - 1, cur, rfl, hr, by omega, by omega, by omega, ?_⟩
    apply List.ext_getElem?
    intro k
    rw [List.getElem?_take, List.getElem?_map]
    by_cases hk : k < l.length
    · have := drop_get (l := x :: l) (i := k + 1) ht (by simp; omega) (by omega)
      rw [if_pos hk, List.getElem?_drop, show off + 1 + k = off + (k + 1) by omega, this, gd_eq hk]
      simp [gd]
    · rw [if_neg hk, List.getElem?_eq_none (by omega)]
      rfl
/-- The set of a list: each address once, without 0. -/
def setOf (l : List Nat) : List Nat := if 0 ∈ l then l.erase 0 else l
set_option maxRecDepth 100000 in
set_option maxHeartbeats 2000000 in
theorem newFree_few {w : World} {v : Value} {l : List Nat} (hA : Adr w v l) (hl : l.length ≤ 12) :
    Calls Tryz.prog 36 #[v] w fun e w' => ∃ s, s.Nodup ∧ (∀ x, x ∈ s ↔ x ∈ l ∧ x ≠ 0) ∧ s.length ≤ l.length ∧ Made w s e w' := by
  have HC := Lib.hid (cloneA_any hA (by omega))
  have HL := Lib.hid hl
  clear hA hl
  go_enter Tryz.func36, Tryz.ntmps36
  go_wp2_with fail
  refine HC.out.mono ?_
  rintro e w1 ⟨v1, rfl, ha, hk, hb⟩
  have HS := Lib.hid (sortA_few ha HL.out)
  have HK := Lib.hid hk
  have HB := Lib.hid hb
  clear ha hk hb
  go_wp2_with fail
  refine HS.out.mono ?_
  rintro e w2 ⟨rfl, l', ha, hp', hs, hbt⟩
  have HP := Lib.hid hp'
  have HSo := Lib.hid (ddp_of hs)
  have HB2 := Lib.hid (HB.out.trans (hbt.below HB.out.size HK.out))
  have HCo := Lib.hid (compact_any ha (by have := hp'.length_eq; have := HL.out; omega))
  clear ha hp' hs hbt
  go_wp2_with fail
  refine HCo.out.mono ?_
  rintro e w3 ⟨v3, rfl, ha, hk3, hbt⟩
  have HK3 := Lib.hid (fun k h => HK.out k (hk3 k h))
  have HB3 := Lib.hid (HB2.out.trans (hbt.below HB2.out.size HK.out))
  clear hbt hk3
  obtain ⟨d, hd⟩ : ∃ d, d = ddp l' := ⟨_, rfl⟩
  rw [← hd] at ha HSo
  clear hd
  have hmem : ∀ x, x ∈ d ↔ x ∈ l := fun x => (HSo.out.2.1 x).trans HP.out.mem_iff
  have hdl : d.length ≤ l.length := Nat.le_trans HSo.out.2.2 (by rw [HP.out.length_eq]; exact Nat.le_refl _)
  have hnd : d.Nodup := HSo.out.1.imp (fun h => Nat.ne_of_lt h)
  have hmk : ∀ v4 s, Adr w3 v4 s → (∀ k, v4.ownBlock = some k → v3.ownBlock = some k) → s.Pairwise (· < ·) → Made w s (.returned (.pointer (some ⟨w3.heap.size, 0, none⟩))) (w3.alloc (.cells #[v4] 145)) :=
    fun v4 s ha hk hs => made_of ha (fun k h => HK3.out k (hk k h)) HB3.out (heap_sorted hs) (List.Perm.refl _)
  have HMK := Lib.hid hmk
  rcases d with _ | ⟨x, d⟩
  · obtain ⟨ad, cap, rfl⟩ := ha.shape
    have HE := Lib.hid (show ∃ s, s.Nodup ∧ (∀ x, x ∈ s ↔ x ∈ l ∧ x ≠ 0) ∧ s.length ≤ l.length ∧ Made w s (.returned (.pointer (some ⟨w3.heap.size, 0, none⟩))) (w3.alloc (.cells #[.slice ad 0 cap] 145)) from
      ⟨[], hnd, fun x => ⟨fun h => by simp at h, fun h => (hmem x).2 h.1⟩, hdl, HMK.out _ _ ha (fun k h => h) List.Pairwise.nil⟩)
    clear ha HSo hmem hdl hnd hmk
    go_wp2
    go_ret
    exact HE.out
  · obtain ⟨b, off, cap, rfl, hc, hm⟩ := ha.pos (by simp)
    have cx := ha.cell (i := 0) (by simp)
    have hsz : (x :: d).length ≤ 12 := Nat.le_trans hdl HL.out
    have hsort := List.pairwise_cons.1 HSo.out.1
    simp only [Nat.add_zero, show gd (x :: d) 0 = x from rfl] at cx
    unfold wv at cx
    simp only [List.length_cons] at ha hc hdl hsz
    unfold maxLen at hm
    by_cases hx : x = 0
    · subst hx
      have hmem' : ∀ y, y ∈ d ↔ y ∈ l ∧ y ≠ 0 := by
        intro y
        constructor
        · intro hy
          have := hsort.1 y hy
          exact ⟨(hmem y).1 (List.mem_cons_of_mem _ hy), by omega⟩
        · rintro ⟨hy, h0⟩
          rcases List.mem_cons.1 ((hmem y).2 hy) with h | h
          · exact absurd h h0
          · exact h
      have hcx : w3.cell? ⟨b, off, none⟩ = some (.int .u64 0) := cx
      by_cases hcap : cap = 1
      · subst hcap
        have hd0 : d = [] := List.eq_nil_of_length_eq_zero (by omega)
        subst hd0
        have ha0 : Adr w3 (.slice (some ⟨b, off, none⟩) 0 0) [] := by
          rcases ha with ⟨h0, _⟩ | ⟨b', o', c, cur, e, hr, h1, h2, h3, ht⟩
          · cases h0
          · cases e
            exact .inr ⟨b, off, 0, cur, rfl, hr, Nat.le_refl _, by unfold maxLen; omega, by omega, by simp⟩
        have HE := Lib.hid (show ∃ s, s.Nodup ∧ (∀ x, x ∈ s ↔ x ∈ l ∧ x ≠ 0) ∧ s.length ≤ l.length ∧ Made w s (.returned (.pointer (some ⟨w3.heap.size, 0, none⟩))) (w3.alloc (.cells #[.slice (some ⟨b, off, none⟩) 0 0] 145)) from
          ⟨[], List.nodup_nil, hmem', by simp, HMK.out _ _ ha0 (fun k h => h) List.Pairwise.nil⟩)
        clear ha HSo hmem hdl hnd hmk hsort hmem' ha0 cx hc hsz
        go_wp2
        go_ret
        exact HE.out
      · have hcap' : 1 < cap := by omega
        have HE := Lib.hid (show ∃ s, s.Nodup ∧ (∀ x, x ∈ s ↔ x ∈ l ∧ x ≠ 0) ∧ s.length ≤ l.length ∧ Made w s (.returned (.pointer (some ⟨w3.heap.size, 0, none⟩))) (w3.alloc (.cells #[.slice (some ⟨b, off + 1, none⟩) d.length (cap - 1)] 145)) from
          ⟨d, hsort.2.imp (fun h => Nat.ne_of_lt h), hmem', by omega, HMK.out _ _ ha.tail (fun k h => h) hsort.2⟩)
        clear ha HSo hmem hdl hnd hmk hsort hmem' cx
        simp only [List.length_cons]
        generalize d.length = n at *
        go_wp2
        go_ret
        exact HE.out
    · have hx0 : ((x : Int) == 0) = false := by rw [Bool.eq_false_iff]; intro h; have := beq_iff_eq.1 h; omega
      have hmem' : ∀ y, y ∈ x :: d ↔ y ∈ l ∧ y ≠ 0 := by
        intro y
        constructor
        · intro hy
          refine ⟨(hmem y).1 hy, ?_⟩
          rcases List.mem_cons.1 hy with h | h
          · omega
          · have := hsort.1 y h; omega
        · rintro ⟨hy, h0⟩
          exact (hmem y).2 hy
      have HE := Lib.hid (show ∃ s, s.Nodup ∧ (∀ x, x ∈ s ↔ x ∈ l ∧ x ≠ 0) ∧ s.length ≤ l.length ∧ Made w s (.returned (.pointer (some ⟨w3.heap.size, 0, none⟩))) (w3.alloc (.cells #[.slice (some ⟨b, off, none⟩) (d.length + 1) cap] 145)) from
        ⟨x :: d, hnd, hmem', hdl, HMK.out _ _ ha (fun k h => h) HSo.out.1⟩)
      clear ha HSo hmem hdl hnd hmk hsort hmem' hx
      simp only [List.length_cons]
      generalize d.length = n at *
      go_wp2
      go_ret
      exact HE.out
end Go.Proofs.YtahojhaeebmpoaaGreatDoor
