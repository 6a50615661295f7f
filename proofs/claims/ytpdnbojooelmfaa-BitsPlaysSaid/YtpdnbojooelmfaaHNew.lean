/- Copy, All and NewFree of a set: what each answers; All and NewFree of at most twelve addresses, Copy of at most 10^9. -/
import Derived.Test.YtpdnbojooelmfaaHPut
namespace Go.Proofs.Ytpdnbojooelmfaa
open Go.RowKit
set_option linter.unusedVariables false
theorem all_nil (w : World) : Calls Try.prog 14 #[.pointer none] w fun e w' => e = .returned (.slice none 0 0) ∧ w = w' := by
  go_enter Try.func14, Try.ntmps14
  go_wp2
  go_ret
  exact ⟨rfl, rfl⟩
/-- What All answers: the set's addresses, rising, in new memory. -/
def Listed (w : World) (s : List Nat) (e : Ending) (w' : World) : Prop := ∃ v l, e = .returned v ∧ Adr w' v l ∧ l.Perm s ∧ l.Pairwise (· ≤ ·) ∧ (∀ k, v.ownBlock = some k → w.heap.size ≤ k) ∧ Below w.heap.size w w'
set_option maxRecDepth 100000 in
theorem all_few {w : World} {g : Nat} {v : Value} {s : List Nat} (hS : SetAt w g s v) (hl : s.length ≤ 12) : Calls Try.prog 14 #[.pointer (some ⟨g, 0, none⟩)] w (Listed w s) := by
  obtain ⟨l, hF, hhp, hp⟩ := hS
  have hlen := hp.length_eq
  have c0 := hF.cell
  have HC := Lib.hid (cloneF_any hF.2.1 (by omega))
  have HP := Lib.hid hp
  have HL := Lib.hid (show l.length ≤ 12 by omega)
  clear hF hhp hp hlen hl
  go_enter Try.func14, Try.ntmps14
  go_wp2_with fail
  refine HC.out.mono ?_
  rintro e w1 ⟨v1, rfl, ha, hk, hb⟩
  have HS := Lib.hid (sortF_few ha HL.out)
  have HK := Lib.hid hk
  have HB := Lib.hid hb
  clear ha hk hb
  go_wp2_with fail
  refine HS.out.mono ?_
  rintro e w2 ⟨rfl, l', ha, hp', hs, hbt⟩
  have HE := Lib.hid (show Listed w s (.returned v1) w2 from ⟨v1, l', rfl, ha, hp'.trans HP.out, hs, HK.out, HB.out.trans (hbt.below HB.out.size HK.out)⟩)
  clear ha hp' hs hbt
  go_wp2
  go_ret
  exact HE.out
theorem copy_nil (w : World) : Calls Try.prog 13 #[.pointer none] w fun e w' => e = .returned (.pointer none) ∧ w = w' := by
  go_enter Try.func13, Try.ntmps13
  go_wp2
  go_ret
  exact ⟨rfl, rfl⟩
/-- A new set of the addresses s, in new memory. -/
def Made (w : World) (s : List Nat) (e : Ending) (w' : World) : Prop := ∃ g v, e = .returned (.pointer (some ⟨g, 0, none⟩)) ∧ SetAt w' g s v ∧ (∀ k, ffp g v k → w.heap.size ≤ k) ∧ Below w.heap.size w w'
theorem made_of {w W : World} {v : Value} {l s : List Nat} (ha : Adr W v l) (hk : ∀ k, v.ownBlock = some k → w.heap.size ≤ k) (hb : Below w.heap.size w W) (hh : HeapP l l.length) (hp : l.Perm s) : Made w s (.returned (.pointer (some ⟨W.heap.size, 0, none⟩))) (W.alloc (.cells #[v] 53)) := by
  refine ⟨_, v, rfl, ⟨l, ⟨Row.new W 53 #[v], ha.below (alloc_below _ _), fun e => ?_⟩, hh, hp⟩, fun k hk' => ?_, hb.trans ((alloc_below W _).mono hb.size)⟩
  · have := ha.lt e; omega
  · rcases hk' with rfl | h
    · exact hb.size
    · exact hk k h
set_option maxRecDepth 100000 in
theorem copy_any {w : World} {g : Nat} {v : Value} {s : List Nat} (hS : SetAt w g s v) (hl : s.length ≤ 1000000000) : Calls Try.prog 13 #[.pointer (some ⟨g, 0, none⟩)] w (Made w s) := by
  obtain ⟨l, hF, hhp, hp⟩ := hS
  have hlen := hp.length_eq
  have c0 := hF.cell
  have HC := Lib.hid (cloneF_any hF.2.1 (by omega))
  have HP := Lib.hid hp
  have HH := Lib.hid hhp
  clear hF hhp hp hlen hl
  go_enter Try.func13, Try.ntmps13
  go_wp2_with fail
  refine HC.out.mono ?_
  rintro e w1 ⟨v1, rfl, ha, hk, hb⟩
  obtain ⟨ad, cap, rfl⟩ := ha.shape
  have HE := Lib.hid (made_of ha hk hb HH.out HP.out)
  clear ha hk hb HH HC c0
  generalize l.length = n at *
  go_wp2
  go_ret
  exact HE.out
theorem heap_sorted {l : List Nat} (h : l.Pairwise (· < ·)) : HeapP l l.length := by
  intro i h0 hi
  have := List.pairwise_iff_getElem.1 h ((i - 1) / 2) i (by omega) hi (by omega)
  have e1 : gd l ((i - 1) / 2) = l[(i - 1) / 2] := by simp [gd, show (i - 1) / 2 < l.length by omega]
  have e2 : gd l i = l[i] := by simp [gd, hi]
  omega
theorem Adr.tail {w : World} {b off cap : Nat} {x : Nat} {l : List Nat} (ha : Adr w (.slice (some ⟨b, off, none⟩) (l.length + 1) cap) (x :: l)) : Adr w (.slice (some ⟨b, off + 1, none⟩) l.length (cap - 1)) l := by
  rcases ha with ⟨h0, _⟩ | ⟨b', o', c, cur, e, hr, h1, h2, h3, ht⟩
  · cases h0
  · cases e
    simp only [List.length_cons] at h1 ht
    refine .inr ⟨b, off + 1, cap - 1, cur, rfl, hr, by omega, by omega, by omega, ?_⟩
    apply List.ext_getElem?
    intro k
    rw [List.getElem?_take, List.getElem?_map]
    by_cases hk : k < l.length
    · have := drop_get (l := x :: l) (i := k + 1) ht (by simp; omega) (by omega)
      rw [if_pos hk, List.getElem?_drop, show off + 1 + k = off + (k + 1) by omega, this, gd_eq hk]
      simp [gd]
    · rw [if_neg hk, List.getElem?_eq_none (by omega)]
      rfl
/-- The set of a list: each address once, without 0. -/
def setOf (l : List Nat) : List Nat := if 0 ∈ l then l.erase 0 else l
set_option maxRecDepth 100000 in
set_option maxHeartbeats 2000000 in
theorem newFree_few {w : World} {v : Value} {l : List Nat} (hA : Adr w v l) (hl : l.length ≤ 12) :
    Calls Try.prog 6 #[v] w fun e w' => ∃ s, s.Nodup ∧ (∀ x, x ∈ s ↔ x ∈ l ∧ x ≠ 0) ∧ s.length ≤ l.length ∧ Made w s e w' := by
  have HC := Lib.hid (cloneA_any hA (by omega))
  have HL := Lib.hid hl
  clear hA hl
  go_enter Try.func6, Try.ntmps6
  go_wp2_with fail
  refine HC.out.mono ?_
  rintro e w1 ⟨v1, rfl, ha, hk, hb⟩
  have HS := Lib.hid (sortA_few ha HL.out)
  have HK := Lib.hid hk
  have HB := Lib.hid hb
  clear ha hk hb
  go_wp2_with fail
  refine HS.out.mono ?_
  rintro e w2 ⟨rfl, l', ha, hp', hs, hbt⟩
  have HP := Lib.hid hp'
  have HSo := Lib.hid (ddp_of hs)
  have HB2 := Lib.hid (HB.out.trans (hbt.below HB.out.size HK.out))
  have HCo := Lib.hid (compact_any ha (by have := hp'.length_eq; have := HL.out; omega))
  clear ha hp' hs hbt
  go_wp2_with fail
  refine HCo.out.mono ?_
  rintro e w3 ⟨v3, rfl, ha, hk3, hbt⟩
  have HK3 := Lib.hid (fun k h => HK.out k (hk3 k h))
  have HB3 := Lib.hid (HB2.out.trans (hbt.below HB2.out.size HK.out))
  clear hbt hk3
  obtain ⟨d, hd⟩ : ∃ d, d = ddp l' := ⟨_, rfl⟩
  rw [← hd] at ha HSo
  clear hd
  have hmem : ∀ x, x ∈ d ↔ x ∈ l := fun x => (HSo.out.2.1 x).trans HP.out.mem_iff
  have hdl : d.length ≤ l.length := Nat.le_trans HSo.out.2.2 (by rw [HP.out.length_eq]; exact Nat.le_refl _)
  have hnd : d.Nodup := HSo.out.1.imp (fun h => Nat.ne_of_lt h)
  have hmk : ∀ v4 s, Adr w3 v4 s → (∀ k, v4.ownBlock = some k → v3.ownBlock = some k) → s.Pairwise (· < ·) → Made w s (.returned (.pointer (some ⟨w3.heap.size, 0, none⟩))) (w3.alloc (.cells #[v4] 53)) :=
    fun v4 s ha hk hs => made_of ha (fun k h => HK3.out k (hk k h)) HB3.out (heap_sorted hs) (List.Perm.refl _)
  have HMK := Lib.hid hmk
  rcases d with _ | ⟨x, d⟩
  · obtain ⟨ad, cap, rfl⟩ := ha.shape
    have HE := Lib.hid (show ∃ s, s.Nodup ∧ (∀ x, x ∈ s ↔ x ∈ l ∧ x ≠ 0) ∧ s.length ≤ l.length ∧ Made w s (.returned (.pointer (some ⟨w3.heap.size, 0, none⟩))) (w3.alloc (.cells #[.slice ad 0 cap] 53)) from
      ⟨[], hnd, fun x => ⟨fun h => by simp at h, fun h => (hmem x).2 h.1⟩, hdl, HMK.out _ _ ha (fun k h => h) List.Pairwise.nil⟩)
    clear ha HSo hmem hdl hnd hmk
    go_wp2
    go_ret
    exact HE.out
  · obtain ⟨b, off, cap, rfl, hc, hm⟩ := ha.pos (by simp)
    have cx := ha.cell (i := 0) (by simp)
    have hsz : (x :: d).length ≤ 12 := Nat.le_trans hdl HL.out
    have hsort := List.pairwise_cons.1 HSo.out.1
    simp only [Nat.add_zero, show gd (x :: d) 0 = x from rfl] at cx
    unfold wv at cx
    simp only [List.length_cons] at ha hc hdl hsz
    unfold maxLen at hm
    by_cases hx : x = 0
    · subst hx
      have hmem' : ∀ y, y ∈ d ↔ y ∈ l ∧ y ≠ 0 := by
        intro y
        constructor
        · intro hy
          have := hsort.1 y hy
          exact ⟨(hmem y).1 (List.mem_cons_of_mem _ hy), by omega⟩
        · rintro ⟨hy, h0⟩
          rcases List.mem_cons.1 ((hmem y).2 hy) with h | h
          · exact absurd h h0
          · exact h
      have hcx : w3.cell? ⟨b, off, none⟩ = some (.int .u64 0) := cx
      by_cases hcap : cap = 1
      · subst hcap
        have hd0 : d = [] := List.eq_nil_of_length_eq_zero (by omega)
        subst hd0
        have ha0 : Adr w3 (.slice (some ⟨b, off, none⟩) 0 0) [] := by
          rcases ha with ⟨h0, _⟩ | ⟨b', o', c, cur, e, hr, h1, h2, h3, ht⟩
          · cases h0
          · cases e
            exact .inr ⟨b, off, 0, cur, rfl, hr, Nat.le_refl _, by unfold maxLen; omega, by omega, by simp⟩
        have HE := Lib.hid (show ∃ s, s.Nodup ∧ (∀ x, x ∈ s ↔ x ∈ l ∧ x ≠ 0) ∧ s.length ≤ l.length ∧ Made w s (.returned (.pointer (some ⟨w3.heap.size, 0, none⟩))) (w3.alloc (.cells #[.slice (some ⟨b, off, none⟩) 0 0] 53)) from
          ⟨[], List.nodup_nil, hmem', by simp, HMK.out _ _ ha0 (fun k h => h) List.Pairwise.nil⟩)
        clear ha HSo hmem hdl hnd hmk hsort hmem' ha0 cx hc hsz
        go_wp2
        go_ret
        exact HE.out
      · have hcap' : 1 < cap := by omega
        have HE := Lib.hid (show ∃ s, s.Nodup ∧ (∀ x, x ∈ s ↔ x ∈ l ∧ x ≠ 0) ∧ s.length ≤ l.length ∧ Made w s (.returned (.pointer (some ⟨w3.heap.size, 0, none⟩))) (w3.alloc (.cells #[.slice (some ⟨b, off + 1, none⟩) d.length (cap - 1)] 53)) from
          ⟨d, hsort.2.imp (fun h => Nat.ne_of_lt h), hmem', by omega, HMK.out _ _ ha.tail (fun k h => h) hsort.2⟩)
        clear ha HSo hmem hdl hnd hmk hsort hmem' cx
        simp only [List.length_cons]
        generalize d.length = n at *
        go_wp2
        go_ret
        exact HE.out
    · have hx0 : ((x : Int) == 0) = false := by rw [Bool.eq_false_iff]; intro h; have := beq_iff_eq.1 h; omega
      have hmem' : ∀ y, y ∈ x :: d ↔ y ∈ l ∧ y ≠ 0 := by
        intro y
        constructor
        · intro hy
          refine ⟨(hmem y).1 hy, ?_⟩
          rcases List.mem_cons.1 hy with h | h
          · omega
          · have := hsort.1 y h; omega
        · rintro ⟨hy, h0⟩
          exact (hmem y).2 hy
      have HE := Lib.hid (show ∃ s, s.Nodup ∧ (∀ x, x ∈ s ↔ x ∈ l ∧ x ≠ 0) ∧ s.length ≤ l.length ∧ Made w s (.returned (.pointer (some ⟨w3.heap.size, 0, none⟩))) (w3.alloc (.cells #[.slice (some ⟨b, off, none⟩) (d.length + 1) cap] 53)) from
        ⟨x :: d, hnd, hmem', hdl, HMK.out _ _ ha (fun k h => h) HSo.out.1⟩)
      clear ha HSo hmem hdl hnd hmk hsort hmem' hx
      simp only [List.length_cons]
      generalize d.length = n at *
      go_wp2
      go_ret
      exact HE.out
end Go.Proofs.Ytpdnbojooelmfaa
