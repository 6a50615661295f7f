/- slices.Clone of any slice of addresses that can be read, an argument's too; NewFree of it. -/
import Derived.Test.YtpdnbojooelmfaaHNewB
import Derived.Lib.SliceRun
namespace Go.Proofs.Ytpdnbojooelmfaa
open Go.RowKit
set_option linter.unusedVariables false
/-- v is a slice that reads as l, wherever it lies. -/
def RdA (w : World) (v : Value) (l : List Nat) : Prop := (v = .slice none 0 0 ∧ l = []) ∨ ∃ x c, v = .slice (some x) l.length c ∧ ∀ j a, l[j]? = some a → w.cell? (x.add j) = some (wv a)
theorem RdA.below {w w' : World} {v : Value} {l : List Nat} (h : RdA w v l) (hb : Below w.heap.size w w') : RdA w' v l := by
  rcases h with h | ⟨x, c, h1, h2⟩
  · exact .inl h
  · exact .inr ⟨x, c, h1, fun j a ha => (hb.cell (w.block_lt_of_cell? _ (h2 j a ha))).trans (h2 j a ha)⟩
theorem RdA.cell {w : World} {A : Option Addr} {n c : Nat} {l : List Nat} (h : RdA w (.slice A n c) l) {j : Nat} (hj : j < l.length) : ∃ x, A = some x ∧ n = l.length ∧ w.cell? (x.add j) = some (wv (gd l j)) := by
  rcases h with ⟨_, h0⟩ | ⟨x, c', h1, h2⟩
  · rw [h0] at hj; simp at hj
  · injection h1 with e1 e2 _
    exact ⟨x, e1, e2, h2 j _ (by rw [List.getElem?_eq_getElem hj]; simp [gd, hj])⟩
set_option maxRecDepth 100000 in
set_option maxHeartbeats 2000000 in
theorem cloneA_rd {w : World} {v : Value} {l : List Nat} (hA : RdA w v l) (hl : l.length ≤ 1000000001) : Calls Try.prog 23 #[v] w (Cloned w l) := by
  rcases hA with ⟨rfl, rfl⟩ | ⟨x, c, rfl, hc⟩
  · exact cloneA_any (.inl ⟨rfl, rfl⟩) (by simp)
  · obtain ⟨i0, hi, hz0, hz1, hz2⟩ := info_parts infoA
    have q22 : ∀ (w : World) (a : Option Addr) (n c n' c' : Nat), (binOp .eql 22 (.slice a n c) (.slice none n' c')).run Try.prog w = .ok (.bool a.isNone) w := fun w a n c n' c' => Lib.run_eql_slice_nil w _ _ a n c n' c' Try.underlying22
    obtain ⟨n, hn⟩ : ∃ n, n = l.length := ⟨_, rfl⟩
    obtain ⟨news, hnews⟩ : ∃ news, news = l.map wv := ⟨_, rfl⟩
    have HC := Lib.hid (show ∀ j u, news[j]? = some u → w.cell? (x.add j) = some u from fun j u hu => by
      rw [hnews, List.getElem?_map] at hu
      cases e : l[j]? with
      | none => rw [e] at hu; cases hu
      | some a => rw [e] at hu; cases hu; exact hc j a e)
    have hl1 : news.length = n * 1 := by rw [hnews, hn]; simp
    have h1 : ∀ u ∈ news, u.oneCell' = true := by rw [hnews]; exact wv_ones l
    have HN := Lib.hid (And.intro hn hnews)
    rw [← hn] at hl ⊢
    clear hc hn hnews
    go_enter Try.func23, Try.ntmps23
    go_wp2_with (at_builtin; refine wpList_append_own _ rfl _ _ 22 rfl w.heap.size 32 i0 _ 1 8 Try.underlying22 hi hz0 hz1 hz2 rfl (by decide) _ _ _ rfl (World.ownsRow_made w #[] 0 (Nat.le_refl _) (Nat.zero_le _) (by simp)) x n c news rfl ?qc1 ?qc2 ?qc3 ?qc4 ?qc5 ?qc6 ?_)
    case qc1 => exact hl1
    case qc2 =>
      intro j u hj
      exact Lib.cell?_alloc_some _ (HC.out j u hj)
    case qc3 => exact h1
    case qc4 => rw [Nat.zero_add]; unfold maxLen; omega
    case qc5 => rw [Nat.zero_add]; omega
    case qc6 => simp
    intro v' w1 hown hgrow hnil
    have HE := Lib.hid (show Cloned w l (.returned v') w1 from by
      have ho : w1.ownsRow w.heap.size 32 1 v' n (l.map wv) := by rw [← HN.out.2]; simpa using hown
      obtain ⟨ha, hk⟩ := Adr.of_own ho
      exact ⟨v', rfl, ha, hk, ((Below.refl _ w).alloc (Nat.le_refl _) _).grown hgrow (by simp) (by intro k hk; simp [Value.ownBlock] at hk; omega)⟩)
    clear hown hgrow hnil
    go_wp2
    go_ret
    exact HE.out
set_option maxRecDepth 100000 in
set_option maxHeartbeats 2000000 in
theorem newFree_rd {w : World} {v : Value} {l : List Nat} (hA : RdA w v l) (hl : l.length ≤ 1000000000) :
    Calls Try.prog 6 #[v] w fun e w' => ∃ s, s.Nodup ∧ (∀ x, x ∈ s ↔ x ∈ l ∧ x ≠ 0) ∧ s.length ≤ l.length ∧ Made w s e w' := by
  have HC := Lib.hid (cloneA_rd hA (by omega))
  have HL := Lib.hid hl
  clear hA hl
  go_enter Try.func6, Try.ntmps6
  go_wp2_with fail
  refine HC.out.mono ?_
  rintro e w1 ⟨v1, rfl, ha, hk, hb⟩
  have HS := Lib.hid (sortA_adr ha HL.out)
  have HK := Lib.hid hk
  have HB := Lib.hid hb
  clear ha hk hb
  go_wp2_with fail
  refine HS.out.mono ?_
  rintro e w2 ⟨rfl, l', ha, hp', hs, hbt⟩
  have HP := Lib.hid hp'
  have HSo := Lib.hid (ddp_of hs)
  have HB2 := Lib.hid (HB.out.trans (hbt.below HB.out.size HK.out))
  have HCo := Lib.hid (compact_any ha (by have := hp'.length_eq; have := HL.out; omega))
  clear ha hp' hs hbt
  go_wp2_with fail
  refine HCo.out.mono ?_
  rintro e w3 ⟨v3, rfl, ha, hk3, hbt⟩
  have HK3 := Lib.hid (fun k h => HK.out k (hk3 k h))
  have HB3 := Lib.hid (HB2.out.trans (hbt.below HB2.out.size HK.out))
  clear hbt hk3
  obtain ⟨d, hd⟩ : ∃ d, d = ddp l' := ⟨_, rfl⟩
  rw [← hd] at ha HSo
  clear hd
  have hmem : ∀ x, x ∈ d ↔ x ∈ l := fun x => (HSo.out.2.1 x).trans HP.out.mem_iff
  have hdl : d.length ≤ l.length := Nat.le_trans HSo.out.2.2 (by rw [HP.out.length_eq]; exact Nat.le_refl _)
  have hnd : d.Nodup := HSo.out.1.imp (fun h => Nat.ne_of_lt h)
  have hmk : ∀ v4 s, Adr w3 v4 s → (∀ k, v4.ownBlock = some k → v3.ownBlock = some k) → s.Pairwise (· < ·) → Made w s (.returned (.pointer (some ⟨w3.heap.size, 0, none⟩))) (w3.alloc (.cells #[v4] 53)) :=
    fun v4 s ha hk hs => made_of ha (fun k h => HK3.out k (hk k h)) HB3.out (heap_sorted hs) (List.Perm.refl _)
  have HMK := Lib.hid hmk
  rcases d with _ | ⟨x, d⟩
  · obtain ⟨ad, cap, rfl⟩ := ha.shape
    have HE := Lib.hid (show ∃ s, s.Nodup ∧ (∀ x, x ∈ s ↔ x ∈ l ∧ x ≠ 0) ∧ s.length ≤ l.length ∧ Made w s (.returned (.pointer (some ⟨w3.heap.size, 0, none⟩))) (w3.alloc (.cells #[.slice ad 0 cap] 53)) from
      ⟨[], hnd, fun x => ⟨fun h => by simp at h, fun h => (hmem x).2 h.1⟩, hdl, HMK.out _ _ ha (fun k h => h) List.Pairwise.nil⟩)
    clear ha HSo hmem hdl hnd hmk
    go_wp2
    go_ret
    exact HE.out
  · obtain ⟨b, off, cap, rfl, hc, hm⟩ := ha.pos (by simp)
    have cx := ha.cell (i := 0) (by simp)
    have hsz : (x :: d).length ≤ 1000000000 := Nat.le_trans hdl HL.out
    have hsort := List.pairwise_cons.1 HSo.out.1
    simp only [Nat.add_zero, show gd (x :: d) 0 = x from rfl] at cx
    unfold wv at cx
    simp only [List.length_cons] at ha hc hdl hsz
    unfold maxLen at hm
    by_cases hx : x = 0
    · subst hx
      have hmem' : ∀ y, y ∈ d ↔ y ∈ l ∧ y ≠ 0 := by
        intro y
        constructor
        · intro hy
          have := hsort.1 y hy
          exact ⟨(hmem y).1 (List.mem_cons_of_mem _ hy), by omega⟩
        · rintro ⟨hy, h0⟩
          rcases List.mem_cons.1 ((hmem y).2 hy) with h | h
          · exact absurd h h0
          · exact h
      have hcx : w3.cell? ⟨b, off, none⟩ = some (.int .u64 0) := cx
      by_cases hcap : cap = 1
      · subst hcap
        have hd0 : d = [] := List.eq_nil_of_length_eq_zero (by omega)
        subst hd0
        have ha0 : Adr w3 (.slice (some ⟨b, off, none⟩) 0 0) [] := by
          rcases ha with ⟨h0, _⟩ | ⟨b', o', c, cur, e, hr, h1, h2, h3, ht⟩
          · cases h0
          · cases e
            exact .inr ⟨b, off, 0, cur, rfl, hr, Nat.le_refl _, by unfold maxLen; omega, by omega, by simp⟩
        have HE := Lib.hid (show ∃ s, s.Nodup ∧ (∀ x, x ∈ s ↔ x ∈ l ∧ x ≠ 0) ∧ s.length ≤ l.length ∧ Made w s (.returned (.pointer (some ⟨w3.heap.size, 0, none⟩))) (w3.alloc (.cells #[.slice (some ⟨b, off, none⟩) 0 0] 53)) from
          ⟨[], List.nodup_nil, hmem', by simp, HMK.out _ _ ha0 (fun k h => h) List.Pairwise.nil⟩)
        clear ha HSo hmem hdl hnd hmk hsort hmem' ha0 cx hc hsz
        go_wp2
        go_ret
        exact HE.out
      · have hcap' : 1 < cap := by omega
        have HE := Lib.hid (show ∃ s, s.Nodup ∧ (∀ x, x ∈ s ↔ x ∈ l ∧ x ≠ 0) ∧ s.length ≤ l.length ∧ Made w s (.returned (.pointer (some ⟨w3.heap.size, 0, none⟩))) (w3.alloc (.cells #[.slice (some ⟨b, off + 1, none⟩) d.length (cap - 1)] 53)) from
          ⟨d, hsort.2.imp (fun h => Nat.ne_of_lt h), hmem', by omega, HMK.out _ _ ha.tail (fun k h => h) hsort.2⟩)
        clear ha HSo hmem hdl hnd hmk hsort hmem' cx
        simp only [List.length_cons]
        generalize d.length = n at *
        go_wp2
        go_ret
        exact HE.out
    · have hx0 : ((x : Int) == 0) = false := by rw [Bool.eq_false_iff]; intro h; have := beq_iff_eq.1 h; omega
      have hmem' : ∀ y, y ∈ x :: d ↔ y ∈ l ∧ y ≠ 0 := by
        intro y
        constructor
        · intro hy
          refine ⟨(hmem y).1 hy, ?_⟩
          rcases List.mem_cons.1 hy with h | h
          · omega
          · have := hsort.1 y h; omega
        · rintro ⟨hy, h0⟩
          exact (hmem y).2 hy
      have HE := Lib.hid (show ∃ s, s.Nodup ∧ (∀ x, x ∈ s ↔ x ∈ l ∧ x ≠ 0) ∧ s.length ≤ l.length ∧ Made w s (.returned (.pointer (some ⟨w3.heap.size, 0, none⟩))) (w3.alloc (.cells #[.slice (some ⟨b, off, none⟩) (d.length + 1) cap] 53)) from
        ⟨x :: d, hnd, hmem', hdl, HMK.out _ _ ha (fun k h => h) HSo.out.1⟩)
      clear ha HSo hmem hdl hnd hmk hsort hmem' hx
      simp only [List.length_cons]
      generalize d.length = n at *
      go_wp2
      go_ret
      exact HE.out
end Go.Proofs.Ytpdnbojooelmfaa
