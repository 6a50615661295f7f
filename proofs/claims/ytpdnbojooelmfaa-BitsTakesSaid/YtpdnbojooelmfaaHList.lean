/- slices.Sort of at most twelve addresses, slices.Clone, Compact and IndexFunc of addresses: what each leaves and answers; at most 10^9 addresses. -/
import Derived.Test.YtpdnbojooelmfaaHSort
import Derived.Test.YtpdnbojooelmfaaHLay
namespace Go.Proofs.Ytpdnbojooelmfaa
open Go.RowKit
set_option linter.unusedVariables false
theorem Adr.shape {w : World} {v : Value} {l : List Nat} (hA : Adr w v l) : ∃ ad cap, v = .slice ad l.length cap := by
  rcases hA with ⟨rfl, rfl⟩ | ⟨b, off, cap, cur, rfl, _⟩
  · exact ⟨none, 0, rfl⟩
  · exact ⟨some ⟨b, off, none⟩, cap, rfl⟩
set_option maxRecDepth 100000 in
set_option maxHeartbeats 1000000 in
theorem sortA_few {w : World} {v : Value} {l : List Nat} (hA : Adr w v l) (hl : l.length ≤ 12) : Calls Try.prog 24 #[v] w (Sorts w v l) := by
  obtain ⟨ad, cap, rfl⟩ := hA.shape
  have HP := Lib.hid (pdq_few hA hl)
  obtain ⟨n, hn⟩ : ∃ n, n = l.length := ⟨_, rfl⟩
  rw [← hn] at HP hl ⊢
  have HB := Lib.hid (Any.bits_Len bitsLenL (n : Int) w (by omega) (by omega))
  clear hn hA
  go_enter Try.func24, Try.ntmps24
  go_wp2_with fail
  refine HB.out.mono ?_
  rintro e w1 ⟨rfl, rfl⟩
  go_wp2_with fail
  refine (HP.out _).mono ?_
  intro e w2 hs
  have HE := Lib.hid hs
  obtain rfl : e = .returned (.tuple #[]) := hs.1
  clear hs
  go_wp2
  go_end0
  exact HE.out
set_option maxRecDepth 100000 in
set_option maxHeartbeats 1000000 in
theorem sortF_few {w : World} {v : Value} {l : List Nat} (hA : Adr w v l) (hl : l.length ≤ 12) : Calls Try.prog 31 #[v] w (Sorts w v l) := by
  obtain ⟨ad, cap, rfl⟩ := hA.shape
  have HP := Lib.hid (pdq_few hA hl)
  obtain ⟨n, hn⟩ : ∃ n, n = l.length := ⟨_, rfl⟩
  rw [← hn] at HP hl ⊢
  have HB := Lib.hid (Any.bits_Len bitsLenL (n : Int) w (by omega) (by omega))
  clear hn hA
  go_enter Try.func31, Try.ntmps31
  go_wp2_with fail
  refine HB.out.mono ?_
  rintro e w1 ⟨rfl, rfl⟩
  go_wp2_with fail
  refine (HP.out _).mono ?_
  intro e w2 hs
  have HE := Lib.hid hs
  obtain rfl : e = .returned (.tuple #[]) := hs.1
  clear hs
  go_wp2
  go_end0
  exact HE.out
/-- What a clone answers: a slice in new memory that reads the same. -/
def Cloned (w : World) (l : List Nat) (e : Ending) (w' : World) : Prop := ∃ v, e = .returned v ∧ Adr w' v l ∧ (∀ k, v.ownBlock = some k → w.heap.size ≤ k) ∧ Below w.heap.size w w'
theorem clone_of {f : FuncId} (h0 : ∀ (n c : Nat) (w : World), Calls Try.prog f #[.slice none n c] w fun e w' => e = .returned (.slice none 0 0) ∧ w' = w)
    (h1 : ∀ (b off n c : Nat) (news : List Value) (w : World) (hl : news.length = n * 1) (hn : n ≤ maxLen) (hbig : n * 8 ≤ 140737488355328) (hc : ∀ j u, news[j]? = some u → w.cell? ⟨b, off + j, none⟩ = some u) (h1 : ∀ u ∈ news, u.oneCell' = true),
      Calls Try.prog f #[.slice (some ⟨b, off, none⟩) n c] w fun e w' => ∃ v', e = .returned v' ∧ w'.ownsRow w.heap.size 32 1 v' n news ∧ v' ≠ .slice none 0 0 ∧ Below w.heap.size w w')
    {w : World} {v : Value} {l : List Nat} (hA : Adr w v l) (hl : l.length ≤ 1000000001) : Calls Try.prog f #[v] w (Cloned w l) := by
  rcases hA with ⟨rfl, rfl⟩ | ⟨b, off, cap, cur, rfl, hr, hlc, hcm, hfit, htk⟩
  · refine (h0 0 0 w).mono ?_
    rintro e w' ⟨rfl, rfl⟩
    exact ⟨_, rfl, .inl ⟨rfl, rfl⟩, (fun k hk => by cases hk), Below.refl _ _⟩
  · refine (h1 b off l.length cap (l.map wv) w (by simp) (by unfold maxLen; omega) (by omega) ?_ (wv_ones l)).mono ?_
    · intro j u hu
      have hj : j < l.length := by have := (List.getElem?_eq_some_iff.1 hu).1; simpa using this
      rw [hr.cell, ← Array.getElem?_toList, drop_get htk hj hj, ← hu, List.getElem?_map, gd_eq hj]
      rfl
    · rintro e w' ⟨v', rfl, ho, _, hb⟩
      obtain ⟨ha, hk⟩ := Adr.of_own ho
      exact ⟨v', rfl, ha, hk, hb⟩
theorem sizeA (w : World) : (Go.sizeOf 32).run Try.prog w = .ok 1 w := by kernel_rfl
theorem cloneA_any {w : World} {v : Value} {l : List Nat} (hA : Adr w v l) (hl : l.length ≤ 1000000001) : Calls Try.prog 23 #[v] w (Cloned w l) := by
  obtain ⟨i0, hi, hz0, hz1, hz2⟩ := info_parts infoA
  exact clone_of (fun n c w => AnyE.slices_Clone_nil cloneA n c w) (fun b off n c news w hl hn hbig hc h1 => AnyE.slices_Clone cloneA i0 _ 1 8 hi hz0 hz1 hz2 rfl (by decide) sizeA b off n c news w hl hn hbig hc h1) hA hl
theorem cloneF_any {w : World} {v : Value} {l : List Nat} (hA : Adr w v l) (hl : l.length ≤ 1000000001) : Calls Try.prog 30 #[v] w (Cloned w l) := by
  obtain ⟨i0, hi, hz0, hz1, hz2⟩ := info_parts infoA
  exact clone_of (fun n c w => AnyE.slices_Clone_nil cloneF n c w) (fun b off n c news w hl hn hbig hc h1 => AnyE.slices_Clone cloneF i0 _ 1 8 hi hz0 hz1 hz2 rfl (by decide) sizeA b off n c news w hl hn hbig hc h1) hA hl
end Go.Proofs.Ytpdnbojooelmfaa
