/- slices.Contains of addresses; rise, unlike, May: of any node; without conditions. -/
import Derived.Test.YtaegaeljakdffaaDoorN8Same
import Derived.Test.YtaegaeljakdffaaDoorQLoad
namespace Go.Proofs.YtaegaeljakdffaaDoor
open Go.RowKit
set_option linter.unusedVariables false
/-- A slice of addresses that reads as a list. -/
def AdsAt (w : World) (v : Value) (l : List Int) : Prop :=
  ∃ A cap, v = .slice A l.length cap ∧ (0 < l.length → ∃ g o, A = some ⟨g, o, none⟩ ∧ ∀ i x, l[i]? = some x → w.cell? ⟨g, o + i, none⟩ = some (uw x))
set_option maxRecDepth 100000 in
set_option maxHeartbeats 1600000 in
theorem indexA_any {w : World} {g o cap : Nat} {l : List Int} (hc : ∀ i x, l[i]? = some x → w.cell? ⟨g, o + i, none⟩ = some (uw x)) (hl : l.length ≤ 1000) (x : Int) :
    Calls Tryd.prog 56 #[.slice (some ⟨g, o, none⟩) l.length cap, .int .u64 x] w fun e w' => (∃ r : Int, e = .returned (.int .i64 r) ∧ (0 ≤ r ↔ x ∈ l)) ∧ w' = w := by
  obtain ⟨n, hn⟩ : ∃ n, n = l.length := ⟨_, rfl⟩
  have HC := Lib.hid (fun k (hk : k < n) => hc k _ (show l[k]? = some (l.getD k 0) by rw [List.getD_eq_getElem?_getD, List.getElem?_eq_getElem (by omega)]; rfl))
  have HM := Lib.hid (fun k (hk : k < n) => (show l.getD k 0 ∈ l by rw [List.getD_eq_getElem?_getD, List.getElem?_eq_getElem (by omega)]; exact List.getElem_mem _))
  have HN := Lib.hid (fun (h : ∀ j, j < n → l.getD j 0 ≠ x) => (show ¬ x ∈ l by
    intro hx
    obtain ⟨j, hj, e⟩ := List.getElem_of_mem hx
    refine h j (by omega) ?_
    rw [List.getD_eq_getElem?_getD, List.getElem?_eq_getElem hj]
    exact e))
  rw [← hn] at hl ⊢
  clear hc hn
  go_enter Tryd.func56, Tryd.ntmps56
  go_wp2
  go_loopw [8] (fun i wr => ∃ k : Nat, k ≤ n ∧ i = .int .i64 (k : Int) ∧ (∀ j, j < k → l.getD j 0 ≠ x) ∧ wr = w) (fun i _ => n - (intOf i).toNat)
  case atStart => exact ⟨0, by omega, rfl, fun j hj => by omega, rfl⟩
  case round =>
    obtain ⟨k, hk, rfl, ht, rfl⟩ := hrel
    have HT := Lib.hid ht
    clear ht
    by_cases hlt : k < n
    · have c := HC.out k hlt
      obtain ⟨y, hy⟩ : ∃ y, y = l.getD k 0 := ⟨_, rfl⟩
      rw [← hy] at c
      have HYd := Lib.hid hy
      clear hy
      unfold uw at c
      obtain rfl | hne : x = y ∨ x ≠ y := by omega
      · go_wp2
        go_ret
        refine ⟨⟨(k : Int), rfl, fun _ => ?_, fun _ => by omega⟩, rfl⟩
        have := HM.out k hlt
        rwa [← HYd.out] at this
      · go_wp2
        refine ⟨⟨k + 1, by omega, by go_num, fun j hj => ?_, by trivial⟩, by simp [intOf]; omega⟩
        rcases Nat.lt_or_ge j k with h1 | h1
        · exact HT.out j h1
        · obtain rfl : j = k := by omega
          rw [← HYd.out]
          exact fun e => hne e.symm
    · obtain rfl : k = n := by omega
      go_wp2
      go_ret
      exact ⟨⟨-1, rfl, fun h => absurd h (by decide), fun h => absurd h (HN.out fun j hj => HT.out j hj)⟩, rfl⟩
theorem contains_any {w : World} {g o cap : Nat} {l : List Int} (hc : ∀ i x, l[i]? = some x → w.cell? ⟨g, o + i, none⟩ = some (uw x)) (hl : l.length ≤ 1000) (x : Int) :
    Calls Tryd.prog 48 #[.slice (some ⟨g, o, none⟩) l.length cap, .int .u64 x] w fun e w' => e = .returned (.bool (decide (x ∈ l))) ∧ w' = w := by
  have HI := Lib.hid (indexA_any (cap := cap) hc hl x)
  obtain ⟨b, hb⟩ : ∃ b, b = decide (x ∈ l) := ⟨_, rfl⟩
  rw [← hb]
  have HBd := Lib.hid hb
  clear hb hc
  generalize l.length = n at *
  go_enter Tryd.func48, Tryd.ntmps48
  go_wp2_with (go_at_call 56; refine HI.out.mono ?_; rintro e w' ⟨⟨r, rfl, hr⟩, rfl⟩)
  go_ret
  refine ⟨?_, rfl⟩
  rw [HBd.out]
  simp only [← hr]
  rfl
end Go.Proofs.YtaegaeljakdffaaDoor
