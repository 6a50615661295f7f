/- slices.Sort of any slice of addresses, of at most 10^9: what it leaves is rising, and the same elements. -/
import Derived.Test.YtpdnbojooelmfaaHList
import Derived.Test.YtpdnbojooelmfaaSrtJ
namespace Go.Proofs.Ytpdnbojooelmfaa
open Go.RowKit
set_option linter.unusedVariables false
theorem adr_sw {w : World} {h off cap : Nat} {l : List Nat} (hA : Adr w (.slice (some ⟨h, off, none⟩) l.length cap) l) : ∃ z, SwA w w h off z l.length l.toArray ∧ l.length ≤ cap ∧ cap ≤ maxLen ∧ off + cap ≤ z := by
  rcases hA with ⟨h0, _⟩ | ⟨b, o, c, cur, e, hr, h1, h2, h3, ht⟩
  · cases h0
  · cases e
    refine ⟨cur.size, ⟨⟨cur, hr, rfl, by omega, fun i hi => ?_⟩, by simp, But.refl _ _⟩, h1, h2, h3⟩
    rw [← Array.getElem?_toList, drop_get ht hi hi]
    rw [getElem!_pos l.toArray i (by simpa using hi)]
    simp [gd, hi, wv]
theorem sw_adr {w0 w : World} {h off z n cap : Nat} {d : Array Nat} (s : SwA w0 w h off z n d) (h1 : n ≤ cap) (h2 : cap ≤ maxLen) (h3 : off + cap ≤ z) : Adr w (.slice (some ⟨h, off, none⟩) n cap) d.toList := by
  obtain ⟨⟨cur, hr, hz, hn, hc⟩, hd, _⟩ := s
  refine .inr ⟨h, off, cap, cur, by simp [hd], hr, by simpa [hd] using h1, h2, by omega, ?_⟩
  apply List.ext_getElem?
  intro i
  simp only [Array.length_toList, hd]
  rw [List.getElem?_take, List.getElem?_map]
  by_cases hi : i < n
  · rw [if_pos hi, List.getElem?_drop, Array.getElem?_toList, hc i hi, List.getElem?_eq_getElem (by simpa [hd] using hi), nth_arr]
    rfl
  · rw [if_neg hi, List.getElem?_eq_none (by simp [hd]; omega)]
    rfl
theorem pdq_adr {w : World} {v : Value} {l : List Nat} (hA : Adr w v l) (hl : l.length ≤ 1000000000) :
    Calls Try.prog 34 #[v, .int .i64 0, .int .i64 (l.length : Int), .int .i64 (Lib.bitLen l.length : Int)] w (Sorts w v l) := by
  rcases Nat.eq_zero_or_pos l.length with h0 | h0
  · have e0 : l = [] := List.eq_nil_of_length_eq_zero h0
    subst e0
    obtain ⟨ad, cap, rfl⟩ := hA.shape
    refine (pdq_none w ad cap _).mono ?_
    rintro e w' ⟨rfl, rfl⟩
    exact ⟨rfl, [], hA, List.Perm.refl _, List.Pairwise.nil, But.refl _ _⟩
  · obtain ⟨h, off, cap, rfl, _, _⟩ := hA.pos h0
    obtain ⟨z, hS, h1, h2, h3⟩ := adr_sw hA
    have HP := pdq_all (l.length + 1) w h off z cap l.length l.toArray hS hl 0 l.length (Lib.bitLen l.length) (Nat.zero_le _) (Nat.le_refl _) (by have := bl_le l.length hl; omega) (Or.inl rfl) (by omega)
    refine HP.mono ?_
    rintro e w' ⟨he, d', hp, hs, hS'⟩
    have hd' := hS'.2.1
    refine ⟨he, d'.toList, sw_adr hS' h1 h2 h3, ?_, ?_, hS'.2.2.mono (fun k hk => by rw [hk]; rfl)⟩
    · obtain ⟨_, _, h3⟩ := hp
      rw [Array.extract_eq_self_of_le (by omega), Array.extract_eq_self_of_le (by simp)] at h3
      simpa using h3
    · rw [List.pairwise_iff_getElem]
      intro i j hi hj hij
      have := hs i j (Nat.zero_le _) hij (by simpa [hd'] using hj)
      simp only [ltN, decide_eq_false_iff_not] at this
      rw [nth_arr _ _ hi, nth_arr _ _ hj]
      omega
set_option maxRecDepth 100000 in
set_option maxHeartbeats 1000000 in
theorem sortA_adr {w : World} {v : Value} {l : List Nat} (hA : Adr w v l) (hl : l.length ≤ 1000000000) : Calls Try.prog 24 #[v] w (Sorts w v l) := by
  obtain ⟨ad, cap, rfl⟩ := hA.shape
  have HP := Lib.hid (pdq_adr hA hl)
  obtain ⟨n, hn⟩ : ∃ n, n = l.length := ⟨_, rfl⟩
  rw [← hn] at HP hl ⊢
  have HB := Any.bits_Len bitsLenL (n : Int) w (by omega) (by omega)
  rw [Int.toNat_natCast] at HB
  have HB := Lib.hid HB
  generalize Lib.bitLen n = q at *
  clear hn hA
  go_enter Try.func24, Try.ntmps24
  go_wp2_with fail
  refine HB.out.mono ?_
  rintro e w1 ⟨rfl, rfl⟩
  go_wp2_with fail
  refine HP.out.mono ?_
  intro e w2 hs
  have HE := Lib.hid hs
  obtain rfl : e = .returned (.tuple #[]) := hs.1
  clear hs
  go_wp2
  go_end0
  exact HE.out
set_option maxRecDepth 100000 in
set_option maxHeartbeats 1000000 in
theorem sortF_adr {w : World} {v : Value} {l : List Nat} (hA : Adr w v l) (hl : l.length ≤ 1000000000) : Calls Try.prog 31 #[v] w (Sorts w v l) := by
  obtain ⟨ad, cap, rfl⟩ := hA.shape
  have HP := Lib.hid (pdq_adr hA hl)
  obtain ⟨n, hn⟩ : ∃ n, n = l.length := ⟨_, rfl⟩
  rw [← hn] at HP hl ⊢
  have HB := Any.bits_Len bitsLenL (n : Int) w (by omega) (by omega)
  rw [Int.toNat_natCast] at HB
  have HB := Lib.hid HB
  generalize Lib.bitLen n = q at *
  clear hn hA
  go_enter Try.func31, Try.ntmps31
  go_wp2_with fail
  refine HB.out.mono ?_
  rintro e w1 ⟨rfl, rfl⟩
  go_wp2_with fail
  refine HP.out.mono ?_
  intro e w2 hs
  have HE := Lib.hid hs
  obtain rfl : e = .returned (.tuple #[]) := hs.1
  clear hs
  go_wp2
  go_end0
  exact HE.out
end Go.Proofs.Ytpdnbojooelmfaa
