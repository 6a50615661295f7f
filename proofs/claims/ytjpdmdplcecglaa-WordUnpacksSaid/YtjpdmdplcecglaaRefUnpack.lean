/- The document's own unpacking: the error, or the text that is so packed: for lists of at most a thousand words below 2^64. -/
import Derived.Test.YtjpdmdplcecglaaUnpack
namespace Go.Proofs.Ytjpdmdplcecglaa
open Go.RowKit
set_option linter.unusedVariables false
theorem first_not : ∀ l : List Nat, joinN l ≠ 0 → ∃ d, ∃ h : d < l.length, l[d] ≠ 0 ∧ ∀ i (hi : i < d), (l[i]'(by omega)) = 0
  | [], h => by simp [joinN] at h
  | b :: t, h => by
    by_cases hb : b = 0
    · subst hb
      simp only [joinN] at h
      obtain ⟨d, hd, h1, h2⟩ := first_not t (by omega)
      refine ⟨d + 1, by simp; omega, by simpa using h1, ?_⟩
      intro i hi
      cases i with
      | zero => rfl
      | succ i => simpa using h2 i (by omega)
    · exact ⟨0, by simp, by simpa using hb, fun i hi => absurd hi (by omega)⟩
set_option maxHeartbeats 800000 in
theorem refUnpack_ok (n : Nat) (t : List Nat) (a : Addr) (len cap : Nat) (w : World) (hlen : t.length + 1 = len) (hl : len ≤ 1000) (hn : n < 18446744073709551616) (hwd : Wrds t) (hs : Sl w (some a) ((n :: t).map wv)) (hcap : len ≤ cap)
    (h1 : n ≤ 8 * t.length) (h2 : 8 * t.length - n < 8) (hz : joinN ((spr t).drop n) = 0) :
    Calls Try.prog 28 #[.slice (some a) len cap] w fun e w' => e = .returned (.tuple #[.string (textOf n t), .int .i64 0]) ∧ Below w.heap.size w w' := by
  have hc0 := hs.some_ (i := 0) (by simp)
  simp only [List.map_cons, List.getElem_cons_zero, add_zero'] at hc0
  unfold wv at hc0
  have hst := fromA_sl hs 1 cap (by simp; omega)
  have hst' : Sl w (fromA a 1 cap) (t.map wv) := by simpa using hst
  have hf37 := from37 a len cap (by omega)
  obtain ⟨m, hm⟩ : ∃ m, m = t.length := ⟨_, rfl⟩
  have hl1 : len - 1 = m := by omega
  have hlm1 : m + 1 ≤ len := by omega
  have hlm2 : len ≤ m + 1 := by omega
  rw [← hm] at h1 h2
  rw [hl1] at hf37
  obtain ⟨A1, hA1⟩ : ∃ A1, A1 = fromA a 1 cap := ⟨_, rfl⟩
  rw [← hA1] at hst' hf37
  have HB := Lib.hid fun w hs => refBytes_any t A1 m (cap - 1) w hm.symm (by omega) hwd hs
  have hlenspr : (spr t).length = 8 * m := by rw [spr_length, hm]
  have hzero : ∀ q (h : q < (spr t).length), n ≤ q → (spr t)[q] = 0 := by
    intro q h hq
    refine (joinN_zero _).1 hz _ ?_
    rw [List.mem_iff_getElem]
    refine ⟨q - n, by rw [List.length_drop]; omega, ?_⟩
    rw [List.getElem_drop]
    congr 1
    omega
  obtain ⟨S, hS⟩ : ∃ S, S = textOf n t := ⟨_, rfl⟩
  rw [← hS]
  have HTX : Hid (strOf ((spr t).take n) = S) := Lib.hid hS.symm
  obtain ⟨X, hX⟩ : ∃ X, X = spr t := ⟨_, rfl⟩
  rw [← hX] at hlenspr HB HTX hzero
  have HZ := Lib.hid hzero
  have HLX := Lib.hid hlenspr
  have hx1 : X.length ≤ 8 * m := by omega
  have hx2 : 8 * m ≤ X.length := by omega
  clear hst hs hl1 hlen hA1 hm hS hX hzero hz hlenspr hwd
  have hne : ((len : Int) == 0) = false := by simp; omega
  go_enter Try.func28, Try.ntmps28
  go_wp2_with fail
  refine (HB.out _ hst').mono ?_
  rintro e w1 ⟨v, rfl, hown, hb1⟩
  obtain ⟨A2, c2, rfl, hc2, _, hsl, _⟩ := own_sl hown
  have hto := to28i A2 n (8 * m) c2 (by omega)
  have hsx : Sl w1 A2 ((X.take n).map bv) := by
    intro i u hu
    rw [List.map_take, List.getElem?_take] at hu
    split at hu
    · exact hsl i u hu
    · cases hu
  have hcv := conv_any n c2 (by rw [List.length_take]; omega) hsx (fun e => by
    subst e
    by_cases h0 : n = 0
    · exact h0
    · obtain ⟨a', e, _⟩ := hsl.at_ (i := 0) (by simp; omega)
      cases e)
  rw [HTX.out] at hcv
  clear hown hsx HB hf37 hst'
  go_wp2
  go_loop [7] (fun i => ∃ q : Nat, n ≤ q ∧ q ≤ 8 * m ∧ i = .int .i64 (q : Int)) (fun i => 8 * m - (intOf i).toNat)
  case atStart => exact ⟨n, by omega, h1, rfl⟩
  case round =>
    obtain ⟨q, hq1, hq2, rfl⟩ := hrel
    by_cases hlt : q < 8 * m
    · obtain ⟨b, rfl, hcb⟩ := hsl.at_ (i := q) (by simp; omega)
      rw [List.getElem_map, HZ.out q (by omega) hq1] at hcb
      unfold bv at hcb
      have h00 : (((0 : Nat) : Int) != 0) = false := rfl
      clear hto hcv
      go_wp2
      go_round
      case rel => exact ⟨q + 1, by omega, by omega, by go_num⟩
      case measure => simp [intOf]; omega
    · go_wp2
      go_ret2
      exact ⟨rfl, hb1⟩
set_option maxHeartbeats 800000 in
theorem refUnpack_bad (n : Nat) (t : List Nat) (a : Addr) (len cap : Nat) (w : World) (hlen : t.length + 1 = len) (hl : len ≤ 1000) (hn : n < 18446744073709551616) (hwd : Wrds t) (hs : Sl w (some a) ((n :: t).map wv)) (hcap : len ≤ cap)
    (h1 : n ≤ 8 * t.length) (h2 : 8 * t.length - n < 8) (hz : joinN ((spr t).drop n) ≠ 0) :
    Calls Try.prog 28 #[.slice (some a) len cap] w fun e w' => e = .returned (.tuple #[.string ⟨#[]⟩, .int .i64 11]) ∧ Below w.heap.size w w' := by
  have hc0 := hs.some_ (i := 0) (by simp)
  simp only [List.map_cons, List.getElem_cons_zero, add_zero'] at hc0
  unfold wv at hc0
  have hst := fromA_sl hs 1 cap (by simp; omega)
  have hst' : Sl w (fromA a 1 cap) (t.map wv) := by simpa using hst
  have hf37 := from37 a len cap (by omega)
  obtain ⟨m, hm⟩ : ∃ m, m = t.length := ⟨_, rfl⟩
  have hl1 : len - 1 = m := by omega
  have hlm1 : m + 1 ≤ len := by omega
  have hlm2 : len ≤ m + 1 := by omega
  rw [← hm] at h1 h2
  rw [hl1] at hf37
  obtain ⟨A1, hA1⟩ : ∃ A1, A1 = fromA a 1 cap := ⟨_, rfl⟩
  rw [← hA1] at hst' hf37
  have HB := Lib.hid fun w hs => refBytes_any t A1 m (cap - 1) w hm.symm (by omega) hwd hs
  have hlenspr : (spr t).length = 8 * m := by rw [spr_length, hm]
  obtain ⟨p, hp1, hp2, hp3, hzero⟩ : ∃ p, ∃ h : p < (spr t).length, n ≤ p ∧ (spr t)[p] ≠ 0 ∧ ∀ q (_ : q < p), n ≤ q → (spr t)[q] = 0 := by
    obtain ⟨d, hd, e1, e2⟩ := first_not _ hz
    rw [List.length_drop] at hd
    refine ⟨n + d, by omega, by omega, ?_, ?_⟩
    · rw [List.getElem_drop] at e1
      exact e1
    · intro q hq hnq
      have e3 := e2 (q - n) (by omega)
      rw [List.getElem_drop] at e3
      rw [← e3]
      congr 1
      omega
  obtain ⟨X, hX⟩ : ∃ X, X = spr t := ⟨_, rfl⟩
  obtain ⟨Y, hY⟩ : ∃ Y, Y = (spr t)[p] := ⟨_, rfl⟩
  rw [← hY] at hp3
  have hget : (spr t)[p]? = some Y := by rw [hY]; exact List.getElem?_eq_getElem hp1
  have hzz : ∀ q, q < p → n ≤ q → (spr t)[q]? = some 0 := by
    intro q h1 h2
    rw [List.getElem?_eq_getElem (by omega), hzero q h1 h2]
  clear hzero hY
  rw [← hX] at hlenspr HB hget hzz hp1
  have HZ := Lib.hid hzz
  have HG := Lib.hid hget
  have hpm : p < 8 * m := by omega
  have HLX := Lib.hid hlenspr
  have hx1 : X.length ≤ 8 * m := by omega
  have hx2 : 8 * m ≤ X.length := by omega
  clear hst hs hl1 hlen hA1 hm hX hzz hz hlenspr hwd hget hp1
  have hne : ((len : Int) == 0) = false := by simp; omega
  go_enter Try.func28, Try.ntmps28
  go_wp2_with fail
  refine (HB.out _ hst').mono ?_
  rintro e w1 ⟨v, rfl, hown, hb1⟩
  obtain ⟨A2, c2, rfl, hc2, _, hsl, _⟩ := own_sl hown
  clear hown HB hf37 hst'
  go_wp2
  go_loop [7] (fun i => ∃ q : Nat, n ≤ q ∧ q ≤ p ∧ i = .int .i64 (q : Int)) (fun i => 8 * m - (intOf i).toNat)
  case atStart => exact ⟨n, by omega, hp2, rfl⟩
  case round =>
    obtain ⟨q, hq1, hq2, rfl⟩ := hrel
    have hq8 : q < 8 * m := by omega
    have hcq : ∃ b, A2 = some b ∧ w1.cell? (b.add q) = (X.map bv)[q]? := by
      obtain ⟨b, e, hcb⟩ := hsl.at_ (i := q) (by simp; omega)
      exact ⟨b, e, by rw [hcb, List.getElem?_eq_getElem]⟩
    obtain ⟨b, rfl, hcb⟩ := hcq
    rw [List.getElem?_map] at hcb
    by_cases hlt : q < p
    · rw [HZ.out q hlt hq1] at hcb
      simp only [Option.map_some] at hcb
      unfold bv at hcb
      have h00 : (((0 : Nat) : Int) != 0) = false := rfl
      go_wp2
      go_round
      case rel => exact ⟨q + 1, by omega, by omega, by go_num⟩
      case measure => simp [intOf]; omega
    · have hqp : q = p := by omega
      subst hqp
      rw [HG.out] at hcb
      simp only [Option.map_some] at hcb
      unfold bv at hcb
      have hyy : ((Y : Int) != 0) = true := by rw [bne_iff_ne]; omega
      go_wp2
      go_ret2
      exact ⟨rfl, hb1⟩
end Go.Proofs.Ytjpdmdplcecglaa
