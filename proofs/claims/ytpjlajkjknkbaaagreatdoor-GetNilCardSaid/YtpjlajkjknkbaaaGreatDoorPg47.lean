/- Texts of this claim, packed: VSm. -/
import Derived.Test.YtpjlajkjknkbaaaGreatDoorPg46
import Derived.Test.YtpjlajkjknkbaaaGreatDoorPg04
import Derived.Test.YtpjlajkjknkbaaaGreatDoorPg03
/- How many words a value has, where a word stands, of which class a value is, and the text that words are; by the program and by the document's own answers; for any numbers, where geo.rooms holds what its initialiser lays. -/
namespace Go.Proofs.YtpjlajkjknkbaaaGreatDoor
open Go.RowKit Go.Sort Go.Shelf
set_option linter.unusedVariables false

/-- How many words a value of n bytes has; of which n is told. -/
def vw (n : Int) : Int := if 0 ≤ n ∧ n ≤ 120 then 1 + (n + 7) / 8 else 0
def cnt (n : Nat) : Nat := if n ≤ 120 then 1 + (n + 7) / 8 else 0
theorem cnt_le (n : Nat) : cnt n ≤ 16 := by unfold cnt; split <;> omega
theorem cnt_yes {n : Nat} (h : n ≤ 120) : cnt n = 1 + (n + 7) / 8 := if_pos h
theorem cnt_no {n : Nat} (h : ¬ n ≤ 120) : cnt n = 0 := if_neg h
theorem vw_cnt (n : Nat) : vw (n : Int) = (cnt n : Int) := by
  unfold vw cnt
  by_cases h : n ≤ 120
  · rw [if_pos (by omega), if_pos h]; omega
  · rw [if_neg (by omega), if_neg h]; rfl
theorem vWords_any (n : Int) (w : World) : Calls Tryz.prog 104 #[.int .i64 n] w fun e w' => e = .returned (.int .i64 (vw n)) ∧ w = w' := by
  by_cases h : 0 ≤ n ∧ n ≤ 120
  · rw [show vw n = 1 + (n + 7) / 8 from if_pos h]
    obtain ⟨h0, h1⟩ := h
    have d1 : decide (n < 0) = false := by simp; omega
    have d2 : decide (120 < n) = false := by simp; omega
    go_enter Tryz.func104, Tryz.ntmps104
    go_wp2
    go_ret
    exact ⟨gret_int (by omega), rfl⟩
  · rw [show vw n = 0 from if_neg h]
    by_cases h0 : n < 0
    · have d1 : decide (n < 0) = true := by simp; omega
      clear h
      go_enter Tryz.func104, Tryz.ntmps104
      go_wp2
      go_ret
      exact ⟨rfl, rfl⟩
    · have d1 : decide (n < 0) = false := by simp; omega
      have d2 : decide (120 < n) = true := by simp; omega
      clear h
      go_enter Tryz.func104, Tryz.ntmps104
      go_wp2
      go_ret
      exact ⟨rfl, rfl⟩
theorem vcount_any (n : Nat) (w : World) : Calls Tryz.prog 68 #[.int .u64 (n : Int)] w fun e w' => e = .returned (.int .i64 (cnt n : Int)) ∧ w = w' := by
  by_cases h : n ≤ 120
  · have HW := Lib.hid (vWords_any (n : Int) w)
    rw [vw_cnt] at HW
    have d : decide (120 < (n : Int)) = false := by simp; omega
    have d2 : decide (120 < n) = false := by simp; omega
    obtain ⟨c, hc⟩ : ∃ c, c = cnt n := ⟨_, rfl⟩
    rw [← hc] at HW ⊢
    clear hc
    go_enter Tryz.func68, Tryz.ntmps68
    go_wp2_with fail
    refine HW.out.mono ?_
    rintro e w1 ⟨rfl, rfl⟩
    go_wp2
    go_ret
    exact ⟨rfl, rfl⟩
  · rw [cnt_no h]
    have d : decide (120 < (n : Int)) = true := by simp; omega
    have d2 : decide (120 < n) = true := by simp; omega
    go_enter Tryz.func68, Tryz.ntmps68
    go_wp2
    go_ret
    exact ⟨rfl, rfl⟩
theorem vwordAt_any (b k : Nat) (w : World) (h : b + 8 * k < 18446744073709551616) : Calls Tryz.prog 103 #[.int .u64 (b : Int), .int .i64 (k : Int)] w fun e w' => e = .returned (.int .u64 ((b + 8 * k : Nat) : Int)) ∧ w = w' := by
  have h1 : (b : Int) + k * 8 ≤ 18446744073709551615 := by omega
  have h2 : (k : Int) * 8 ≤ 18446744073709551615 := by omega
  have h3 : (k : Int) ≤ 18446744073709551615 := by omega
  clear h
  go_enter Tryz.func103, Tryz.ntmps103
  go_wp2
  go_ret
  exact ⟨gret_int (by omega), rfl⟩
/-- The text that a length and the words behind it are; why there is none. -/
def rdS (n : Nat) (t : List Nat) : ByteArray := if joinN ((spr t).drop n) = 0 then textOf n t else ⟨#[]⟩
def rdK (n : Nat) (t : List Nat) : Int := if joinN ((spr t).drop n) = 0 then 0 else 11
theorem unpack12 (n : Nat) (t : List Nat) (a : Addr) (len cap : Nat) (w : World) (hlen : t.length + 1 = len) (hn : n ≤ 120) (ht : len = cnt n) (hc : len ≤ cap) (hcm : cap ≤ maxLen) (hwd : Wrds t) (hs : Sl w (some a) ((n :: t).map wv)) :
    Calls Tryz.prog 125 #[.slice (some a) len cap] w fun e w' => e = .returned (.tuple #[.string (rdS n t), .int .i64 (rdK n t)]) ∧ Below w.heap.size w w' := by
  rw [cnt_yes hn] at ht
  unfold rdS rdK
  by_cases h : joinN ((spr t).drop n) = 0
  · rw [if_pos h, if_pos h]
    exact unpack_ok n t a len cap w hlen (by omega) hc hcm (by omega) hwd hs (by omega) (by omega) h
  · rw [if_neg h, if_neg h]
    exact unpack_bad n t a len cap w hlen (by omega) hc hcm (by omega) hwd hs (by omega) (by omega) h
theorem cutW (a : Addr) (n c k : Nat) (h : k ≤ c) (W : World) : (Instr.slice 57 (.slice (some a) n c) none (some (.int .i64 (k : Int))) (some (.int .i64 (k : Int)))).run Tryz.prog W = .ok (.slice (some a) k k) W := by
  rw [run_slice_hm (w := W) 57 (some a) n c under37 .i64 .i64 k k (by omega) (by omega) (by omega), size_37]
  simp [sliced, add_zero']
/-- The text of words of which there are enough. -/
theorem vtext_any (n : Nat) (t u : List Nat) (a : Addr) (len cap : Nat) (w : World) (hlen : t.length + u.length + 1 = len) (hn : n ≤ 120) (ht : t.length + 1 = cnt n) (hc : len ≤ cap) (hcm : cap ≤ maxLen) (hwd : Wrds t) (hs : Sl w (some a) ((n :: t ++ u).map wv)) :
    Calls Tryz.prog 105 #[.slice (some a) len cap] w fun e w' => e = .returned (.tuple #[.string (rdS n t), .int .i64 (rdK n t)]) ∧ Below w.heap.size w w' := by
  have hc0 := hs.some_ (i := 0) (by simp)
  simp only [List.map_cons, List.cons_append, List.getElem_cons_zero, add_zero'] at hc0
  unfold wv at hc0
  have hs' : Sl w (some a) ((n :: t).map wv) := by
    intro i x hx
    exact hs i x (by
      rw [List.map_append, List.getElem?_append_left]
      · exact hx
      · exact (List.getElem?_eq_some_iff.1 hx).1)
  have HU := Lib.hid (unpack12 n t a (cnt n) (cnt n) w ht hn rfl (Nat.le_refl _) (by have := cnt_le n; unfold maxLen; omega) hwd hs')
  have HC := Lib.hid (vcount_any n w)
  have hk : cnt n ≤ cap := by omega
  have hl0 : 0 < len := by omega
  obtain ⟨k, hk'⟩ : ∃ k, k = cnt n := ⟨_, rfl⟩
  rw [← hk'] at HU HC hk
  obtain ⟨S, hS⟩ : ∃ S, S = rdS n t := ⟨_, rfl⟩
  obtain ⟨K, hK⟩ : ∃ K, K = rdK n t := ⟨_, rfl⟩
  rw [← hS, ← hK] at HU ⊢
  have q := fun W => cutW a len cap k hk W
  have HQ := Lib.hid q
  clear hk' hS hK hs hs' hlen ht hwd hk q
  unfold maxLen at hcm
  go_enter Tryz.func105, Tryz.ntmps105
  go_wp2_with fail
  refine HC.out.mono ?_
  rintro e w1 ⟨rfl, rfl⟩
  have q := HQ.out
  go_wp2_with fail
  refine HU.out.mono ?_
  rintro e w1 ⟨rfl, hb⟩
  have HB := Lib.hid hb
  clear hb q
  go_wp2
  go_ret2
  exact ⟨rfl, HB.out⟩
end Go.Proofs.YtpjlajkjknkbaaaGreatDoor
