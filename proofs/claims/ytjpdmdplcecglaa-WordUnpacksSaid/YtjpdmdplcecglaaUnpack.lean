/- Unpack: the error, or the text that is so packed, by the program and by the document: for lists of at most a million words below 2^64. -/
import Derived.Test.YtjpdmdplcecglaaUnp
import Derived.Test.YtjpdmdplcecglaaCutB
namespace Go.Proofs.Ytjpdmdplcecglaa
open Go.RowKit
set_option linter.unusedVariables false
theorem size_28 (w : World) : (sizeOf (Try.prog.elem 28)).run Try.prog w = .ok 1 w := by kernel_rfl
theorem size_37 (w : World) : (sizeOf (Try.prog.elem 37)).run Try.prog w = .ok 1 w := by kernel_rfl
theorem under28 : Try.prog.underlying 28 = some (.slice (Try.prog.elem 28)) := by kernel_rfl
theorem under37 : Try.prog.underlying 37 = some (.slice (Try.prog.elem 37)) := by kernel_rfl
/-- What is left of a slice from a place on. -/
def fromA (a : Addr) (k c : Nat) : Option Addr := if c = k then some a else some (a.add k)
theorem from37 (a : Addr) (n c : Nat) (h : 1 ≤ n) (W : World) : (Instr.slice 37 (.slice (some a) n c) (some (.int .i64 1)) none none).run Try.prog W = .ok (.slice (fromA a 1 c) (n - 1) (c - 1)) W := by
  rw [run_slice_l (w := W) 37 (some a) n c under37 .i64 1 (by omega) (by omega), size_37]
  simp [Result.andThen, sliced, fromA]
theorem add_zero' (a : Addr) : a.add 0 = a := by unfold Addr.add; simp
theorem from28 (a : Addr) (k c : Nat) (h : k ≤ c) (W : World) : (Instr.slice 28 (.slice (some a) c c) (some (.int .u64 (k : Int))) none none).run Try.prog W = .ok (.slice (fromA a k c) (c - k) (c - k)) W := by
  rw [run_slice_l (w := W) 28 (some a) c c under28 .u64 k (by omega) (by omega), size_28]
  simp [Result.andThen, sliced, fromA]
theorem to28 (a : Addr) (k c : Nat) (h : k ≤ c) (W : World) : (Instr.slice 28 (.slice (some a) c c) none (some (.int .u64 (k : Int))) (some (.int .u64 (k : Int)))).run Try.prog W = .ok (.slice (some a) k k) W := by
  rw [run_slice_hm (w := W) 28 (some a) c c under28 .u64 .u64 k k (by omega) (by omega) (by omega), size_28]
  simp [Result.andThen, sliced, add_zero']
theorem to28i (A : Option Addr) (k n c : Nat) (h : k ≤ c) (W : World) : (Instr.slice 28 (.slice A n c) none (some (.int .i64 (k : Int))) none).run Try.prog W = .ok (.slice A k c) W := by
  rw [run_slice_h (w := W) 28 A n c under28 .i64 k (by omega) (by omega), size_28]
  cases A <;> simp [Result.andThen, sliced, add_zero']
theorem fromA_sl {w : World} {a : Addr} {xs : List Value} (h : Sl w (some a) xs) (k c : Nat) (hc : xs.length ≤ c) : Sl w (fromA a k c) (xs.drop k) := by
  unfold fromA
  split
  · rw [List.drop_of_length_le (by omega)]
    intro i u hu
    simp at hu
  · have := h.sub k (xs.length - k)
    rwa [List.take_of_length_le (by rw [List.length_drop]; omega)] at this
set_option maxHeartbeats 800000 in
theorem unpack_ok (n : Nat) (t : List Nat) (a : Addr) (len cap : Nat) (w : World) (hlen : t.length + 1 = len) (hl : len ≤ 1000) (hc : len ≤ cap) (hcm : cap ≤ maxLen) (hn : n < 18446744073709551616) (hwd : Wrds t) (hs : Sl w (some a) ((n :: t).map wv))
    (h1 : n ≤ 8 * t.length) (h2 : 8 * t.length - n < 8) (hz : joinN ((spr t).drop n) = 0) :
    Calls Try.prog 26 #[.slice (some a) len cap] w fun e w' => e = .returned (.tuple #[.string (textOf n t), .int .i64 0]) ∧ Below w.heap.size w w' := by
  unfold maxLen at hcm
  have hc0 := hs.some_ (i := 0) (by simp)
  simp only [List.map_cons, List.getElem_cons_zero, add_zero'] at hc0
  unfold wv at hc0
  have hst := fromA_sl hs 1 cap (by simp; omega)
  have hst' : Sl w (fromA a 1 cap) (t.map wv) := by simpa using hst
  have hf37 := from37 a len cap (by omega)
  obtain ⟨m, hm⟩ : ∃ m, m = t.length := ⟨_, rfl⟩
  have hl1 : len - 1 = m := by omega
  have hlm1 : m + 1 ≤ len := by omega
  have hlm2 : len ≤ m + 1 := by omega
  rw [← hm] at h1 h2
  rw [hl1] at hf37
  obtain ⟨A1, hA1⟩ : ∃ A1, A1 = fromA a 1 cap := ⟨_, rfl⟩
  rw [← hA1] at hst' hf37
  have HB := Lib.hid fun w hs => bytes_any t A1 m (cap - 1) w hm.symm (by omega) hs
  have hlenspr : (spr t).length = 8 * m := by rw [spr_length, hm]
  have hsb := spr_byts t
  obtain ⟨S, hS⟩ : ∃ S, S = textOf n t := ⟨_, rfl⟩
  rw [← hS]
  have HTX : Hid (strOf ((spr t).take n) = S) := Lib.hid hS.symm
  clear hst hs hl1 hlen hA1 hm hS
  have hne : ((len : Int) == 0) = false := by simp; omega
  go_enter Try.func26, Try.ntmps26
  go_wp2_with fail
  refine (HB.out _ hst').mono ?_
  rintro e w1 ⟨rfl, hown, hb1⟩
  have hsl : Sl w1 (some ⟨w.heap.size, 0, none⟩) ((spr t).map bv) := fun i u hu => ⟨_, rfl, hown.cells rfl i u hu⟩
  obtain ⟨g, hg⟩ : ∃ g, g = w.heap.size := ⟨_, rfl⟩
  rw [← hg] at hsl hown ⊢
  have hsd := fromA_sl hsl n (8 * m) (by rw [List.length_map, hlenspr]; exact Nat.le_refl _)
  rw [← List.map_drop] at hsd
  have hf28 := from28 ⟨g, 0, none⟩ n (8 * m) h1
  have ht28 := to28 ⟨g, 0, none⟩ n (8 * m) h1
  obtain ⟨A2, hA2⟩ : ∃ A2, A2 = fromA ⟨g, 0, none⟩ n (8 * m) := ⟨_, rfl⟩
  rw [← hA2] at hsd hf28
  have hj := join_any ((spr t).drop n) A2 (8 * m - n) (8 * m - n) w1 (fun b h => hsb b (List.mem_of_mem_drop h)) (by rw [List.length_drop, hlenspr]) (by omega) hsd
  have hst2 := hsl.sub 0 n
  rw [add_zero', List.drop_zero, ← List.map_take] at hst2
  have hcv := conv_sl n n (by rw [List.length_take, hlenspr]; omega) hst2
  rw [HTX.out] at hcv
  rw [hz] at hj
  have HJ := Lib.hid hj
  clear hj hst2 hA2 hg hsl hsd hown HB hf37 hst'
  go_wp2_with fail
  refine HJ.out.mono ?_
  rintro e w2 ⟨rfl, rfl⟩
  go_wp2
  go_ret2
  exact ⟨rfl, hb1⟩
set_option maxHeartbeats 800000 in
theorem unpack_bad (n : Nat) (t : List Nat) (a : Addr) (len cap : Nat) (w : World) (hlen : t.length + 1 = len) (hl : len ≤ 1000) (hc : len ≤ cap) (hcm : cap ≤ maxLen) (hn : n < 18446744073709551616) (hwd : Wrds t) (hs : Sl w (some a) ((n :: t).map wv))
    (h1 : n ≤ 8 * t.length) (h2 : 8 * t.length - n < 8) (hz : joinN ((spr t).drop n) ≠ 0) :
    Calls Try.prog 26 #[.slice (some a) len cap] w fun e w' => e = .returned (.tuple #[.string ⟨#[]⟩, .int .i64 11]) ∧ Below w.heap.size w w' := by
  unfold maxLen at hcm
  have hc0 := hs.some_ (i := 0) (by simp)
  simp only [List.map_cons, List.getElem_cons_zero, add_zero'] at hc0
  unfold wv at hc0
  have hst := fromA_sl hs 1 cap (by simp; omega)
  have hst' : Sl w (fromA a 1 cap) (t.map wv) := by simpa using hst
  have hf37 := from37 a len cap (by omega)
  obtain ⟨m, hm⟩ : ∃ m, m = t.length := ⟨_, rfl⟩
  have hl1 : len - 1 = m := by omega
  have hlm1 : m + 1 ≤ len := by omega
  have hlm2 : len ≤ m + 1 := by omega
  rw [← hm] at h1 h2
  rw [hl1] at hf37
  obtain ⟨A1, hA1⟩ : ∃ A1, A1 = fromA a 1 cap := ⟨_, rfl⟩
  rw [← hA1] at hst' hf37
  have HB := Lib.hid fun w hs => bytes_any t A1 m (cap - 1) w hm.symm (by omega) hs
  have hlenspr : (spr t).length = 8 * m := by rw [spr_length, hm]
  have hsb := spr_byts t
  clear hst hs hl1 hlen hA1 hm
  have hne : ((len : Int) == 0) = false := by simp; omega
  go_enter Try.func26, Try.ntmps26
  go_wp2_with fail
  refine (HB.out _ hst').mono ?_
  rintro e w1 ⟨rfl, hown, hb1⟩
  have hsl : Sl w1 (some ⟨w.heap.size, 0, none⟩) ((spr t).map bv) := fun i u hu => ⟨_, rfl, hown.cells rfl i u hu⟩
  obtain ⟨g, hg⟩ : ∃ g, g = w.heap.size := ⟨_, rfl⟩
  rw [← hg] at hsl hown ⊢
  have hsd := fromA_sl hsl n (8 * m) (by rw [List.length_map, hlenspr]; exact Nat.le_refl _)
  rw [← List.map_drop] at hsd
  have hf28 := from28 ⟨g, 0, none⟩ n (8 * m) h1
  have ht28 := to28 ⟨g, 0, none⟩ n (8 * m) h1
  obtain ⟨A2, hA2⟩ : ∃ A2, A2 = fromA ⟨g, 0, none⟩ n (8 * m) := ⟨_, rfl⟩
  rw [← hA2] at hsd hf28
  have hj := join_any ((spr t).drop n) A2 (8 * m - n) (8 * m - n) w1 (fun b h => hsb b (List.mem_of_mem_drop h)) (by rw [List.length_drop, hlenspr]) (by omega) hsd
  obtain ⟨Q, hQ⟩ : ∃ Q, Q = joinN ((spr t).drop n) := ⟨_, rfl⟩
  rw [← hQ] at hj hz
  have hq : ((Q : Int) != 0) = true := by rw [bne_iff_ne]; omega
  have HJ := Lib.hid hj
  clear hj hA2 hQ hg hsl hsd hown HB hf37 hst'
  go_wp2_with fail
  refine HJ.out.mono ?_
  rintro e w2 ⟨rfl, rfl⟩
  go_wp2
  go_ret2
  exact ⟨rfl, hb1⟩
set_option maxHeartbeats 400000 in
theorem unpack_nil (A : Option Addr) (cap : Nat) (w : World) :
    Calls Try.prog 26 #[.slice A 0 cap] w fun e w' => e = .returned (.tuple #[.string ⟨#[]⟩, .int .i64 11]) ∧ Below w.heap.size w w' := by
  go_enter Try.func26, Try.ntmps26
  go_wp2
  go_ret2
  exact ⟨rfl, Below.refl _ _⟩
set_option maxHeartbeats 400000 in
theorem unpack_room (n m : Nat) (a : Addr) (len cap : Nat) (w : World) (hlen : m + 1 = len) (hl : len ≤ 1000) (hn : n < 18446744073709551616) (hc : w.cell? a = some (wv n))
    (h : 8 * m < n ∨ 8 ≤ 8 * m - n) :
    Calls Try.prog 26 #[.slice (some a) len cap] w fun e w' => e = .returned (.tuple #[.string ⟨#[]⟩, .int .i64 11]) ∧ Below w.heap.size w w' := by
  unfold wv at hc
  have hne : ((len : Int) == 0) = false := by simp; omega
  by_cases h1 : 8 * m < n
  · have h2 : ((len : Int) - 1) * 8 < (n : Int) := by omega
    go_enter Try.func26, Try.ntmps26
    go_wp2
    go_ret2
    exact ⟨rfl, Below.refl _ _⟩
  · have h2 : (n : Int) ≤ ((len : Int) - 1) * 8 := by omega
    have h3 : 8 ≤ ((len : Int) - 1) * 8 - (n : Int) := by omega
    go_enter Try.func26, Try.ntmps26
    go_wp2
    go_ret2
    exact ⟨rfl, Below.refl _ _⟩
set_option maxHeartbeats 400000 in
theorem refUnpack_nil (A : Option Addr) (cap : Nat) (w : World) :
    Calls Try.prog 28 #[.slice A 0 cap] w fun e w' => e = .returned (.tuple #[.string ⟨#[]⟩, .int .i64 11]) ∧ Below w.heap.size w w' := by
  go_enter Try.func28, Try.ntmps28
  go_wp2
  go_ret2
  exact ⟨rfl, Below.refl _ _⟩
set_option maxHeartbeats 400000 in
theorem refUnpack_room (n m : Nat) (a : Addr) (len cap : Nat) (w : World) (hlen : m + 1 = len) (hl : len ≤ 1000) (hn : n < 18446744073709551616) (hc : w.cell? a = some (wv n))
    (h : 8 * m < n ∨ 8 ≤ 8 * m - n) :
    Calls Try.prog 28 #[.slice (some a) len cap] w fun e w' => e = .returned (.tuple #[.string ⟨#[]⟩, .int .i64 11]) ∧ Below w.heap.size w w' := by
  unfold wv at hc
  have hne : ((len : Int) == 0) = false := by simp; omega
  by_cases h1 : 8 * m < n
  · have h2 : ((len : Int) - 1) * 8 < (n : Int) := by omega
    go_enter Try.func28, Try.ntmps28
    go_wp2
    go_ret2
    exact ⟨rfl, Below.refl _ _⟩
  · have h2 : (n : Int) ≤ ((len : Int) - 1) * 8 := by omega
    have h3 : 8 ≤ ((len : Int) - 1) * 8 - (n : Int) := by omega
    go_enter Try.func28, Try.ntmps28
    go_wp2
    go_ret2
    exact ⟨rfl, Below.refl _ _⟩
end Go.Proofs.Ytjpdmdplcecglaa
