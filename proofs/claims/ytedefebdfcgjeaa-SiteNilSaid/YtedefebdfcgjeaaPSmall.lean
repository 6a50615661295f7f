/- The memory's small functions: none, isClient, lineOf, Size, refused, kept: what each answers; the world stays. For nil, for a zero memory, and for one that is there. -/
import Derived.Test.YtedefebdfcgjeaaPSt
namespace Go.Proofs.Ytedefebdfcgjeaa
open Go.RowKit
set_option linter.unusedVariables false

theorem ret_int {k : IntKind} {a b : Int} (h : a = b) : Ending.returned (.int k a) = .returned (.int k b) := by rw [h]
/-- A pointer to no memory: nil, or a zero one. -/
def NoMem (w : World) (p : Option Addr) : Prop := p = none ∨ ∃ g, p = some ⟨g, 0, none⟩ ∧ Row w g 55 #[.slice none 0 0, .slice none 0 0, .slice none 0 0, .map none, wv 0, wv 0, wv 0, wv 0]
theorem NoMem.below {w w' : World} {p : Option Addr} (h : NoMem w p) (hb : Below w.heap.size w w') : NoMem w' p := by
  rcases h with h | ⟨g, h, hr⟩
  · exact .inl h
  · exact .inr ⟨g, h, hr.below hb hr.lt⟩

theorem none_no {p : Option Addr} {w : World} (h : NoMem w p) : Calls Try.prog 26 #[.pointer p] w fun e w' => e = .returned (.bool true) ∧ w = w' := by
  rcases h with rfl | ⟨g, rfl, hr⟩
  · go_enter Try.func26, Try.ntmps26
    go_wp2
    go_ret
    exact ⟨rfl, rfl⟩
  · have h1 := hr.cell 1
    simp only [List.getElem?_toArray, List.getElem?_cons_succ, List.getElem?_cons_zero] at h1
    go_enter Try.func26, Try.ntmps26
    go_wp2
    go_ret
    exact ⟨rfl, rfl⟩
theorem none_yes {w : World} {y : Lay} {s : St} (h : MemAt w y s) : Calls Try.prog 26 #[.pointer (some ⟨y.g, 0, none⟩)] w fun e w' => e = .returned (.bool false) ∧ w = w' := by
  have h1 := h.row.cell 1
  simp only [List.getElem?_toArray, List.getElem?_cons_succ, List.getElem?_cons_zero] at h1
  have hp := h.pos
  have hm := h.most
  obtain ⟨N, hN⟩ : ∃ N, N = 8 * s.nl := ⟨_, rfl⟩
  rw [← hN] at h1
  have hn : ((N : Int) == 0) = false := by
    rw [Bool.eq_false_iff]
    intro hh
    have := beq_iff_eq.1 hh
    omega
  clear hN
  obtain ⟨g, hg⟩ : ∃ g, g = y.g := ⟨_, rfl⟩
  rw [← hg] at h1 ⊢
  clear hg
  go_enter Try.func26, Try.ntmps26
  go_wp2
  go_ret
  exact ⟨rfl, rfl⟩

theorem isClient_any (c : Int) (w : World) : Calls Try.prog 33 #[.int .i64 c] w fun e w' => e = .returned (.bool (decide (0 ≤ c ∧ c ≤ 64))) ∧ w = w' := by
  by_cases h0 : 0 ≤ c
  · by_cases h1 : c ≤ 64
    · have e : decide (0 ≤ c ∧ c ≤ 64) = true := by simp [h0, h1]
      rw [e]
      go_enter Try.func33, Try.ntmps33
      go_wp2
      go_ret
      exact ⟨rfl, rfl⟩
    · have e : decide (0 ≤ c ∧ c ≤ 64) = false := by simp [h0, h1]
      rw [e]
      go_enter Try.func33, Try.ntmps33
      go_wp2
      go_ret
      exact ⟨rfl, rfl⟩
  · have e : decide (0 ≤ c ∧ c ≤ 64) = false := by simp [h0]
    rw [e]
    go_enter Try.func33, Try.ntmps33
    go_wp2
    go_ret
    exact ⟨rfl, rfl⟩

theorem lineOf_any (a : Nat) (w : World) (ha : a < 18446744073709551616) : Calls Try.prog 32 #[.int .u64 (a : Int)] w fun e w' => e = .returned (.int .i64 ((a / 64 : Nat) : Int)) ∧ w = w' := by
  go_enter Try.func32, Try.ntmps32
  go_wp2
  go_ret
  exact ⟨rfl, rfl⟩

theorem size_no {p : Option Addr} {w : World} (h : NoMem w p) : Calls Try.prog 20 #[.pointer p] w fun e w' => e = .returned (.int .i64 0) ∧ w = w' := by
  have H := Lib.hid (none_no h)
  clear h
  go_enter Try.func20, Try.ntmps20
  go_wp2_with fail
  refine H.out.mono ?_
  rintro e w1 ⟨rfl, rfl⟩
  go_wp2
  go_ret
  exact ⟨rfl, rfl⟩
theorem size_yes {w : World} {y : Lay} {s : St} (h : MemAt w y s) : Calls Try.prog 20 #[.pointer (some ⟨y.g, 0, none⟩)] w fun e w' => e = .returned (.int .i64 ((64 * s.nl : Nat) : Int)) ∧ w = w' := by
  have H := Lib.hid (none_yes h)
  have h1 := h.row.cell 1
  simp only [List.getElem?_toArray, List.getElem?_cons_succ, List.getElem?_cons_zero] at h1
  have hm := h.most
  obtain ⟨N, hN⟩ : ∃ N, N = 8 * s.nl := ⟨_, rfl⟩
  rw [← hN] at h1
  rw [show 64 * s.nl = N * 8 from by omega]
  have hN2 : N ≤ 131072 := by omega
  obtain ⟨g, hg⟩ : ∃ g, g = y.g := ⟨_, rfl⟩
  rw [← hg] at h1 H ⊢
  clear hg hN hm h
  go_enter Try.func20, Try.ntmps20
  go_wp2_with fail
  refine H.out.mono ?_
  rintro e w1 ⟨rfl, rfl⟩
  go_wp2
  go_ret
  exact ⟨rfl, rfl⟩

theorem refused_no {p : Option Addr} {w : World} (h : NoMem w p) (f : Bool) (a : Int) : Calls Try.prog 19 #[.pointer p, .bool f, .int .u64 a] w fun e w' => e = .returned (.int .i64 1) ∧ w = w' := by
  have H := Lib.hid (none_no h)
  clear h
  go_enter Try.func19, Try.ntmps19
  go_wp2_with fail
  refine H.out.mono ?_
  rintro e w1 ⟨rfl, rfl⟩
  go_wp2
  go_ret
  exact ⟨rfl, rfl⟩
theorem refused_arg {w : World} {y : Lay} {s : St} (h : MemAt w y s) (a : Int) : Calls Try.prog 19 #[.pointer (some ⟨y.g, 0, none⟩), .bool false, .int .u64 a] w fun e w' => e = .returned (.int .i64 2) ∧ w = w' := by
  have H := Lib.hid (none_yes h)
  obtain ⟨g, hg⟩ : ∃ g, g = y.g := ⟨_, rfl⟩
  rw [← hg] at H ⊢
  clear hg h
  go_enter Try.func19, Try.ntmps19
  go_wp2_with fail
  refine H.out.mono ?_
  rintro e w1 ⟨rfl, rfl⟩
  go_wp2
  go_ret
  exact ⟨rfl, rfl⟩
theorem refused_range {w : World} {y : Lay} {s : St} (h : MemAt w y s) (a : Nat) (ha : a % 8 ≠ 0 ∨ 64 * s.nl ≤ a) : Calls Try.prog 19 #[.pointer (some ⟨y.g, 0, none⟩), .bool true, .int .u64 (a : Int)] w fun e w' => e = .returned (.int .i64 3) ∧ w = w' := by
  have H := Lib.hid (none_yes h)
  have HS := Lib.hid (size_yes h)
  have hm := h.most
  obtain ⟨g, hg⟩ : ∃ g, g = y.g := ⟨_, rfl⟩
  rw [← hg] at H HS ⊢
  obtain ⟨Z, hZ⟩ : ∃ Z, Z = 64 * s.nl := ⟨_, rfl⟩
  rw [← hZ] at ha HS
  have hZ2 : Z ≤ 1048576 := by omega
  clear hg h hZ hm
  by_cases h8 : a % 8 = 0
  · have hz : Z ≤ a := by omega
    have hn : (((a : Int) % 8) != 0) = false := by
      have : (a : Int) % 8 = 0 := by omega
      rw [this]; rfl
    clear h8 ha
    go_enter Try.func19, Try.ntmps19
    go_wp2_with fail
    refine H.out.mono ?_
    rintro e w1 ⟨rfl, rfl⟩
    go_wp2_with fail
    refine HS.out.mono ?_
    rintro e w1 ⟨rfl, rfl⟩
    go_wp2
    go_ret
    exact ⟨rfl, rfl⟩
  · have hn : (((a : Int) % 8) != 0) = true := by
      rw [bne_iff_ne]
      omega
    clear h8 ha
    go_enter Try.func19, Try.ntmps19
    go_wp2_with fail
    refine H.out.mono ?_
    rintro e w1 ⟨rfl, rfl⟩
    go_wp2
    go_ret
    exact ⟨rfl, rfl⟩
theorem refused_ok {w : World} {y : Lay} {s : St} (h : MemAt w y s) (a : Nat) (h8 : a % 8 = 0) (ha : a < 64 * s.nl) : Calls Try.prog 19 #[.pointer (some ⟨y.g, 0, none⟩), .bool true, .int .u64 (a : Int)] w fun e w' => e = .returned (.int .i64 0) ∧ w = w' := by
  have H := Lib.hid (none_yes h)
  have HS := Lib.hid (size_yes h)
  have hm := h.most
  obtain ⟨g, hg⟩ : ∃ g, g = y.g := ⟨_, rfl⟩
  rw [← hg] at H HS ⊢
  obtain ⟨Z, hZ⟩ : ∃ Z, Z = 64 * s.nl := ⟨_, rfl⟩
  rw [← hZ] at ha HS
  have hZ2 : Z ≤ 1048576 := by omega
  clear hg h hZ hm
  have hn : (((a : Int) % 8) != 0) = false := by
    have : (a : Int) % 8 = 0 := by omega
    rw [this]; rfl
  clear h8
  go_enter Try.func19, Try.ntmps19
  go_wp2_with fail
  refine H.out.mono ?_
  rintro e w1 ⟨rfl, rfl⟩
  go_wp2_with fail
  refine HS.out.mono ?_
  rintro e w1 ⟨rfl, rfl⟩
  go_wp2
  go_ret
  exact ⟨rfl, rfl⟩
end Go.Proofs.Ytedefebdfcgjeaa
