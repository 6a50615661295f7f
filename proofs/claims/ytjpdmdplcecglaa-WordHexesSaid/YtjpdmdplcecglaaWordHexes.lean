/- WordHexes answers true for every text: OfHex is the document's, and Hex leads back. -/
import Derived.Test.YtjpdmdplcecglaaOfHex
import Derived.Test.YtjpdmdplcecglaaRefHex
namespace Go.Proofs.Ytjpdmdplcecglaa
open Go.RowKit
set_option linter.unusedVariables false
theorem first_bad (l : List UInt8) : ∀ n, Good l n ∨ ∃ m, m < n ∧ Good l m ∧ val (l.getD m 0) < 0
  | 0 => .inl (fun i hi => absurd hi (by omega))
  | n + 1 => by
    rcases first_bad l n with h | ⟨m, hm, hg, hb⟩
    · by_cases hv : val (l.getD n 0) < 0
      · exact .inr ⟨n, by omega, h, hv⟩
      · refine .inl (fun i hi => ?_)
        by_cases e : i = n
        · subst e; omega
        · exact h i (by omega)
    · exact .inr ⟨m, by omega, hg, hb⟩
set_option maxHeartbeats 400000 in
theorem hexes_long (s : ByteArray) (w : World) (h : 100 < s.size) :
    Calls Try.prog 6 #[.string s] w fun e w' => e = .returned (.bool true) ∧ Below w.heap.size w w' := by
  go_enter Try.func6, Try.ntmps6
  go_wp2_with fail
  refine (known_any _).mono ?_
  rintro e w3 ⟨rfl, hb3⟩
  go_wp2
  go_ret
  exact ⟨rfl, hb3⟩
set_option maxHeartbeats 400000 in
theorem hexes_bad (s : ByteArray) (w : World) (h : s.size ≤ 100)
    (H1 : Hid (∀ w, Calls Try.prog 13 #[.string s] w fun e w' => e = .returned (.tuple #[.int .u64 0, .int .i64 11]) ∧ w = w'))
    (H2 : Hid (∀ w, Calls Try.prog 24 #[.string s] w fun e w' => e = .returned (.tuple #[.int .u64 0, .int .i64 11]) ∧ w = w')) :
    Calls Try.prog 6 #[.string s] w fun e w' => e = .returned (.bool true) ∧ Below w.heap.size w w' := by
  go_enter Try.func6, Try.ntmps6
  go_wp2_with fail
  refine (H1.out _).mono ?_
  rintro e w1 ⟨rfl, rfl⟩
  go_wp2_with fail
  refine (H2.out _).mono ?_
  rintro e w1 ⟨rfl, rfl⟩
  go_wp2_with fail
  refine (known_any _).mono ?_
  rintro e w3 ⟨rfl, hb3⟩
  go_wp2
  go_ret
  exact ⟨rfl, hb3⟩
set_option maxHeartbeats 400000 in
theorem hexes_good (s : ByteArray) (n : Nat) (w : World) (h : s.size ≤ 100)
    (H1 : Hid (∀ w, Calls Try.prog 13 #[.string s] w fun e w' => e = .returned (.tuple #[.int .u64 (n : Int), .int .i64 0]) ∧ w = w'))
    (H2 : Hid (∀ w, Calls Try.prog 24 #[.string s] w fun e w' => e = .returned (.tuple #[.int .u64 (n : Int), .int .i64 0]) ∧ w = w'))
    (H3 : Hid (∀ w, Calls Try.prog 12 #[.int .u64 (n : Int)] w fun e w' => e = .returned (.string s) ∧ Below w.heap.size w w')) :
    Calls Try.prog 6 #[.string s] w fun e w' => e = .returned (.bool true) ∧ Below w.heap.size w w' := by
  have hn : ((n : Int) == (n : Int)) = true := by simp
  have hs : (s.toList == s.toList) = true := by simp
  go_enter Try.func6, Try.ntmps6
  go_wp2_with fail
  refine (H1.out _).mono ?_
  rintro e w1 ⟨rfl, rfl⟩
  go_wp2_with fail
  refine (H2.out _).mono ?_
  rintro e w1 ⟨rfl, rfl⟩
  go_wp2_with fail
  refine (H3.out _).mono ?_
  rintro e w1 ⟨rfl, hb1⟩
  go_wp2_with fail
  refine (known_any _).mono ?_
  rintro e w3 ⟨rfl, hb3⟩
  go_wp2
  go_ret
  exact ⟨rfl, Below.and hb1 hb3⟩
theorem hexes_any (s : ByteArray) (w : World) :
    Calls Try.prog 6 #[.string s] w fun e w' => e = .returned (.bool true) ∧ Below w.heap.size w w' := by
  by_cases h : 100 < s.size
  · exact hexes_long s w h
  · by_cases h16 : s.size = 16
    · rcases first_bad s.data.toList 16 with hg | ⟨m, hm, hg, hb⟩
      · refine hexes_good s (accTo s.data.toList 16) w (by omega) (Lib.hid (ofHex_ok s · h16 hg)) (Lib.hid (refOfHex_ok s · h16 hg)) (Lib.hid fun w => ?_)
        have hx := hex_any (accTo s.data.toList 16) w (accTo_lt _ 16)
        rw [back_hexS s h16 hg] at hx
        exact hx
      · exact hexes_bad s w (by omega) (Lib.hid (ofHex_bad s m · h16 hm hg hb)) (Lib.hid (refOfHex_bad s m · h16 hm hg hb))
    · exact hexes_bad s w (by omega) (Lib.hid (ofHex_len s · h16)) (Lib.hid (refOfHex_len s · h16))
theorem hexes_all (s : ByteArray) (w : World) (_ : s.size ≤ maxLen) :
    Calls Try.prog 6 #[.string s] w fun e w' => e = .returned (.bool true) ∧ Below w.heap.size w w' := hexes_any s w
end Go.Proofs.Ytjpdmdplcecglaa
