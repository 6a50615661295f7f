/- The law's few: may an image be, of some heads and acts. -/
import Derived.Test.YthibbcokpmckfaaGreatDoorImg
import Derived.Test.YthibbcokpmckfaaGreatDoorR6Of
namespace Go.Proofs.YthibbcokpmckfaaGreatDoor
open Go.RowKit Go.Sort
set_option linter.unusedVariables false
/-- No heads, too many of them, or too many acts. -/
theorem few_no {w : World} {A A2 : Option Addr} {n cap m cap2 : Nat} {k : Int} (h : ¬ (1 ≤ n ∧ n ≤ 4 ∧ (m : Int) ≤ k)) (hn : n ≤ maxLen) (hm : m ≤ maxLen) :
    Calls Tryz.prog 18 #[.slice A n cap, .slice A2 m cap2, .int .i64 k] w fun e w' => e = .returned (.bool false) ∧ w = w' := by
  have hn' : (n : Int) ≤ 9223372036854775807 := by unfold maxLen at hn; omega
  by_cases h1 : n = 0
  · subst h1
    go_enter Tryz.func18, Tryz.ntmps18
    go_wp2
    go_ret
    exact ⟨rfl, rfl⟩
  · have d1 : decide ((n : Int) < 1) = false := by simp; omega
    by_cases h4 : n ≤ 4
    · have d2 : decide (4 < (n : Int)) = false := by simp; omega
      have d3 : decide (k < (m : Int)) = true := by simp; omega
      go_enter Tryz.func18, Tryz.ntmps18
      go_wp2
      go_ret
      exact ⟨rfl, rfl⟩
    · have d2 : decide (4 < (n : Int)) = true := by simp; omega
      go_enter Tryz.func18, Tryz.ntmps18
      go_wp2
      go_ret
      exact ⟨rfl, rfl⟩
theorem few_any {w : World} {A2 : Option Addr} {ga : Addr} {cap m cap2 : Nat} {k : Int} {l : List (Nat × Nat)} (hA : HeadsAt w ga l) (h0 : 0 < l.length) (h4 : l.length ≤ 4) (hc : l.length ≤ cap) (hm : (m : Int) ≤ k) (hf : ∀ p ∈ l, p.1 < 18446744073709551616 ∧ p.2 < 18446744073709551616) :
    Calls Tryz.prog 18 #[.slice (some ga) l.length cap, .slice A2 m cap2, .int .i64 k] w fun e w' => (∃ b, e = .returned (.bool b) ∧ (b = true ↔ okHeads (imL l 0) l.length)) ∧ Below w.heap.size w w' := by
  have HI := Lib.hid (image_any (f := 0) hA (by omega) hc (by decide) hf)
  have HO := Lib.hid fun (W : World) (gi : Nat) (hr : Row W gi 5 ((imL l 0).map bv).toArray) => r6Of_yes (w := W) (a := ⟨gi, 0, none⟩) (cap := 1024 * (l.length + 1)) (n := l.length) (imL_len l 0) (row_sl hr) (imL_byte (by decide)) h0 (by omega)
  obtain ⟨n, hn⟩ : ∃ n, n = l.length := ⟨_, rfl⟩
  rw [← hn] at HI HO h0 h4 ⊢
  have d1 : decide ((n : Int) < 1) = false := by simp; omega
  have d2 : decide (4 < (n : Int)) = false := by simp; omega
  have d3 : decide (k < (m : Int)) = false := by simp; omega
  have HN := Lib.hid hn
  clear hA hf hn
  go_enter Tryz.func18, Tryz.ntmps18
  go_wp2_with fail
  refine HI.out.mono ?_
  rintro e w1 ⟨gi, rfl, hr, hb, hgi⟩
  rw [← HN.out]
  have HR := Lib.hid (HO.out w1 gi hr)
  have HB := Lib.hid hb
  clear hr hb
  go_wp2_with fail
  refine HR.out.mono ?_
  rintro e w2 (⟨hok, gw, vc, vl, rfl, _, hb2⟩ | ⟨hok, rfl, hb2⟩)
  · have HE := Lib.hid (show (∃ b, Ending.returned (.bool true) = .returned (.bool b) ∧ (b = true ↔ okHeads (imL l 0) n)) ∧ Below w.heap.size w w2 from ⟨⟨true, rfl, by simp [hok]⟩, Below.and HB.out hb2⟩)
    clear hok hb2
    go_wp2
    go_ret
    exact HE.out
  · have HE := Lib.hid (show (∃ b, Ending.returned (.bool false) = .returned (.bool b) ∧ (b = true ↔ okHeads (imL l 0) n)) ∧ Below w.heap.size w w2 from ⟨⟨false, rfl, by simp [hok]⟩, Below.and HB.out hb2⟩)
    clear hok hb2
    go_wp2
    go_ret
    exact HE.out
end Go.Proofs.YthibbcokpmckfaaGreatDoor
