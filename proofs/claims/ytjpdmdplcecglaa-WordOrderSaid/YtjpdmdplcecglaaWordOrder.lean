/- WordOrder answers true for every two words: their digits stand to one another as they do. -/
import Derived.Test.YtjpdmdplcecglaaKnown
import Derived.Test.YtjpdmdplcecglaaOrder
namespace Go.Proofs.Ytjpdmdplcecglaa
open Go.RowKit
set_option maxHeartbeats 400000 in
theorem order_walk (a b : Nat) (x y : ByteArray) (w : World) (p q : Bool)
    (H1 : Hid (∀ w, Calls Try.prog 12 #[.int .u64 a] w fun e w' => e = .returned (.string x) ∧ Below w.heap.size w w'))
    (H2 : Hid (∀ w, Calls Try.prog 12 #[.int .u64 b] w fun e w' => e = .returned (.string y) ∧ Below w.heap.size w w'))
    (h1 : ((x.size : Int) == 16) = true) (h2 : ((y.size : Int) == 16) = true)
    (e1 : Op.bytesLess x.toList y.toList = p) (e2 : (x.toList == y.toList) = q) (e3 : decide (a < b) = p) (e4 : ((a : Int) == b) = q) :
    Calls Try.prog 9 #[.int .u64 a, .int .u64 b] w fun e w' => e = .returned (.bool true) ∧ Below w.heap.size w w' := by
  go_enter Try.func9, Try.ntmps9
  go_wp2_with fail
  refine (H1.out _).mono ?_
  rintro e w1 ⟨rfl, hb1⟩
  go_wp2_with fail
  refine (H2.out _).mono ?_
  rintro e w2 ⟨rfl, hb2⟩
  go_wp2_with fail
  refine (known_any _).mono ?_
  rintro e w3 ⟨rfl, hb3⟩
  go_wp2
  go_ret
  exact ⟨rfl, Below.and hb1 (Below.and hb2 hb3)⟩
theorem order_any (a b : Nat) (w : World) (ha : a < 18446744073709551616) (hb : b < 18446744073709551616) :
    Calls Try.prog 9 #[.int .u64 a, .int .u64 b] w fun e w' => e = .returned (.bool true) ∧ Below w.heap.size w w' := by
  have h3 := hexS_less a b ha hb
  have h4 := hexS_same a b ha hb
  rw [beq_iff_eq] at h3 h4
  have e : decide (a < b) = decide ((a : Int) < (b : Int)) := by
    rw [Bool.eq_iff_iff]
    simp
  exact order_walk a b (hexS a) (hexS b) w _ _ (Lib.hid (hex_any a · ha)) (Lib.hid (hex_any b · hb)) (by rw [hexS_size]; rfl) (by rw [hexS_size]; rfl) (h3.trans e.symm) h4 rfl rfl
theorem order_all (a b : Int) (w : World) (ha : (Lit.int .u64 a).wf = true) (hb : (Lit.int .u64 b).wf = true) :
    Calls Try.prog 9 #[.int .u64 a, .int .u64 b] w fun e w' => e = .returned (.bool true) ∧ Below w.heap.size w w' := by
  obtain ⟨n, rfl, hn⟩ := wf_nat ha
  obtain ⟨m, rfl, hm⟩ := wf_nat hb
  exact order_any n m w hn hm
end Go.Proofs.Ytjpdmdplcecglaa
