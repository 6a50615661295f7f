/- The document's Last: of any node, any key; without conditions. -/
import Derived.Test.YtbadlmicbbjkaaaN8RefF
namespace Go.Proofs.Ytbadlmicbbjkaaa
open Go.RowKit
set_option linter.unusedVariables false
set_option maxRecDepth 100000 in
set_option maxHeartbeats 4000000 in
theorem r8Last_any (n : Nd) (key : Int) (w : World) : Calls Try.prog 63 #[n.V, .int .u64 key] w fun e w' => e = .returned (.int .i64 ((n.at key : Int) - 1)) ∧ Below w.heap.size w w' := by
  have r0 := Row.new w 27 n.cl.toArray
  obtain ⟨Wa, hWa⟩ : ∃ Wa, Wa = w.alloc (.cells n.cl.toArray 27) := ⟨_, rfl⟩
  rw [← hWa] at r0
  have HB0 := Lib.hid (show Below w.heap.size w Wa by rw [hWa]; exact alloc_low _ _)
  have HRR := Lib.hid (fun W' (hb : Below Wa.heap.size Wa W') => (show NdAt W' w.heap.size n from r0.below hb r0.lt))
  have HWa := Lib.hid hWa
  have HL := Lib.hid (fun W' => r8Len_any n W')
  have hln := n.len_le
  clear r0 hWa
  go_enter Try.func63, Try.ntmps63
  go_wp2_with fail
  rw [← HWa.out]
  go_loopw [5, 6] (fun u i wr => ∃ (k : Nat) (a : Int), k ≤ n.len ∧ i = .int .i64 (k : Int) ∧ u = .int .i64 a ∧ a = (atL n key (n.vpTo k) : Int) - 1 ∧ Below Wa.heap.size Wa wr) (fun _ i _ => n.len - (intOf i).toNat)
  case atStart => exact ⟨0, -1, by omega, rfl, rfl, rfl, Below.refl _ _⟩
  case round =>
    rename World => wr
    obtain ⟨k, a, hk, rfl, rfl, ha, hb⟩ := hrel
    have HAa := Lib.hid ha
    clear ha
    by_cases hlt : k < n.len
    · have hk8 : (k : Int) < 8 := by omega
      have HI := Lib.hid (fun W' => r8Is_any n W' (i := k) (by omega))
      have HKy := Lib.hid (fun W' (hb : Below Wa.heap.size Wa W') => ndAt_key (HRR.out W' hb) (i := k) (by omega))
      have HSt := Lib.hid (n.vpTo_succ k)
      have HSn := Lib.hid (atL_snoc n key (n.vpTo k) k)
      obtain ⟨y, hy⟩ : ∃ y, y = n.key k := ⟨_, rfl⟩
      rw [← hy] at HKy HSn
      obtain ⟨ob, hob⟩ : ∃ ob, ob = n.ok k := ⟨_, rfl⟩
      rw [← hob] at HI HSt
      clear hy hob
      cases ob with
      | false =>
        go_wp2_with (first | (refine wpList_load_mid rfl _ _ rfl w.heap.size 0 rfl n.cl _ (ndR (HRR.out _ (by assumption))) Try.underlying27 rfl ndI ?_) | (go_at_call 39; refine (HL.out _).mono ?_; rintro e w2 ⟨rfl, hb2⟩; have hb2 := low_and hb hb2) | (go_at_call 41; refine (HI.out _).mono ?_; rintro e w3 ⟨rfl, hb3⟩; have hb3 := low_and hb2 hb3; have ck := HKy.out _ hb3))
        exact ⟨⟨k + 1, a, by omega, by go_num, rfl, by rw [HSt.out, HAa.out]; simp, hb3⟩, by simp [intOf]; omega⟩
      | true =>
        obtain hyk | hyk : y ≤ key ∨ ¬ y ≤ key := by omega
        · go_wp2_with (first | (refine wpList_load_mid rfl _ _ rfl w.heap.size 0 rfl n.cl _ (ndR (HRR.out _ (by assumption))) Try.underlying27 rfl ndI ?_) | (go_at_call 39; refine (HL.out _).mono ?_; rintro e w2 ⟨rfl, hb2⟩; have hb2 := low_and hb hb2) | (go_at_call 41; refine (HI.out _).mono ?_; rintro e w3 ⟨rfl, hb3⟩; have hb3 := low_and hb2 hb3; have ck := HKy.out _ hb3))
          exact ⟨⟨k + 1, (k : Int), by omega, by go_num, rfl, by rw [HSt.out, if_pos trivial, HSn.out, if_pos hyk]; omega, hb3⟩, by simp [intOf]; omega⟩
        · go_wp2_with (first | (refine wpList_load_mid rfl _ _ rfl w.heap.size 0 rfl n.cl _ (ndR (HRR.out _ (by assumption))) Try.underlying27 rfl ndI ?_) | (go_at_call 39; refine (HL.out _).mono ?_; rintro e w2 ⟨rfl, hb2⟩; have hb2 := low_and hb hb2) | (go_at_call 41; refine (HI.out _).mono ?_; rintro e w3 ⟨rfl, hb3⟩; have hb3 := low_and hb2 hb3; have ck := HKy.out _ hb3))
          exact ⟨⟨k + 1, a, by omega, by go_num, rfl, by rw [HSt.out, if_pos trivial, HSn.out, if_neg (by omega)]; exact HAa.out, hb3⟩, by simp [intOf]; omega⟩
    · obtain rfl : k = n.len := by omega
      go_wp2_with (first | (refine wpList_load_mid rfl _ _ rfl w.heap.size 0 rfl n.cl _ (ndR (HRR.out _ (by assumption))) Try.underlying27 rfl ndI ?_) | (go_at_call 39; refine (HL.out _).mono ?_; rintro e w2 ⟨rfl, hb2⟩; have hb2 := low_and hb hb2))
      go_ret
      exact ⟨by rw [HAa.out]; rfl, low_and HB0.out hb2⟩
end Go.Proofs.Ytbadlmicbbjkaaa
