/- The document's Invalid: of any node; without conditions. -/
import Derived.Test.YtbadlmicbbjkaaaN8RefF
import Derived.Test.YtbadlmicbbjkaaaN8Inv
namespace Go.Proofs.Ytbadlmicbbjkaaa
open Go.RowKit
set_option linter.unusedVariables false
set_option maxRecDepth 100000 in
set_option maxHeartbeats 4000000 in
theorem r8Inv_any (n : Nd) (w : World) : Calls Try.prog 18 #[n.V] w fun e w' => e = .returned (.int .i64 n.inv) ∧ Below w.heap.size w w' := by
  have r0 := Row.new w 27 n.cl.toArray
  obtain ⟨Wa, hWa⟩ : ∃ Wa, Wa = w.alloc (.cells n.cl.toArray 27) := ⟨_, rfl⟩
  rw [← hWa] at r0
  have HB0 := Lib.hid (show Below w.heap.size w Wa by rw [hWa]; exact alloc_low _ _)
  have HRR := Lib.hid (fun W' (hb : Below Wa.heap.size Wa W') => (show NdAt W' w.heap.size n from r0.below hb r0.lt))
  have HWa := Lib.hid hWa
  have HL := Lib.hid (fun W' => r8Len_any n W')
  have hln := n.len_le
  have HIA := Lib.hid (fun m (hm : m < n.len) ho ha => n.inv_at (m := m) hm ho ha)
  have HIN := Lib.hid n.inv_none
  obtain ⟨F, hF⟩ : ∃ F, F = n.inv := ⟨_, rfl⟩
  rw [← hF] at HIA HIN
  rw [← hF]
  clear r0 hWa hF
  go_enter Try.func18, Try.ntmps18
  go_wp2_with fail
  rw [← HWa.out]
  go_loopw [3] (fun i wr => ∃ k : Nat, k ≤ n.len ∧ i = .int .i64 (k : Int) ∧ (∀ p, p < k → n.ok p = true) ∧ Below Wa.heap.size Wa wr) (fun i _ => n.len - (intOf i).toNat)
  case atStart => exact ⟨0, by omega, rfl, fun p hp => by omega, Below.refl _ _⟩
  case round =>
    rename World => wr
    obtain ⟨k, hk, rfl, hne, hb⟩ := hrel
    have HNE := Lib.hid hne
    clear hne
    by_cases hlt : k < n.len
    · have hk8 : (k : Int) < 8 := by omega
      have HI := Lib.hid (fun W' => r8Is_any n W' (i := k) (by omega))
      obtain ⟨ob, hob⟩ : ∃ ob, ob = n.ok k := ⟨_, rfl⟩
      rw [← hob] at HI
      have HOb := Lib.hid hob
      clear hob
      cases ob with
      | false =>
        have HFk := Lib.hid (HIA.out k hlt HOb.out.symm HNE.out)
        go_wp2_with (first
          | (refine wpList_load_mid rfl _ _ rfl w.heap.size 0 rfl n.cl _ (ndR (HRR.out _ (by assumption))) Try.underlying27 rfl ndI ?_)
          | (go_at_call 39; refine (HL.out _).mono ?_; rintro e w2 ⟨rfl, hb2⟩; have hb2 := low_and hb hb2)
          | (go_at_call 41; refine (HI.out _).mono ?_; rintro e w3 ⟨rfl, hb3⟩; have hb3 := low_and hb2 hb3))
        go_ret
        exact ⟨by rw [HFk.out]; rfl, low_and HB0.out hb3⟩
      | true =>
        go_wp2_with (first
          | (refine wpList_load_mid rfl _ _ rfl w.heap.size 0 rfl n.cl _ (ndR (HRR.out _ (by assumption))) Try.underlying27 rfl ndI ?_)
          | (go_at_call 39; refine (HL.out _).mono ?_; rintro e w2 ⟨rfl, hb2⟩; have hb2 := low_and hb hb2)
          | (go_at_call 41; refine (HI.out _).mono ?_; rintro e w3 ⟨rfl, hb3⟩; have hb3 := low_and hb2 hb3))
        refine ⟨⟨k + 1, by omega, by go_num, fun p hp => ?_, hb3⟩, by simp [intOf]; omega⟩
        rcases Nat.lt_or_eq_of_le (Nat.le_of_lt_succ hp) with h | rfl
        · exact HNE.out p h
        · exact HOb.out.symm
    · obtain rfl : k = n.len := by omega
      have HFk := Lib.hid (HIN.out HNE.out)
      go_wp2_with (first
        | (refine wpList_load_mid rfl _ _ rfl w.heap.size 0 rfl n.cl _ (ndR (HRR.out _ (by assumption))) Try.underlying27 rfl ndI ?_)
        | (go_at_call 39; refine (HL.out _).mono ?_; rintro e w2 ⟨rfl, hb2⟩; have hb2 := low_and hb hb2))
      go_ret
      exact ⟨by rw [HFk.out]; rfl, low_and HB0.out hb2⟩
end Go.Proofs.Ytbadlmicbbjkaaa
