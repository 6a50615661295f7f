/- The document's Find and Last: of any node, any key; without conditions. -/
import Derived.Test.YtbadlmicbbjkaaaN8Get
import Derived.Test.YtbadlmicbbjkaaaQLoadG
namespace Go.Proofs.Ytbadlmicbbjkaaa
open Go.RowKit
set_option linter.unusedVariables false
theorem vp_full (n : Nd) : n.vpTo n.len = n.vp := rfl
/-- The first of these places with a key; below nought: none. -/
def fndL (n : Nd) (key : Int) (l : List Nat) : Int := match l.find? (fun p => n.key p == key) with | some p => (p : Int) | none => -1
theorem fnd_hit {n : Nd} {key : Int} {i : Nat} (hi : i < n.len) (ho : n.ok i = true) (hk : n.key i = key) (h : ∀ p ∈ n.vpTo i, n.key p ≠ key) : fndL n key n.vp = (i : Int) := by
  obtain ⟨r, hr⟩ := n.vpTo_pre (show i + 1 ≤ n.len from hi)
  unfold fndL
  rw [← vp_full, ← hr, n.vpTo_yes ho, List.find?_append, List.find?_append, List.find?_eq_none.2 (fun y hy => by simpa using h y hy)]
  simp [hk]
theorem fnd_none {n : Nd} {key : Int} (h : ∀ p ∈ n.vp, n.key p ≠ key) : fndL n key n.vp = -1 := by
  unfold fndL
  rw [List.find?_eq_none.2 (fun y hy => by simpa using h y hy)]
set_option maxRecDepth 100000 in
set_option maxHeartbeats 4000000 in
theorem r8Find_any (n : Nd) (key : Int) (w : World) : Calls Try.prog 62 #[n.V, .int .u64 key] w fun e w' => e = .returned (.int .i64 (fndL n key n.vp)) ∧ Below w.heap.size w w' := by
  have r0 := Row.new w 27 n.cl.toArray
  obtain ⟨Wa, hWa⟩ : ∃ Wa, Wa = w.alloc (.cells n.cl.toArray 27) := ⟨_, rfl⟩
  rw [← hWa] at r0
  have HB0 := Lib.hid (show Below w.heap.size w Wa by rw [hWa]; exact alloc_low _ _)
  have HRR := Lib.hid (fun W' (hb : Below Wa.heap.size Wa W') => (show NdAt W' w.heap.size n from r0.below hb r0.lt))
  have HWa := Lib.hid hWa
  have HL := Lib.hid (fun W' => r8Len_any n W')
  have hln := n.len_le
  obtain ⟨F, hF⟩ : ∃ F, F = fndL n key n.vp := ⟨_, rfl⟩
  rw [← hF]
  have HF := Lib.hid hF
  clear r0 hWa hF
  go_enter Try.func62, Try.ntmps62
  go_wp2_with fail
  rw [← HWa.out]
  go_loopw [5] (fun i wr => ∃ k : Nat, k ≤ n.len ∧ i = .int .i64 (k : Int) ∧ (∀ p ∈ n.vpTo k, n.key p ≠ key) ∧ Below Wa.heap.size Wa wr) (fun i _ => n.len - (intOf i).toNat)
  case atStart => exact ⟨0, by omega, rfl, by simp [Nd.vpTo_zero], Below.refl _ _⟩
  case round =>
    rename World => wr
    obtain ⟨k, hk, rfl, hne, hb⟩ := hrel
    have HNE := Lib.hid hne
    have HBW := Lib.hid (low_and HB0.out hb)
    clear hne
    by_cases hlt : k < n.len
    · have hk8 : (k : Int) < 8 := by omega
      have HI := Lib.hid (fun W' => r8Is_any n W' (i := k) (by omega))
      have HKy := Lib.hid (fun W' (hb : Below Wa.heap.size Wa W') => ndAt_key (HRR.out W' hb) (i := k) (by omega))
      have HSt := Lib.hid (n.vpTo_succ k)
      obtain ⟨y, hy⟩ : ∃ y, y = n.key k := ⟨_, rfl⟩
      rw [← hy] at HKy
      have HY := Lib.hid hy
      obtain ⟨ob, hob⟩ : ∃ ob, ob = n.ok k := ⟨_, rfl⟩
      rw [← hob] at HI HSt
      have HOb := Lib.hid hob
      clear hy hob
      cases ob with
      | false =>
        go_wp2_with (first
          | (refine wpList_load_mid rfl _ _ rfl w.heap.size 0 rfl n.cl _ (ndR (HRR.out _ (by assumption))) Try.underlying27 rfl ndI ?_)
          | (go_at_call 39; refine (HL.out _).mono ?_; rintro e w2 ⟨rfl, hb2⟩; have hb2 := low_and hb hb2)
          | (go_at_call 41; refine (HI.out _).mono ?_; rintro e w3 ⟨rfl, hb3⟩; have hb3 := low_and hb2 hb3))
        exact ⟨⟨k + 1, by omega, by go_num, by rw [HSt.out]; simpa using HNE.out, hb3⟩, by simp [intOf]; omega⟩
      | true =>
        obtain hyk | hyk : y = key ∨ y ≠ key := by omega
        · subst hyk
          go_wp2_with (first
            | (refine wpList_load_mid rfl _ _ rfl w.heap.size 0 rfl n.cl _ (ndR (HRR.out _ (by assumption))) Try.underlying27 rfl ndI ?_)
            | (go_at_call 39; refine (HL.out _).mono ?_; rintro e w2 ⟨rfl, hb2⟩; have hb2 := low_and hb hb2)
            | (go_at_call 41; refine (HI.out _).mono ?_; rintro e w3 ⟨rfl, hb3⟩; have hb3 := low_and hb2 hb3; have ck := HKy.out _ hb3))
          go_ret
          exact ⟨by rw [HF.out, fnd_hit hlt HOb.out.symm HY.out.symm HNE.out]; rfl, low_and HB0.out hb3⟩
        · have hyb : (y == key) = false := by simpa using hyk
          go_wp2_with (first
            | (refine wpList_load_mid rfl _ _ rfl w.heap.size 0 rfl n.cl _ (ndR (HRR.out _ (by assumption))) Try.underlying27 rfl ndI ?_)
            | (go_at_call 39; refine (HL.out _).mono ?_; rintro e w2 ⟨rfl, hb2⟩; have hb2 := low_and hb hb2)
            | (go_at_call 41; refine (HI.out _).mono ?_; rintro e w3 ⟨rfl, hb3⟩; have hb3 := low_and hb2 hb3; have ck := HKy.out _ hb3))
          refine ⟨⟨k + 1, by omega, by go_num, ?_, hb3⟩, by simp [intOf]; omega⟩
          rw [HSt.out]
          intro p hp
          rcases List.mem_append.1 hp with h | h
          · exact HNE.out p h
          · simp at h
            subst h
            rw [← HY.out]
            exact hyk
    · obtain rfl : k = n.len := by omega
      go_wp2_with (first
        | (refine wpList_load_mid rfl _ _ rfl w.heap.size 0 rfl n.cl _ (ndR (HRR.out _ (by assumption))) Try.underlying27 rfl ndI ?_)
        | (go_at_call 39; refine (HL.out _).mono ?_; rintro e w2 ⟨rfl, hb2⟩; have hb2 := low_and hb hb2))
      go_ret
      exact ⟨by rw [HF.out, fnd_none HNE.out]; rfl, low_and HB0.out hb2⟩
end Go.Proofs.Ytbadlmicbbjkaaa
