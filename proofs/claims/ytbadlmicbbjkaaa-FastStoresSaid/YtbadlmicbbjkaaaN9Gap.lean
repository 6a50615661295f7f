/- The document's gap and whole: stores in new memory; of any node; conditions: a base that may be. -/
import Derived.Test.YtbadlmicbbjkaaaN9Prog
namespace Go.Proofs.Ytbadlmicbbjkaaa
open Go.RowKit
set_option linter.unusedVariables false
theorem flatE_two (l : List (Int × Int)) (a b : Int × Int) : flatE (l ++ [a, b]) = flatE l ++ [uw a.1, uw a.2, uw b.1, uw b.2] := by simp [flatE]
set_option maxRecDepth 100000 in
set_option maxHeartbeats 8000000 in
theorem gap_any {base : Int} (hbse : 0 ≤ base ∧ base ≤ 1099511627776) (n : Nd) {p : Nat} (hp : p < n.len) (w : World) : Calls Try.prog 66 #[.int .u64 base, n.V, .int .i64 (p : Int)] w fun e w' => (∃ v, e = .returned v ∧ w'.ownsRow w.heap.size 45 2 v (dnL base n p (n.len - 1 - p)).length (flatE (dnL base n p (n.len - 1 - p)))) ∧ Below w.heap.size w w' := by
  obtain ⟨i0, hi, hz0, hz1, hz2⟩ := info_parts infoPut
  have r0 := Row.new w 27 n.cl.toArray
  obtain ⟨Wa, hWa⟩ : ∃ Wa, Wa = w.alloc (.cells n.cl.toArray 27) := ⟨_, rfl⟩
  rw [← hWa] at r0
  have hb0 : Below w.heap.size w Wa := by rw [hWa]; exact alloc_low _ _
  have HB0 := Lib.hid hb0
  have HRR := Lib.hid (fun W' (hb : Below Wa.heap.size Wa W') => (show NdAt W' w.heap.size n from r0.below hb r0.lt))
  have HWa := Lib.hid hWa
  have HSa := Lib.hid (show w.heap.size ≤ Wa.heap.size from hb0.size)
  have HL := Lib.hid (fun W' => r8Len_any n W')
  have hln := n.len_le
  have EG1 := Lib.hid (enters_of Try.func37 (by kernel_rfl) rfl)
  have EG2 := Lib.hid (enters_of Try.func38 (by kernel_rfl) rfl)
  obtain ⟨q, hq⟩ : ∃ q, n.len = q + 1 := ⟨n.len - 1, by omega⟩
  have HQ := Lib.hid hq
  rw [hq] at HL
  have hq8 : q < 8 := by omega
  have hpq : p ≤ q := by omega
  have hr0 := Below.refl Wa.heap.size Wa
  clear r0 hWa hb0 hq hp hln
  go_enter Try.func66, Try.ntmps66
  go_wp2_with (first
    | (rw [← HWa.out]; refine wpList_load_mid rfl _ _ rfl w.heap.size 0 rfl n.cl _ (ndR (HRR.out _ (by assumption))) Try.underlying27 rfl ndI ?_)
    | (go_at_call 39; refine (HL.out _).mono ?_; rintro e w1 ⟨rfl, hb1⟩; have hb1 := low_and hr0 hb1))
  go_loopw [7, 9] (fun o i wr => ∃ k : Nat, p ≤ k ∧ k ≤ q ∧ i = .int .i64 (k : Int) ∧ ∃ m : List (Int × Int), m ++ dnL base n k (q - k) = dnL base n p (q - p) ∧ wr.ownsRow Wa.heap.size 45 2 o m.length (flatE m) ∧ m.length ≤ 2 * k ∧ Below Wa.heap.size Wa wr) (fun _ i _ => q - (intOf i).toNat)
  case atStart => exact ⟨p, Nat.le_refl _, hpq, rfl, [], rfl, World.ownsRow_nil _ _ _ _, Nat.zero_le _, hb1⟩
  case round =>
    rename World => wr
    obtain ⟨k, hpk, hkq, rfl, m, hm, ho, hml, hb⟩ := hrel
    have HM := Lib.hid hm
    have HO := Lib.hid ho
    clear hm ho
    by_cases hlt : k < q
    · have hki : (k : Int) + 1 < ((q + 1 : Nat) : Int) := by omega
      have hk8 : (k : Int) + 1 < 8 := by omega
      have hk0 : ¬ (k : Int) + 1 < 0 := by omega
      have hwk : IntKind.i64.wrap ((k : Int) + 1) = (k : Int) + 1 := by rw [IntKind.wrap_i64]; omega
      have HK := Lib.hid (fun W => kt_any hbse (i := k) (by omega) W)
      have HPt := Lib.hid (fun W => pt_any hbse (i := k) (by omega) W)
      have HST := Lib.hid (show dnL base n k (q - k) = [(kA base k, n.key (k + 1)), (pA base k, n.ptr (k + 1))] ++ dnL base n (k + 1) (q - (k + 1)) by rw [show q - k = (q - (k + 1)) + 1 by omega]; rfl)
      have hN := fun W' (hb : Below Wa.heap.size Wa W') => And.intro (ndAt_key (HRR.out W' hb) (i := k + 1) (by omega)) (ndAt_ptr (HRR.out W' hb) (i := k + 1) (by omega))
      obtain ⟨y, hy⟩ : ∃ y, y = n.key (k + 1) := ⟨_, rfl⟩
      obtain ⟨z, hz⟩ : ∃ z, z = n.ptr (k + 1) := ⟨_, rfl⟩
      rw [← hy, ← hz] at HST hN
      have STAY := Lib.hid (fun W' (hb : Below Wa.heap.size Wa W') => And.intro (hN W' hb).1 (And.intro (hN W' hb).2 hb))
      clear hy hz hN
      go_wp2_with fail
      refine wp_region_held_drew (S := fun W' => W'.cell? ⟨w.heap.size, 5 + (k + 1), none⟩ = some (.int .u64 y) ∧ W'.cell? ⟨w.heap.size, 13 + (k + 1), none⟩ = some (.int .u64 z) ∧ Below Wa.heap.size Wa W') (by kernel_rfl) (STAY.out _ (low_and hb (drew_low9 _))) (fun hHeld => ?_)
      refine wpAnyH_take (i := 0) (oi := ⟨some 19, _, _, _, _, _⟩) (v := u7) rfl (by kernel_rfl) (by kernel_rfl) (by kernel_rfl) (fun _ _ _ h => h) (Or.inl ⟨by rfl, by intro WW hSw; (try dsimp only at hSw); go_simp⟩) (by assumption) ?_
      (try simp only [Act.put, List.setIfInBounds_toArray, List.set_cons_zero, List.set_cons_succ])
      refine wpAnyH_take (i := 1) (oi := ⟨some 20, _, _, _, _, _⟩) (v := .int .u64 base) rfl (by kernel_rfl) (by kernel_rfl) (by kernel_rfl) (fun _ _ _ h => h) (Or.inl ⟨by rfl, by intro WW hSw; (try dsimp only at hSw); go_simp⟩) (by assumption) ?_
      (try simp only [Act.put, List.setIfInBounds_toArray, List.set_cons_zero, List.set_cons_succ])
      refine wpAnyH_take (i := 2) (oi := ⟨some 21, _, _, _, _, _⟩) (v := .int .i64 (k : Int)) rfl (by kernel_rfl) (by kernel_rfl) (by kernel_rfl) (fun _ _ _ h => h) (Or.inl ⟨by rfl, by intro WW hSw; (try dsimp only at hSw); go_simp⟩) (by assumption) ?_
      (try simp only [Act.put, List.setIfInBounds_toArray, List.set_cons_zero, List.set_cons_succ])
      refine wpAnyH_take (i := 4) (oi := ⟨some 23, _, _, _, _, _⟩) (v := .int .i64 (k : Int)) rfl (by kernel_rfl) (by kernel_rfl) (by kernel_rfl) (fun _ _ _ h => h) (Or.inl ⟨by rfl, by intro WW hSw; (try dsimp only at hSw); go_simp⟩) (by assumption) ?_
      (try simp only [Act.put, List.setIfInBounds_toArray, List.set_cons_zero, List.set_cons_succ])
      refine wpAnyH_take (i := 5) (oi := ⟨some 24, _, _, _, _, _⟩) (v := .int .i64 ((k : Int) + 1)) rfl (by kernel_rfl) (by kernel_rfl) (by kernel_rfl) (fun _ _ _ h => h) (Or.inl ⟨by rfl, by intro WW hSw; (try dsimp only at hSw); go_simp⟩) (by assumption) ?_
      (try simp only [Act.put, List.setIfInBounds_toArray, List.set_cons_zero, List.set_cons_succ])
      refine wpAnyH_take (i := 6) (oi := ⟨some 25, _, _, _, _, _⟩) (v := .pointer (some ⟨w.heap.size, 5, none⟩)) rfl (by kernel_rfl) (by kernel_rfl) (by kernel_rfl) (fun _ _ _ h => h) (Or.inl ⟨by rfl, by intro WW hSw; (try dsimp only at hSw); go_simp⟩) (by assumption) ?_
      (try simp only [Act.put, List.setIfInBounds_toArray, List.set_cons_zero, List.set_cons_succ])
      refine wpAnyH_take (i := 7) (oi := ⟨some 26, _, _, _, _, _⟩) (v := .pointer (some ⟨w.heap.size, 5 + (k + 1), none⟩)) rfl (by kernel_rfl) (by kernel_rfl) (by kernel_rfl) (fun _ _ _ h => h) (Or.inl ⟨by rfl, by intro WW hSw; (try dsimp only at hSw); go_simp⟩) (by assumption) ?_
      (try simp only [Act.put, List.setIfInBounds_toArray, List.set_cons_zero, List.set_cons_succ])
      refine wpAnyH_take (i := 8) (oi := ⟨some 27, _, _, _, _, _⟩) (v := .int .u64 y) rfl (by kernel_rfl) (by kernel_rfl) (by kernel_rfl) (fun _ _ _ h => h) (Or.inl ⟨by rfl, by intro WW hSw; (try dsimp only at hSw); go_simp⟩) (by assumption) ?_
      (try simp only [Act.put, List.setIfInBounds_toArray, List.set_cons_zero, List.set_cons_succ])
      refine wpAnyH_take (i := 10) (oi := ⟨some 29, _, _, _, _, _⟩) (v := .int .u64 base) rfl (by kernel_rfl) (by kernel_rfl) (by kernel_rfl) (fun _ _ _ h => h) (Or.inl ⟨by rfl, by intro WW hSw; (try dsimp only at hSw); go_simp⟩) (by assumption) ?_
      (try simp only [Act.put, List.setIfInBounds_toArray, List.set_cons_zero, List.set_cons_succ])
      refine wpAnyH_take (i := 11) (oi := ⟨some 30, _, _, _, _, _⟩) (v := .int .i64 (k : Int)) rfl (by kernel_rfl) (by kernel_rfl) (by kernel_rfl) (fun _ _ _ h => h) (Or.inl ⟨by rfl, by intro WW hSw; (try dsimp only at hSw); go_simp⟩) (by assumption) ?_
      (try simp only [Act.put, List.setIfInBounds_toArray, List.set_cons_zero, List.set_cons_succ])
      refine wpAnyH_take (i := 13) (oi := ⟨some 32, _, _, _, _, _⟩) (v := .int .i64 (k : Int)) rfl (by kernel_rfl) (by kernel_rfl) (by kernel_rfl) (fun _ _ _ h => h) (Or.inl ⟨by rfl, by intro WW hSw; (try dsimp only at hSw); go_simp⟩) (by assumption) ?_
      (try simp only [Act.put, List.setIfInBounds_toArray, List.set_cons_zero, List.set_cons_succ])
      refine wpAnyH_take (i := 14) (oi := ⟨some 33, _, _, _, _, _⟩) (v := .int .i64 ((k : Int) + 1)) rfl (by kernel_rfl) (by kernel_rfl) (by kernel_rfl) (fun _ _ _ h => h) (Or.inl ⟨by rfl, by intro WW hSw; (try dsimp only at hSw); go_simp⟩) (by assumption) ?_
      (try simp only [Act.put, List.setIfInBounds_toArray, List.set_cons_zero, List.set_cons_succ])
      refine wpAnyH_take (i := 15) (oi := ⟨some 34, _, _, _, _, _⟩) (v := .pointer (some ⟨w.heap.size, 13, none⟩)) rfl (by kernel_rfl) (by kernel_rfl) (by kernel_rfl) (fun _ _ _ h => h) (Or.inl ⟨by rfl, by intro WW hSw; (try dsimp only at hSw); go_simp⟩) (by assumption) ?_
      (try simp only [Act.put, List.setIfInBounds_toArray, List.set_cons_zero, List.set_cons_succ])
      refine wpAnyH_take (i := 16) (oi := ⟨some 35, _, _, _, _, _⟩) (v := .pointer (some ⟨w.heap.size, 13 + (k + 1), none⟩)) rfl (by kernel_rfl) (by kernel_rfl) (by kernel_rfl) (fun _ _ _ h => h) (Or.inl ⟨by rfl, by intro WW hSw; (try dsimp only at hSw); go_simp⟩) (by assumption) ?_
      (try simp only [Act.put, List.setIfInBounds_toArray, List.set_cons_zero, List.set_cons_succ])
      refine wpAnyH_take (i := 17) (oi := ⟨some 36, _, _, _, _, _⟩) (v := .int .u64 z) rfl (by kernel_rfl) (by kernel_rfl) (by kernel_rfl) (fun _ _ _ h => h) (Or.inl ⟨by rfl, by intro WW hSw; (try dsimp only at hSw); go_simp⟩) (by assumption) ?_
      (try simp only [Act.put, List.setIfInBounds_toArray, List.set_cons_zero, List.set_cons_succ])
      refine wpAnyH_one (i := 3) (oi := ⟨some 22, _, _, _, _, _⟩) rfl (by kernel_rfl) (fun K hK => ?_)
      refine step_calls (by rfl) 37 EG1.out [.tmp 20, .tmp 21] _ rfl [.int .u64 base, .int .i64 (k : Int)] rfl (HK.out _) ?_
      rintro e w5 ⟨rfl, rfl⟩
      refine ⟨_, rfl, hK _ _ (hHeld) (fun hSn => ?_)⟩
      clear hK K
      (try simp only [Act.put, List.setIfInBounds_toArray, List.set_cons_zero, List.set_cons_succ])
      refine wpAnyH_take (i := 9) (oi := ⟨some 28, _, _, _, _, _⟩) (v := .agg #[.int .u64 (kA base k), .int .u64 y]) rfl (by kernel_rfl) (by kernel_rfl) (by kernel_rfl) (fun _ _ _ h => h) (Or.inl ⟨by rfl, by intro WW hSw; (try dsimp only at hSw); go_simp⟩) (by assumption) ?_
      (try simp only [Act.put, List.setIfInBounds_toArray, List.set_cons_zero, List.set_cons_succ])
      refine wpAnyH_one (i := 12) (oi := ⟨some 31, _, _, _, _, _⟩) rfl (by kernel_rfl) (fun K hK => ?_)
      refine step_calls (by rfl) 38 EG2.out [.tmp 29, .tmp 30] _ rfl [.int .u64 base, .int .i64 (k : Int)] rfl (HPt.out _) ?_
      rintro e w6 ⟨rfl, rfl⟩
      refine ⟨_, rfl, hK _ _ (hHeld) (fun hSn => ?_)⟩
      clear hK K
      (try simp only [Act.put, List.setIfInBounds_toArray, List.set_cons_zero, List.set_cons_succ])
      refine wpAnyH_take (i := 18) (oi := ⟨some 37, _, _, _, _, _⟩) (v := .agg #[.int .u64 (pA base k), .int .u64 z]) rfl (by kernel_rfl) (by kernel_rfl) (by kernel_rfl) (fun _ _ _ h => h) (Or.inl ⟨by rfl, by intro WW hSw; (try dsimp only at hSw); go_simp⟩) (by assumption) ?_
      (try simp only [Act.put, List.setIfInBounds_toArray, List.set_cons_zero, List.set_cons_succ])
      refine wpAnyH_one (i := 19) (oi := ⟨some 38, _, _, _, _, _⟩) rfl (by kernel_rfl) (fun K hK => ?_)
      rw [if_pos (by rfl)]
      unfold Oper.wp
      go_simp
      refine hK _ _ (STAY.out _ (low_and hb (low_and (alloc_low _ _) (drew_low9 _)))) (fun hSn => ?_)
      clear hK K
      (try simp only [Act.put, List.setIfInBounds_toArray, List.set_cons_zero, List.set_cons_succ])
      refine wpAnyH_one (i := 20) (oi := ⟨some 39, _, _, _, _, _⟩) rfl (by kernel_rfl) (fun K hK => ?_)
      refine step_append_lies _ (by rfl) (.tmp 19) (.tmp 38) _ (by rfl) Wa.heap.size 45 i0 (.agg #[.int .u64 0, .int .u64 0]) 2 16 rfl hi hz0 hz1 hz2 rfl (by decide) _ _ _ (by rfl) (ownS_low HO.out (low_and (alloc_low _ _) (drew_low9 _))) ⟨wr.heap.size, 0, none⟩ 2 2 [.int .u64 (kA base k), .int .u64 y, .int .u64 (pA base k), .int .u64 z] (by rfl) (by rfl) (World.news_of_block (cs := #[.int .u64 (kA base k), .int .u64 y, .int .u64 (pA base k), .int .u64 z]) (t := 45) (fr := (0, 0)) (heap_alloc_new9 _ _)) (by intro u hu; simp at hu; rcases hu with rfl | rfl | rfl | rfl <;> rfl) (by decide) (by unfold maxLen; omega) (by omega) (by simp; have := hb.size; omega) (wr.heap.size + 1) (by simp) ?_
      intro g4 cap4 w4 hown hgrow hsm hlt4
      have HO4 := Lib.hid hown
      have HB4 := Lib.hid (show Below Wa.heap.size Wa w4 from (low_and hb (low_and (alloc_low _ _) (drew_low9 _))).grown hgrow (by have := hb.size; simp; omega) (fun j hj => (ownS_from HO.out j hj).1))
      clear hown hgrow hsm hlt4
      refine hK _ _ (STAY.out _ HB4.out) (fun hSn => ?_)
      clear hK K
      (try simp only [Act.put, List.setIfInBounds_toArray, List.set_cons_zero, List.set_cons_succ])
      refine wpAnyH_take (i := 21) (oi := ⟨some 7, _, _, _, _, _⟩) (v := .slice (some ⟨g4, 0, none⟩) (m.length + 2) cap4) rfl (by kernel_rfl) (by kernel_rfl) (by kernel_rfl) (fun _ _ _ h => h) (Or.inl ⟨by rfl, by intro WW hSw; (try dsimp only at hSw); go_simp⟩) (by assumption) ?_
      (try simp only [Act.put, List.setIfInBounds_toArray, List.set_cons_zero, List.set_cons_succ])
      refine wpAnyH_done (by kernel_rfl) ?_ _
      go_wp2
      refine ⟨⟨k + 1, by omega, by omega, by go_num, m ++ [(kA base k, y), (pA base k, z)], by rw [← HM.out, HST.out, List.append_assoc], ?_, by rw [List.length_append]; simp; omega, HB4.out⟩, by simp [intOf]; omega⟩
      rw [flatE_two, List.length_append]
      exact HO4.out


    · obtain rfl : k = q := by omega
      have hki : ¬ (k : Int) + 1 < ((k + 1 : Nat) : Int) := by omega
      have hk1 : ((k + 1 : Nat) : Int) - 1 = (k : Int) := by omega
      have HPt := Lib.hid (fun W => pt_any hbse (i := k) (by omega) W)
      have HE := Lib.hid (show dnL base n p (k - p) = m ++ [(pA base k, 0)] by rw [← HM.out, Nat.sub_self]; rfl)
      go_wp2_with (first
        | (go_at_call 38; refine (HPt.out _).mono ?_; rintro e w5 ⟨rfl, rfl⟩)
        | (at_builtin; refine wpList_append_own _ rfl _ _ 30 rfl Wa.heap.size 45 i0 (.agg #[.int .u64 0, .int .u64 0]) 2 16 Try.underlying30 hi hz0 hz1 hz2 rfl (by decide) _ m.length _ rfl (HO.out.alloc _) ⟨wr.heap.size, 0, none⟩ 1 1 [.int .u64 (pA base k), .int .u64 0] rfl rfl ?q1 ?q2 ?q3 ?q4 ?q5 ?_))
      case q1 =>
        have hr := Row.new wr 45 #[.int .u64 (pA base k), .int .u64 0]
        intro j u hj
        rw [Addr.add_lit, hr.cell, Nat.zero_add]
        simpa using hj
      case q2 => simp [Value.oneCell']
      case q3 => unfold maxLen; omega
      case q4 => omega
      case q5 => have := hb.size; simp; omega
      intro v' w4 hown hgrow hnil
      have HO4 := Lib.hid hown
      have HB4 := Lib.hid (show Below Wa.heap.size Wa w4 from (hb.alloc hb.size _).grown hgrow (by have := hb.size; simp; omega) (fun j hj => (ownS_from HO.out j hj).1))
      clear hown hgrow hnil
      go_wp2
      go_ret
      rw [HQ.out, Nat.add_sub_cancel]
      refine ⟨⟨_, rfl, ?_⟩, low_and HB0.out HB4.out⟩
      rw [HE.out, List.length_append, flatE_snoc]
      exact ownS_mono HO4.out HSa.out
end Go.Proofs.Ytbadlmicbbjkaaa
