/- The document's Cut: of any node; conditions: numbers of the width. -/
import Derived.Test.YtbadlmicbbjkaaaN9Ref1
namespace Go.Proofs.Ytbadlmicbbjkaaa
open Go.RowKit
set_option linter.unusedVariables false
set_option linter.unusedSimpArgs false
theorem ok_vp (n : Nd) (h : n.inv = -1) : n.vp = List.range n.len := by
  unfold Nd.vp Nd.vpTo
  exact List.filter_eq_self.2 (fun i hi => n.inv_neg h i (List.mem_range.1 hi))
theorem keys_up9 {n : Nd} (h : n.may 0 false = true) : (n.vp.map n.key).Pairwise (· < ·) := by
  have := ((riseB_iff _ _ _).1 (may_fit h).1.rise).2
  unfold Nd.es at this
  rw [List.map_map] at this
  exact this
theorem cut_len {n : Nd} (hm : n.may 0 false = true) (hi : n.inv = -1) {high : Int} {k : Nat} (hk : k ≤ n.len) (h1 : ∀ i, i < k → n.key i < high) (h2 : k < n.len → high ≤ n.key k) : (n.act high true).length = k := by
  have hup := keys_up9 hm
  rw [ok_vp n hi] at hup
  unfold Nd.act actL
  rw [List.length_map, ok_vp n hi]
  have hlt : ∀ d, k + d < n.len → n.key k ≤ n.key (k + d) := fun d hd => by
    cases d with
    | zero => exact Int.le_refl _
    | succ d =>
      have := List.pairwise_iff_getElem.1 hup k (k + (d + 1)) (by simp; omega) (by simp; omega) (by omega)
      simp only [List.getElem_map, List.getElem_range] at this
      omega
  obtain ⟨c, hc⟩ : ∃ c, n.len = k + c := ⟨n.len - k, by omega⟩
  rw [hc] at hlt h2 ⊢
  rw [List.range_add, List.filter_append, List.length_append, List.filter_eq_self.2 (fun i hi => by simp [Nd.inB, h1 i (List.mem_range.1 hi)]), List.filter_eq_nil_iff.2 (fun j hj => by
    obtain ⟨d, hd, rfl⟩ := List.mem_map.1 hj
    have hd := List.mem_range.1 hd
    have := hlt d (by omega)
    have := h2 (by omega)
    simp [Nd.inB]
    omega)]
  simp
theorem refE_zero {b : Int} {n : Nd} (h : refE b n [] = 0) : n.may 0 false = true ∧ n.inv = -1 := by
  rw [refE_cases] at h
  have hneg : ¬ 0 ≤ n.inv → n.inv = -1 := fun hi => by
    unfold Nd.inv at hi ⊢
    split
    · rename_i j hj
      rw [hj] at hi
      simp at hi
    · rfl
  cases hb : bOk b <;> cases hm : n.may 0 false <;> simp [hb, hm] at h
  exact ⟨rfl, hneg (by omega)⟩
set_option maxRecDepth 100000 in
set_option maxHeartbeats 8000000 in
theorem r9cut_any {base : Int} (hb : 0 ≤ base) (n : Nd) (high : Int) (w : World) : Calls Try.prog 33 #[.int .u64 base, n.V, .int .u64 high] w (PutsOut w (cutP base n high)) := by
  obtain ⟨i0, hi, hz0, hz1, hz2⟩ := info_parts infoPut
  have r0 := Row.new w 27 n.cl.toArray
  obtain ⟨Wa, hWa⟩ : ∃ Wa, Wa = w.alloc (.cells n.cl.toArray 27) := ⟨_, rfl⟩
  rw [← hWa] at r0
  have hb0 : Below w.heap.size w Wa := by rw [hWa]; exact alloc_low _ _
  have HB0 := Lib.hid hb0
  have HRR := Lib.hid (fun W' (hb : Below Wa.heap.size Wa W') => (show NdAt W' w.heap.size n from r0.below hb r0.lt))
  have HWa := Lib.hid hWa
  have HWs := Lib.hid (show w.heap.size ≤ Wa.heap.size from hb0.size)
  have hl8 := n.len_le
  have hr0 := Below.refl Wa.heap.size Wa
  have HMy := Lib.hid (fun W' => r9may_any hb n W')
  have EGp := Lib.hid (enters_of Try.func38 (by kernel_rfl) rfl)
  have EGa := Lib.hid (enters_of Try.func64 (by kernel_rfl) rfl)
  have EGg := Lib.hid (enters_of Try.func66 (by kernel_rfl) rfl)
  have EGw := Lib.hid (enters_of Try.func65 (by kernel_rfl) rfl)
  have EGi := Lib.hid (enters_of Try.func18 (by kernel_rfl) rfl)
  have hP : cutP base n high = (if refE base n [] ≠ 0 then ([], refE base n []) else if (n.act high true).length = n.len then ([], 5) else (wholeL base n [(pA base (n.act high true).length, 0)], 0)) := rfl
  have hbb := fun h => refE_base (b := base) (n := n) (l := []) h
  have hzz := fun h => refE_zero (b := base) (n := n) h
  generalize hR : cutP base n high = R at hP ⊢
  generalize refE base n [] = E at HMy hP hbb hzz
  clear r0 hWa hb0 hR
  obtain hE | hE : E ≠ 0 ∨ E = 0 := by omega
  · have HR := Lib.hid (show R = ([], E) by rw [hP, if_pos hE])
    have hEb : (E != 0) = true := by simpa using hE
    clear hP hbb hzz
    go_enter Try.func33, Try.ntmps33
    go_wp2_with (first
      | (rw [← HWa.out]; (refine wpList_load_mid rfl _ _ rfl w.heap.size 0 rfl n.cl _ (ndR (HRR.out _ (by assumption))) Try.underlying27 rfl ndI ?_))
      | (refine wpList_load_mid rfl _ _ rfl w.heap.size 0 rfl n.cl _ (ndR (HRR.out _ (by assumption))) Try.underlying27 rfl ndI ?_)
      | (go_at_call 60; refine (HMy.out _).mono ?_; rintro e w1 ⟨rfl, h1⟩; have h1 := low_and hr0 h1))
    go_ret2
    rw [HR.out]
    exact ⟨⟨_, rfl, World.ownsRow_nil _ _ _ _⟩, low_and HB0.out h1⟩
  · subst hE
    rw [if_neg (by simp)] at hP
    have hbse := hbb rfl
    obtain ⟨hmay, hinv⟩ := hzz rfl
    have HC := Lib.hid (fun (k : Nat) (h0 : k ≤ n.len) h1 h2 => cut_len hmay hinv (high := high) h0 h1 h2)
    have HP := Lib.hid hP
    have HL := Lib.hid (fun W' => r8Len_any n W')
    clear hbb hzz hP hmay hinv
    go_enter Try.func33, Try.ntmps33
    go_wp2_with (first
      | (rw [← HWa.out]; (refine wpList_load_mid rfl _ _ rfl w.heap.size 0 rfl n.cl _ (ndR (HRR.out _ (by assumption))) Try.underlying27 rfl ndI ?_))
      | (refine wpList_load_mid rfl _ _ rfl w.heap.size 0 rfl n.cl _ (ndR (HRR.out _ (by assumption))) Try.underlying27 rfl ndI ?_)
      | (go_at_call 60; refine (HMy.out _).mono ?_; rintro e w1 ⟨rfl, h1⟩; have h1 := low_and hr0 h1))
    go_loopw [9] (fun i wr => ∃ k : Nat, k ≤ n.len ∧ i = .int .i64 (k : Int) ∧ (∀ i, i < k → n.key i < high) ∧ Below Wa.heap.size Wa wr) (fun i _ => n.len - (intOf i).toNat)
    case atStart => exact ⟨0, by omega, rfl, fun i h => absurd h (Nat.not_lt_zero i), h1⟩
    case round =>
      rename World => wr
      obtain ⟨k, hk, rfl, hne, hb⟩ := hrel
      have HNE := Lib.hid hne
      clear hne
      by_cases hlt : k < n.len
      · have hk8 : (k : Int) < 8 := by omega
        have HKy := Lib.hid (fun W' (hb : Below Wa.heap.size Wa W') => ndAt_key (HRR.out W' hb) (i := k) (by omega))
        obtain ⟨y, hy⟩ : ∃ y, y = n.key k := ⟨_, rfl⟩
        rw [← hy] at HKy
        have HY := Lib.hid hy
        clear hy
        by_cases hyk : high ≤ y
        · have hyk' : ¬ y < high := by omega
          have HR := Lib.hid (show R = (wholeL base n [(pA base k, 0)], 0) by
            have hc := HC.out k hk HNE.out (fun _ => by rw [← HY.out]; exact hyk)
            rw [HP.out, hc, if_neg (by omega)])
          have HPt := Lib.hid (fun W => pt_any hbse (i := k) (by omega) W)
          have HWh := Lib.hid (fun W' v (h : EntAt W' v [(pA base k, 0)]) => whole_any hbse n h (by simp) (by simp))
          have HLit := Lib.hid (fun W' => (show EntAt (W'.alloc (.cells #[.int .u64 (pA base k), .int .u64 0] 45)) (.slice (some ⟨W'.heap.size, 0, none⟩) 1 1) [(pA base k, 0)] from ent_lit W' 45 [(pA base k, 0)] (by simp)))
          go_wp2_with (first
            | (refine wpList_load_mid rfl _ _ rfl w.heap.size 0 rfl n.cl _ (ndR (HRR.out _ (by assumption))) Try.underlying27 rfl ndI ?_)
            | (go_at_call 39; refine (HL.out _).mono ?_; rintro e w2 ⟨rfl, h2⟩; have h2 := low_and hb h2; have ck := HKy.out _ h2))
          refine wp_region_held_drew (S := fun W' => Below Wa.heap.size Wa W') (by kernel_rfl) (low_and h2 (drew_low9 _)) (fun hHeld => ?_)
          refine wpAnyH_take (i := 0) (oi := ⟨some 28, _, _, _, _, _⟩) (v := .int .u64 base) rfl (by kernel_rfl) (by kernel_rfl) (by kernel_rfl) (fun _ _ _ h => h) (Or.inl ⟨by rfl, by intro WW hSw; (try dsimp only at hSw); go_simp⟩) (by assumption) ?_
          (try simp only [Act.put, List.setIfInBounds_toArray, List.set_cons_zero, List.set_cons_succ])
          refine wpAnyH_take (i := 1) (oi := ⟨some 29, _, _, _, _, _⟩) (v := .agg n.cl.toArray) rfl (by kernel_rfl) (by kernel_rfl) (by kernel_rfl) (fun _ _ _ h => h) (yieldsIf_load_mid (by rfl) _ _ rfl w.heap.size 0 rfl n.cl _ (fun w' hw' => ndR (HRR.out _ hw')) Try.underlying27 rfl ndI) (by assumption) ?_
          (try simp only [Act.put, List.setIfInBounds_toArray, List.set_cons_zero, List.set_cons_succ])
          refine wpAnyH_take (i := 2) (oi := ⟨some 30, _, _, _, _, _⟩) (v := .int .u64 base) rfl (by kernel_rfl) (by kernel_rfl) (by kernel_rfl) (fun _ _ _ h => h) (Or.inl ⟨by rfl, by intro WW hSw; (try dsimp only at hSw); go_simp⟩) (by assumption) ?_
          (try simp only [Act.put, List.setIfInBounds_toArray, List.set_cons_zero, List.set_cons_succ])
          refine wpAnyH_take (i := 3) (oi := ⟨some 31, _, _, _, _, _⟩) (v := .int .i64 (k : Int)) rfl (by kernel_rfl) (by kernel_rfl) (by kernel_rfl) (fun _ _ _ h => h) (Or.inl ⟨by rfl, by intro WW hSw; (try dsimp only at hSw); go_simp⟩) (by assumption) ?_
          (try simp only [Act.put, List.setIfInBounds_toArray, List.set_cons_zero, List.set_cons_succ])
          refine wpAnyH_one (i := 4) (oi := ⟨some 32, _, _, _, _, _⟩) rfl (by kernel_rfl) (fun K hK => ?_)
          refine step_calls (by rfl) 38 EGp.out [.tmp 30, .tmp 31] _ rfl [.int .u64 base, .int .i64 (k : Int)] rfl (HPt.out _) ?_
          rintro e w3 ⟨rfl, rfl⟩
          refine ⟨_, rfl, hK _ _ (hHeld) (fun hSn => ?_)⟩
          clear hK K
          (try simp only [Act.put, List.setIfInBounds_toArray, List.set_cons_zero, List.set_cons_succ])
          refine wpAnyH_take (i := 5) (oi := ⟨some 33, _, _, _, _, _⟩) (v := .agg #[.int .u64 (pA base k), .int .u64 0]) rfl (by kernel_rfl) (by kernel_rfl) (by kernel_rfl) (fun _ _ _ h => h) (Or.inl ⟨by rfl, by intro WW hSw; (try dsimp only at hSw); go_simp⟩) (by assumption) ?_
          (try simp only [Act.put, List.setIfInBounds_toArray, List.set_cons_zero, List.set_cons_succ])
          refine wpAnyH_one (i := 6) (oi := ⟨some 34, _, _, _, _, _⟩) rfl (by kernel_rfl) (fun K hK => ?_)
          rw [if_pos (by rfl)]
          unfold Oper.wp
          go_simp
          refine hK _ _ (low_and h2 (low_and (alloc_low _ _) (drew_low9 _))) (fun hSn => ?_)
          clear hK K
          (try simp only [Act.put, List.setIfInBounds_toArray, List.set_cons_zero, List.set_cons_succ])
          refine wpAnyH_one (i := 7) (oi := ⟨some 35, _, _, _, _, _⟩) rfl (by kernel_rfl) (fun K hK => ?_)
          refine step_calls (by rfl) 65 EGw.out [.tmp 28, .tmp 29, .tmp 34] _ rfl [.int .u64 base, n.V, .slice (some ⟨w2.heap.size, 0, none⟩) 1 1] rfl (HWh.out _ _ ((HLit.out w2).low (drew_low9 _))) ?_
          rintro e w4 ⟨⟨v4, rfl, ho4⟩, h4⟩
          have g4 := low_and h2 (low_and (low_and (alloc_low _ _) (drew_low9 _)) h4)
          have hs2 := h2.size
          have hsa := HWs.out
          have HO4 := Lib.hid (ownS_mono ho4 (show w.heap.size ≤ _ by simp; omega))
          clear ho4
          refine ⟨_, rfl, hK _ _ (low_and h2 (low_and (low_and (alloc_low _ _) (drew_low9 _)) h4)) (fun hSn => ?_)⟩
          clear hK K
          (try simp only [Act.put, List.setIfInBounds_toArray, List.set_cons_zero, List.set_cons_succ])
          refine wpAnyH_take (i := 8) (oi := ⟨some 6, _, _, _, _, _⟩) (v := v4) rfl (by kernel_rfl) (by kernel_rfl) (by kernel_rfl) (fun _ _ _ h => h) (Or.inl ⟨by rfl, by intro WW hSw; (try dsimp only at hSw); go_simp⟩) (by assumption) ?_
          (try simp only [Act.put, List.setIfInBounds_toArray, List.set_cons_zero, List.set_cons_succ])
          refine wpAnyH_take (i := 9) (oi := ⟨some 7, _, _, _, _, _⟩) (v := .int .i64 0) rfl (by kernel_rfl) (by kernel_rfl) (by kernel_rfl) (fun _ _ _ h => h) (Or.inl ⟨by rfl, by intro WW hSw; (try dsimp only at hSw); go_simp⟩) (by assumption) ?_
          (try simp only [Act.put, List.setIfInBounds_toArray, List.set_cons_zero, List.set_cons_succ])
          refine wpAnyH_done (by kernel_rfl) ?_ _
          go_wp2
          go_ret2
          rw [HR.out]
          exact ⟨⟨_, rfl, HO4.out⟩, low_and HB0.out g4⟩
        · have hyk' : y < high := by omega
          go_wp2_with (first
            | (refine wpList_load_mid rfl _ _ rfl w.heap.size 0 rfl n.cl _ (ndR (HRR.out _ (by assumption))) Try.underlying27 rfl ndI ?_)
            | (go_at_call 39; refine (HL.out _).mono ?_; rintro e w2 ⟨rfl, h2⟩; have h2 := low_and hb h2; have ck := HKy.out _ h2))
          refine ⟨⟨k + 1, by omega, by go_num, fun i hi => ?_, h2⟩, by simp [intOf]; omega⟩
          obtain h | rfl : i < k ∨ i = k := by omega
          · exact HNE.out i h
          · rw [← HY.out]; exact hyk'
      · have hke : ¬ (k : Int) < n.len := by omega
        have HR := Lib.hid (show R = ([], 5) by
          have hc := HC.out k hk HNE.out (fun h => absurd h hlt)
          rw [HP.out, hc, if_pos (by omega)])
        go_wp2_with (first
          | (refine wpList_load_mid rfl _ _ rfl w.heap.size 0 rfl n.cl _ (ndR (HRR.out _ (by assumption))) Try.underlying27 rfl ndI ?_)
          | (go_at_call 39; refine (HL.out _).mono ?_; rintro e w2 ⟨rfl, h2⟩; have h2 := low_and hb h2))
        go_ret2
        rw [HR.out]
        exact ⟨⟨_, rfl, World.ownsRow_nil _ _ _ _⟩, low_and HB0.out h2⟩
end Go.Proofs.Ytbadlmicbbjkaaa
