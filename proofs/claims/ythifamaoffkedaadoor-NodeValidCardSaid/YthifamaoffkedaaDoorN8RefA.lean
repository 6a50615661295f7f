/- The document's Active and SameInts: of any node, any bound; any two few lists; without conditions else. -/
import Derived.Test.YthifamaoffkedaaDoorN8RefP
import Derived.Test.YthifamaoffkedaaDoorN8Same
import Derived.Test.YthifamaoffkedaaDoorAnyTwo
namespace Go.Proofs.YthifamaoffkedaaDoor
open Go.RowKit
set_option linter.unusedVariables false
def belowF (high : Int) (has : Bool) (e : Int × Int) : Bool := !has || decide (e.1 < high)
theorem act_es (n : Nd) (high : Int) (has : Bool) : n.act high has = n.es.filter (belowF high has) := by
  unfold Nd.act actL Nd.es
  rw [List.filter_map]
  rfl
theorem filt_yes {high : Int} {has : Bool} {l : List (Int × Int)} {k : Nat} (hk : k < l.length) (h : belowF high has (l.getD k (0, 0)) = true) : (l.take (k + 1)).filter (belowF high has) = (l.take k).filter (belowF high has) ++ [l.getD k (0, 0)] := by
  have hge : l.getD k (0, 0) = l[k] := by rw [List.getD_eq_getElem?_getD, List.getElem?_eq_getElem hk]; rfl
  rw [hge] at h ⊢
  rw [List.take_succ_eq_append_getElem hk, List.filter_append]
  simp [h]
theorem filt_no {high : Int} {has : Bool} {l : List (Int × Int)} {k : Nat} (hk : k < l.length) (h : belowF high has (l.getD k (0, 0)) = false) : (l.take (k + 1)).filter (belowF high has) = (l.take k).filter (belowF high has) := by
  have hge : l.getD k (0, 0) = l[k] := by rw [List.getD_eq_getElem?_getD, List.getElem?_eq_getElem hk]; rfl
  rw [hge] at h
  rw [List.take_succ_eq_append_getElem hk, List.filter_append]
  simp [h]
set_option maxRecDepth 100000 in
set_option maxHeartbeats 4000000 in
theorem r8Active_any (n : Nd) (high : Int) (has : Bool) (w : World) : Calls Tryd.prog 29 #[n.V, .int .u64 high, .bool has] w fun e w' => (∃ v, e = .returned v ∧ w'.ownsRow w.heap.size 58 2 v (n.act high has).length (flatE (n.act high has))) ∧ Below w.heap.size w w' := by
  obtain ⟨i0, hi, hz0, hz1, hz2⟩ := info_parts infoE8
  have r0 := Row.new w 27 n.cl.toArray
  obtain ⟨Wa, hWa⟩ : ∃ Wa, Wa = w.alloc (.cells n.cl.toArray 27) := ⟨_, rfl⟩
  rw [← hWa] at r0
  have HSa := Lib.hid (show w.heap.size ≤ Wa.heap.size by rw [hWa]; simp)
  have HB0 := Lib.hid (show Below w.heap.size w Wa by rw [hWa]; exact alloc_low _ _)
  have HRR := Lib.hid (fun W' (hb : Below Wa.heap.size Wa W') => (show NdAt W' w.heap.size n from r0.below hb r0.lt))
  have HWa := Lib.hid hWa
  have HV := Lib.hid (fun W' => r8Valid_any n W')
  have hr0 := Below.refl Wa.heap.size Wa
  have hes := n.es_len
  have HAE := Lib.hid (act_es n high has)
  obtain ⟨L, hL⟩ : ∃ L, L = n.es := ⟨_, rfl⟩
  rw [← hL] at HV hes HAE
  clear r0 hWa hL
  go_enter Tryd.func29, Tryd.ntmps29
  go_wp2_with (first
    | (rw [← HWa.out]; refine wpList_load_mid rfl _ _ rfl w.heap.size 0 rfl n.cl _ (ndR (HRR.out _ (by assumption))) Tryd.underlying27 rfl ndI ?_)
    | (go_at_call 20; refine (HV.out _).mono ?_; rintro e w1 ⟨⟨v, rfl, ho⟩, hb1⟩))
  have hE := ent_own ho
  have HE := Lib.hid hE
  obtain ⟨A, cap, rfl, _⟩ := hE
  clear ho
  obtain ⟨m, hm⟩ : ∃ m, m = L.length := ⟨_, rfl⟩
  rw [← hm] at hes ⊢
  have HM := Lib.hid hm
  have HC := Lib.hid (show ∀ k, k < m → ∃ g o, A = some ⟨g, o, none⟩ ∧ ∀ W', Below w1.heap.size w1 W' → W'.cell? ⟨g, o + k * 2, none⟩ = some (.int .u64 (L.getD k (0, 0)).1) ∧ W'.cell? ⟨g, o + k * 2 + 1, none⟩ = some (.int .u64 (L.getD k (0, 0)).2) from fun k hk => by
    obtain ⟨A2, cap2, hv2, hc⟩ := HE.out
    cases hv2
    obtain ⟨g, o, rfl, hc3⟩ := hc (by omega)
    refine ⟨g, o, rfl, fun W' hb => ?_⟩
    obtain ⟨c1, c2⟩ := hc3 k _ (getD_ent (by omega))
    exact ⟨(hb.cell (p := ⟨g, o + k * 2, none⟩) (w1.block_lt_of_cell? _ c1)).trans c1, (hb.cell (p := ⟨g, o + k * 2 + 1, none⟩) (w1.block_lt_of_cell? _ c2)).trans c2⟩)
  have HB1 := Lib.hid (low_and hr0 hb1)
  have HS1 := Lib.hid hb1.size
  clear hb1 hm
  go_loopw [7, 9] (fun o i wr => ∃ k : Nat, k ≤ m ∧ i = .int .i64 (k : Int) ∧ wr.ownsRow w1.heap.size 58 2 o ((L.take k).filter (belowF high has)).length (flatE ((L.take k).filter (belowF high has))) ∧ Below w1.heap.size w1 wr) (fun _ i _ => m - (intOf i).toNat)
  case atStart => exact ⟨0, by omega, rfl, World.ownsRow_nil _ _ _ _, Below.refl _ _⟩
  case round =>
    rename World => wr
    obtain ⟨k, hk, rfl, ho, hb⟩ := hrel
    have HO := Lib.hid ho
    have HBr := Lib.hid hb
    have hsz := hb.size
    clear ho hb
    by_cases hlt : k < m
    · obtain ⟨g, o, rfl, hcc⟩ := HC.out k hlt
      obtain ⟨c1, c2⟩ := hcc wr HBr.out
      have hki : (k : Int) < (m : Int) := by omega
      have hkb : k < 1000 := by omega
      have HY := Lib.hid (fun h => filt_yes (high := high) (has := has) (l := L) (k := k) (by rw [← HM.out]; exact hlt) h)
      have HN := Lib.hid (fun h => filt_no (high := high) (has := has) (l := L) (k := k) (by rw [← HM.out]; exact hlt) h)
      have hfl : ((L.take k).filter (belowF high has)).length ≤ 8 := Nat.le_trans (List.length_filter_le _ _) (by rw [List.length_take]; omega)
      obtain ⟨⟨x, y⟩, hxy⟩ : ∃ e, e = L.getD k (0, 0) := ⟨_, rfl⟩
      rw [← hxy] at c1 c2 HY HN
      dsimp only at c1 c2
      obtain ⟨F, hF⟩ : ∃ F, F = (L.take k).filter (belowF high has) := ⟨_, rfl⟩
      rw [← hF] at HO HY HN hfl
      obtain ⟨q, hq⟩ : ∃ q, q = F.length := ⟨_, rfl⟩
      rw [← hq] at HO hfl
      have HQ := Lib.hid hq
      clear hcc hxy hF hq
      have hcase : (has = false ∨ (has = true ∧ x < high)) ∨ (has = true ∧ ¬ x < high) := by
        cases has
        · exact .inl (.inl rfl)
        · by_cases h : x < high
          · exact .inl (.inr ⟨rfl, h⟩)
          · exact .inr ⟨rfl, h⟩
      rcases hcase with hcase | ⟨rfl, hxh⟩
      · have HYt := Lib.hid (HY.out (by unfold belowF; rcases hcase with rfl | ⟨rfl, h⟩ <;> simp_all))
        rcases hcase with rfl | ⟨rfl, hxh⟩
        all_goals
          go_wp2_with (at_builtin; refine wpList_append_own _ rfl _ _ 40 rfl w1.heap.size 58 i0 (.agg #[.int .u64 0, .int .u64 0]) 2 16 Tryd.underlying40 hi hz0 hz1 hz2 rfl (by decide) _ q _ rfl (HO.out.alloc _) ⟨wr.heap.size, 0, none⟩ 1 1 [.int .u64 x, .int .u64 y] rfl rfl ?q1 ?q2 ?q3 ?q4 ?q5 ?_)
          case q1 =>
            have hr := Row.new wr 58 #[.int .u64 x, .int .u64 y]
            intro j u hj
            rw [Addr.add_lit, hr.cell, Nat.zero_add]
            simpa using hj
          case q2 => simp [Value.oneCell']
          case q3 => unfold maxLen; omega
          case q4 => omega
          case q5 => simp; omega
          intro v' w4 hown hgrow hnil
          have HO4 := Lib.hid hown
          have HB4 := Lib.hid (show Below w1.heap.size w1 w4 from (HBr.out.alloc hsz _).grown hgrow (by simp; omega) (fun j hj => (ownS_from HO.out j hj).1))
          clear hown hgrow hnil
          go_wp2
          refine ⟨⟨k + 1, by omega, by go_num, ?_, HB4.out⟩, by simp [intOf]; omega⟩
          rw [HYt.out, List.length_append, ← HQ.out, flatE_snoc]
          exact HO4.out
      · have HNt := Lib.hid (HN.out (by unfold belowF; simpa using hxh))
        go_wp2
        refine ⟨⟨k + 1, by omega, by go_num, ?_, HBr.out⟩, by simp [intOf]; omega⟩
        rw [HNt.out, ← HQ.out]
        exact HO.out
    · obtain rfl : k = m := by omega
      go_wp2
      go_ret
      refine ⟨⟨_, rfl, ?_⟩, low_and HB0.out (low_and HB1.out HBr.out)⟩
      have hfin := ownS_mono HO.out (Nat.le_trans HSa.out HS1.out)
      rw [List.take_of_length_le (Nat.le_of_eq HM.out.symm), ← HAE.out] at hfin
      exact hfin
theorem drewN_two' (w : World) (a b : Nat) : ∃ q, (w.drewN a).drewN b = w.drewN q := ⟨_, World.drewN_drewN _ _ _⟩
/-- A slice of places that reads as a list. -/
def IntAt (w : World) (v : Value) (l : List Nat) : Prop := ∃ A cap, v = .slice A l.length cap ∧ ∀ k, k < l.length → ∃ g, A = some ⟨g, 0, none⟩ ∧ w.cell? ⟨g, k, none⟩ = some (iv8 (l.getD k 0))
theorem int_own {w : World} {B : Nat} {v : Value} {l : List Nat} (h : w.ownsRow B 3 1 v l.length (l.map iv8)) : IntAt w v l := own_getI h
theorem IntAt.low {w w' : World} {v : Value} {l : List Nat} (h : IntAt w v l) (hb : Below w.heap.size w w') : IntAt w' v l := by
  obtain ⟨A, cap, rfl, h⟩ := h
  refine ⟨A, cap, rfl, fun k hk => ?_⟩
  obtain ⟨g, rfl, hc⟩ := h k hk
  exact ⟨g, rfl, (hb.cell (p := ⟨g, k, none⟩) (w.block_lt_of_cell? _ hc)).trans hc⟩
set_option maxRecDepth 100000 in
set_option maxHeartbeats 4000000 in
theorem sameInts_yes {w : World} {v v' : Value} {l : List Nat} (h : IntAt w v l) (h' : IntAt w v' l) (hl : l.length ≤ 1000) : Calls Tryd.prog 21 #[v, v'] w fun e w' => e = .returned (.bool true) ∧ Below w.heap.size w w' := by
  obtain ⟨A, cap, rfl, h⟩ := h
  obtain ⟨A', cap', rfl, h'⟩ := h'
  obtain ⟨m, hm⟩ : ∃ m, m = l.length := ⟨_, rfl⟩
  rw [← hm] at hl h h' ⊢
  have HA := Lib.hid h
  have HA' := Lib.hid h'
  have hmm : ((m : Int) != (m : Int)) = false := by simp
  clear h h' hm
  go_enter Tryd.func21, Tryd.ntmps21
  go_wp2_with fail
  go_loopw [5] (fun i wr => ∃ k : Nat, k ≤ m ∧ i = .int .i64 (k : Int) ∧ ∃ q, wr = w.drewN q) (fun i _ => m - (intOf i).toNat)
  case atStart => exact ⟨0, by omega, rfl, 0, rfl⟩
  case round =>
    obtain ⟨k, hk, rfl, q, rfl⟩ := hrel
    by_cases hlt : k < m
    · obtain ⟨g, rfl, c1⟩ := HA.out k hlt
      obtain ⟨g', rfl, c2⟩ := HA'.out k hlt
      have hki : (k : Int) < (m : Int) := by omega
      obtain ⟨x, hx⟩ : ∃ x, x = l.getD k 0 := ⟨_, rfl⟩
      rw [← hx] at c1 c2
      unfold iv8 at c1 c2
      have hxx : ((x : Int) != (x : Int)) = false := by simp
      clear hx
      go_wp2
      go_quiet (fail)
      go_wp2
      exact ⟨⟨k + 1, by omega, by go_num, by first | exact drewN_two' _ _ _ | exact ⟨_, rfl⟩⟩, by simp [intOf]; omega⟩
    · obtain rfl : k = m := by omega
      go_wp2
      go_ret
      exact ⟨rfl, ⟨rfl, rfl, rfl, Nat.le_refl _, fun _ _ => rfl⟩⟩
end Go.Proofs.YthifamaoffkedaaDoor
