/- The document's Places and Valid: in new memory; of any node; without conditions. -/
import Derived.Test.YtaegaeljakdffaaDoorN8RefF
import Derived.Test.YtaegaeljakdffaaDoorN8Act
import Derived.Test.YtaegaeljakdffaaDoorN9W
namespace Go.Proofs.YtaegaeljakdffaaDoor
open Go.RowKit
set_option linter.unusedVariables false
def iv8 (n : Nat) : Value := .int .i64 (n : Int)
theorem info8I : (Tryd.prog.info? 3).map (fun i => (i.zero, i.size, i.bytes)) = some (some (.int .i64 0), 1, 8) := by kernel_rfl
set_option maxRecDepth 100000 in
set_option maxHeartbeats 4000000 in
theorem r8Places_any (n : Nd) (w : World) : Calls Tryd.prog 25 #[n.V] w fun e w' => (∃ v, e = .returned v ∧ w'.ownsRow w.heap.size 3 1 v n.vp.length (n.vp.map iv8)) ∧ Below w.heap.size w w' := by
  obtain ⟨i0, hi, hz0, hz1, hz2⟩ := info_parts info8I
  have r0 := Row.new w 27 n.cl.toArray
  obtain ⟨Wa, hWa⟩ : ∃ Wa, Wa = w.alloc (.cells n.cl.toArray 27) := ⟨_, rfl⟩
  rw [← hWa] at r0
  have HSa := Lib.hid (show w.heap.size ≤ Wa.heap.size by rw [hWa]; simp)
  have HB0 := Lib.hid (show Below w.heap.size w Wa by rw [hWa]; exact alloc_low _ _)
  have HRR := Lib.hid (fun W' (hb : Below Wa.heap.size Wa W') => (show NdAt W' w.heap.size n from r0.below hb r0.lt))
  have HWa := Lib.hid hWa
  have HL := Lib.hid (fun W' => r8Len_any n W')
  have hln := n.len_le
  clear r0 hWa
  go_enter Tryd.func25, Tryd.ntmps25
  go_wp2_with fail
  rw [← HWa.out]
  go_loopw [3, 4] (fun o i wr => ∃ k : Nat, k ≤ n.len ∧ i = .int .i64 (k : Int) ∧ wr.ownsRow Wa.heap.size 3 1 o (n.vpTo k).length ((n.vpTo k).map iv8) ∧ Below Wa.heap.size Wa wr) (fun _ i _ => n.len - (intOf i).toNat)
  case atStart => exact ⟨0, by omega, rfl, World.ownsRow_nil _ _ _ _, Below.refl _ _⟩
  case round =>
    rename World => wr
    obtain ⟨k, hk, rfl, ho, hb⟩ := hrel
    have HO := Lib.hid ho
    clear ho
    by_cases hlt : k < n.len
    · have hk8 : (k : Int) < 8 := by omega
      have HI := Lib.hid (fun W' => r8Is_any n W' (i := k) (by omega))
      have hS := n.vpTo_succ k
      obtain ⟨ob, hob⟩ : ∃ ob, ob = n.ok k := ⟨_, rfl⟩
      rw [← hob] at HI hS
      have HSt := Lib.hid hS
      have hlen := n.vpTo_len k
      clear hob hS
      cases ob with
      | false =>
        have HSt := Lib.hid (show n.vpTo (k + 1) = n.vpTo k by have := HSt.out; simpa using this)
        go_wp2_with (first
          | (refine wpList_load_mid rfl _ _ rfl w.heap.size 0 rfl n.cl _ (ndR (HRR.out _ (by assumption))) Tryd.underlying27 rfl ndI ?_)
          | (go_at_call 37; refine (HL.out _).mono ?_; rintro e w2 ⟨rfl, hb2⟩; have HO2 := Lib.hid (own_keep HO.out hb2); have hb2 := low_and hb hb2)
          | (go_at_call 38; refine (HI.out _).mono ?_; rintro e w3 ⟨rfl, hb3⟩; have HO3 := Lib.hid (own_keep HO2.out hb3); have hb3 := low_and hb2 hb3))
        exact ⟨⟨k + 1, by omega, by go_num, by rw [HSt.out]; exact HO3.out, hb3⟩, by simp [intOf]; omega⟩
      | true =>
        have HSt := Lib.hid (show n.vpTo (k + 1) = n.vpTo k ++ [k] by have := HSt.out; simpa using this)
        obtain ⟨L, hL⟩ : ∃ L, L = (n.vpTo k).length := ⟨_, rfl⟩
        rw [← hL] at HO hlen
        have HLL := Lib.hid hL
        clear hL
        go_wp2_with (first
          | (refine wpList_load_mid rfl _ _ rfl w.heap.size 0 rfl n.cl _ (ndR (HRR.out _ (by assumption))) Tryd.underlying27 rfl ndI ?_)
          | (go_at_call 37; refine (HL.out _).mono ?_; rintro e w2 ⟨rfl, hb2⟩; have HO2 := Lib.hid (own_keep HO.out hb2); have hb2 := low_and hb hb2)
          | (go_at_call 38; refine (HI.out _).mono ?_; rintro e w3 ⟨rfl, hb3⟩; have HO3 := Lib.hid (own_keep HO2.out hb3); have hb3 := low_and hb2 hb3)
          | (at_builtin; refine wpList_append_own _ rfl _ _ 55 rfl Wa.heap.size 3 i0 (.int .i64 0) 1 8 Tryd.underlying55 hi hz0 hz1 hz2 rfl (by decide) _ _ _ rfl (HO3.out.alloc _) ⟨w3.heap.size, 0, none⟩ 1 1 [iv8 k] rfl rfl ?qc1 ?qc2 ?qc3 ?qc4 ?qc5 ?_))
        case qc1 => intro j u hj; cases j with
          | zero => rw [add_zero']; simp at hj; subst hj; simp [iv8]
          | succ j => simp at hj
        case qc2 => intro u hu; simp at hu; subst hu; rfl
        case qc3 => unfold maxLen; omega
        case qc4 => omega
        case qc5 => have := hb3.size; simp; omega
        intro v' w1 hown hgrow hnil
        have HO4 := Lib.hid hown
        have HB4 := Lib.hid ((hb3.alloc hb3.size _).grown hgrow (by have := hb3.size; simp; omega) (fun k hk => own_from HO3.out k hk))
        clear hown hgrow hnil
        go_wp2
        exact ⟨⟨k + 1, by omega, by go_num, by rw [HSt.out, List.length_append, List.map_append, ← HLL.out]; exact HO4.out, HB4.out⟩, by simp [intOf]; omega⟩
    · obtain rfl : k = n.len := by omega
      go_wp2_with (first
        | (refine wpList_load_mid rfl _ _ rfl w.heap.size 0 rfl n.cl _ (ndR (HRR.out _ (by assumption))) Tryd.underlying27 rfl ndI ?_)
        | (go_at_call 37; refine (HL.out _).mono ?_; rintro e w2 ⟨rfl, hb2⟩; have HO2 := Lib.hid (own_keep HO.out hb2); have hb2 := low_and hb hb2))
      go_ret
      exact ⟨⟨_, rfl, own_mono HO2.out HSa.out⟩, low_and HB0.out hb2⟩
theorem infoE8 : (Tryd.prog.info? 39).map (fun i => (i.zero, i.size, i.bytes)) = some (some (.agg #[.int .u64 0, .int .u64 0]), 2, 16) := by kernel_rfl
theorem own_getI {w : World} {B : Nat} {v : Value} {l : List Nat} (h : w.ownsRow B 3 1 v l.length (l.map iv8)) : ∃ A cap, v = .slice A l.length cap ∧ ∀ k, k < l.length → ∃ g, A = some ⟨g, 0, none⟩ ∧ w.cell? ⟨g, k, none⟩ = some (iv8 (l.getD k 0)) := by
  obtain ⟨A, cap, rfl, _, _, hs, _⟩ := own_sl h
  refine ⟨A, cap, rfl, fun k hk => ?_⟩
  obtain ⟨g, cap', he, _, _, hs'⟩ := own_some h (by omega)
  cases he
  refine ⟨g, rfl, ?_⟩
  have := hs' k (iv8 (l.getD k 0)) (by rw [List.getElem?_map, List.getD_eq_getElem?_getD, List.getElem?_eq_getElem hk]; rfl)
  obtain ⟨a, ha, hc⟩ := this
  cases ha
  rw [add_lit] at hc
  exact hc
set_option maxRecDepth 100000 in
set_option maxHeartbeats 4000000 in
theorem r8Valid_any (n : Nd) (w : World) : Calls Tryd.prog 13 #[n.V] w fun e w' => (∃ v, e = .returned v ∧ w'.ownsRow w.heap.size 39 2 v n.es.length (flatE n.es)) ∧ Below w.heap.size w w' := by
  obtain ⟨i0, hi, hz0, hz1, hz2⟩ := info_parts infoE8
  have r0 := Row.new w 27 n.cl.toArray
  obtain ⟨Wa, hWa⟩ : ∃ Wa, Wa = w.alloc (.cells n.cl.toArray 27) := ⟨_, rfl⟩
  rw [← hWa] at r0
  have HSa := Lib.hid (show w.heap.size ≤ Wa.heap.size by rw [hWa]; simp)
  have HB0 := Lib.hid (show Below w.heap.size w Wa by rw [hWa]; exact alloc_low _ _)
  have HRR := Lib.hid (fun W' (hb : Below Wa.heap.size Wa W') => (show NdAt W' w.heap.size n from r0.below hb r0.lt))
  have HWa := Lib.hid hWa
  have HP := Lib.hid (fun W' => r8Places_any n W')
  have hr0 := Below.refl Wa.heap.size Wa
  have HV8 := Lib.hid (fun k (hk : k < n.vp.length) => (show n.vp.getD k 0 < 8 from n.vp_lt8 (by rw [List.getD_eq_getElem?_getD, List.getElem?_eq_getElem hk]; exact List.getElem_mem _)))
  have hln := n.vp_length
  have HES := Lib.hid (show n.es = n.vp.map n.ent from rfl)
  obtain ⟨L, hL⟩ : ∃ L, L = n.vp := ⟨_, rfl⟩
  rw [← hL] at HP HV8 hln HES
  clear r0 hWa hL
  go_enter Tryd.func13, Tryd.ntmps13
  go_wp2_with (first
    | (rw [← HWa.out]; refine wpList_load_mid rfl _ _ rfl w.heap.size 0 rfl n.cl _ (ndR (HRR.out _ (by assumption))) Tryd.underlying27 rfl ndI ?_)
    | (go_at_call 25; refine (HP.out _).mono ?_; rintro e w1 ⟨⟨v, rfl, ho⟩, hb1⟩))
  obtain ⟨A, cap, rfl, hcells⟩ := own_getI ho
  have HCE := Lib.hid hcells
  clear ho hcells
  obtain ⟨m, hm⟩ : ∃ m, m = L.length := ⟨_, rfl⟩
  rw [← hm] at HV8 hln HCE
  rw [← hm]
  have HM := Lib.hid hm
  have HB1 := Lib.hid (low_and hr0 hb1)
  have HBw := Lib.hid hb1
  clear hm hb1
  go_loopw [3, 5] (fun o i wr => ∃ k : Nat, k ≤ m ∧ i = .int .i64 (k : Int) ∧ wr.ownsRow w1.heap.size 39 2 o k (flatE ((L.take k).map n.ent)) ∧ Below w1.heap.size w1 wr) (fun _ i _ => m - (intOf i).toNat)
  case atStart => exact ⟨0, by omega, rfl, World.ownsRow_nil _ _ _ _, Below.refl _ _⟩
  case round =>
    rename World => wr
    obtain ⟨k, hk, rfl, ho, hb⟩ := hrel
    have HO := Lib.hid ho
    have HBr := Lib.hid hb
    have HSZ := Lib.hid hb.size
    have HSZ1 := Lib.hid HB1.out.size
    clear ho
    by_cases hlt : k < m
    · obtain ⟨g, rfl, hcl⟩ := HCE.out k hlt
      have hx8 := HV8.out k hlt
      have HST := Lib.hid (show (L.take (k + 1)).map n.ent = (L.take k).map n.ent ++ [(n.key (L.getD k 0), n.ptr (L.getD k 0))] by
        have hkL : k < L.length := by rw [← HM.out]; exact hlt
        rw [List.take_succ_eq_append_getElem hkL, List.map_append, List.getD_eq_getElem?_getD, List.getElem?_eq_getElem hkL]
        rfl)
      obtain ⟨x, hx⟩ : ∃ x, x = L.getD k 0 := ⟨_, rfl⟩
      rw [← hx] at hcl hx8 HST
      have hxi : (x : Int) < 8 := by omega
      have hN := HRR.out _ (low_and HB1.out hb)
      have ck := ndAt_key hN hx8
      have cp := ndAt_ptr hN hx8
      have cg := (hb.cell (p := ⟨g, k, none⟩) (w1.block_lt_of_cell? _ hcl)).trans hcl
      obtain ⟨y, hy⟩ : ∃ y, y = n.key x := ⟨_, rfl⟩
      obtain ⟨z, hz⟩ : ∃ z, z = n.ptr x := ⟨_, rfl⟩
      rw [← hy] at ck HST
      rw [← hz] at cp HST
      unfold iv8 at cg
      have hki : (k : Int) < (m : Int) := by omega
      clear hcl hN hx hy hz hb
      go_wp2_with fail
      go_region_law ((refine step_append_lies _ (by rfl) (.tmp 14) (.tmp 30) _ (by rfl) w1.heap.size 39 i0 (.agg #[.int .u64 0, .int .u64 0]) 2 16 rfl hi hz0 hz1 hz2 rfl (by decide) _ _ _ (by rfl) (ownS_low HO.out (low_and (alloc_low _ _) (drew_low9 _))) ⟨wr.heap.size, 0, none⟩ 1 1 [.int .u64 y, .int .u64 z] (by rfl) (by rfl) (World.news_of_block (cs := #[.int .u64 y, .int .u64 z]) (t := 39) (fr := (0, 0)) (heap_alloc_new9 wr _)) (by intro u hu; simp at hu; rcases hu with rfl | rfl <;> rfl) (by decide) (by unfold maxLen; omega) (by omega) (by simp; have := HSZ.out; have := HSZ1.out; omega) (wr.heap.size + 1) (by simp) ?_; intro g4 cap4 w4 hown hgrow hsm hlt2))
      all_goals
        have HO4 := Lib.hid hown
        have HB4 := Lib.hid (show Below w1.heap.size w1 w4 from (low_and HBr.out (low_and (alloc_low _ _) (drew_low9 _))).grown hgrow (by have := HSZ.out; simp; omega) (fun g hg => (ownS_from HO.out g hg).1))
        clear hown hgrow hsm hlt2
        go_wp2
        exact ⟨⟨k + 1, by omega, by go_num, by rw [HST.out, flatE_snoc]; exact HO4.out, HB4.out⟩, by simp [intOf]; omega⟩
    · obtain rfl : k = m := by omega
      go_wp2
      go_ret
      refine ⟨⟨_, rfl, ?_⟩, low_and HB0.out (low_and HB1.out HBr.out)⟩
      have := ownS_mono HO.out (Nat.le_trans HSa.out HSZ1.out)
      rw [List.take_of_length_le (Nat.le_of_eq HM.out.symm)] at this
      rw [HES.out, List.length_map, ← HM.out]
      exact this
end Go.Proofs.YtaegaeljakdffaaDoor
