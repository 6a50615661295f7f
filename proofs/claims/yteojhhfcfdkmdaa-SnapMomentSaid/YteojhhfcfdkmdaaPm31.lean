/- Texts of this claim, packed: N9W, N8RefP, N8RefS, N9Ch. -/
import Derived.Test.YteojhhfcfdkmdaaPm11
import Derived.Test.YteojhhfcfdkmdaaPm30
import Derived.Test.YteojhhfcfdkmdaaPm02
import Derived.Test.YteojhhfcfdkmdaaPm10
import Derived.Deep.RegionLaw
import Derived.Deep.AppendLies
set_option linter.unusedSimpArgs false
set_option linter.unusedVariables false
/- Worlds that have grown: small facts; no conditions. -/
namespace Go.Proofs.Yteojhhfcfdkmdaa
open Go.RowKit Go.Sort
set_option linter.unusedVariables false
theorem frozen_grown9 {w w' : World} {row : Option Nat} (hg : w.grownBy w' row) {p : Addr} (hl : p.block < w.heap.size) (hn : some p.block ≠ row) (hf : w.frozen? p = false) : w'.frozen? p = false := by
  rw [World.frozen?_of_block (hg.block _ hl hn)]; exact hf
theorem frozen_alloc9 {w : World} {p : Addr} (hl : p.block < w.heap.size) (o : Obj) : (w.alloc o).frozen? p = w.frozen? p := World.frozen?_of_block (Below.heap_alloc w o p.block hl)
theorem heap_alloc_new9 (w : World) (o : Obj) : (w.alloc o).heap[w.heap.size]? = some o := by
  unfold World.alloc
  exact Array.getElem?_push_size
theorem drew_low9 (w : World) : Below w.heap.size w w.drew := ⟨rfl, rfl, rfl, Nat.le_refl _, fun _ _ => rfl⟩
end Go.Proofs.Yteojhhfcfdkmdaa
/- The document's Places and Valid: in new memory; of any node; without conditions. -/
namespace Go.Proofs.Yteojhhfcfdkmdaa
open Go.RowKit
set_option linter.unusedVariables false
def iv8 (n : Nat) : Value := .int .i64 (n : Int)
theorem info8I : (Try.prog.info? 3).map (fun i => (i.zero, i.size, i.bytes)) = some (some (.int .i64 0), 1, 8) := by kernel_rfl
set_option maxRecDepth 100000 in
set_option maxHeartbeats 4000000 in
theorem r8Places_any (n : Nd) (w : World) : Calls Try.prog 35 #[n.V] w fun e w' => (∃ v, e = .returned v ∧ w'.ownsRow w.heap.size 3 1 v n.vp.length (n.vp.map iv8)) ∧ Below w.heap.size w w' := by
  obtain ⟨i0, hi, hz0, hz1, hz2⟩ := info_parts info8I
  have r0 := Row.new w 27 n.cl.toArray
  obtain ⟨Wa, hWa⟩ : ∃ Wa, Wa = w.alloc (.cells n.cl.toArray 27) := ⟨_, rfl⟩
  rw [← hWa] at r0
  have HSa := Lib.hid (show w.heap.size ≤ Wa.heap.size by rw [hWa]; simp)
  have HB0 := Lib.hid (show Below w.heap.size w Wa by rw [hWa]; exact alloc_low _ _)
  have HRR := Lib.hid (fun W' (hb : Below Wa.heap.size Wa W') => (show NdAt W' w.heap.size n from r0.below hb r0.lt))
  have HWa := Lib.hid hWa
  have HL := Lib.hid (fun W' => r8Len_any n W')
  have hln := n.len_le
  clear r0 hWa
  go_enter Try.func35, Try.ntmps35
  go_wp2_with fail
  rw [← HWa.out]
  go_loopw [3, 4] (fun o i wr => ∃ k : Nat, k ≤ n.len ∧ i = .int .i64 (k : Int) ∧ wr.ownsRow Wa.heap.size 3 1 o (n.vpTo k).length ((n.vpTo k).map iv8) ∧ Below Wa.heap.size Wa wr) (fun _ i _ => n.len - (intOf i).toNat)
  case atStart => exact ⟨0, by omega, rfl, World.ownsRow_nil _ _ _ _, Below.refl _ _⟩
  case round =>
    rename World => wr
    obtain ⟨k, hk, rfl, ho, hb⟩ := hrel
    have HO := Lib.hid ho
    clear ho
    by_cases hlt : k < n.len
    · have hk8 : (k : Int) < 8 := by omega
      have HI := Lib.hid (fun W' => r8Is_any n W' (i := k) (by omega))
      have hS := n.vpTo_succ k
      obtain ⟨ob, hob⟩ : ∃ ob, ob = n.ok k := ⟨_, rfl⟩
      rw [← hob] at HI hS
      have HSt := Lib.hid hS
      have hlen := n.vpTo_len k
      clear hob hS
      cases ob with
      | false =>
        have HSt := Lib.hid (show n.vpTo (k + 1) = n.vpTo k by have := HSt.out; simpa using this)
        go_wp2_with (first
          | (refine wpList_load_mid rfl _ _ rfl w.heap.size 0 rfl n.cl _ (ndR (HRR.out _ (by assumption))) Try.underlying27 rfl ndI ?_)
          | (go_at_call 16; refine (HL.out _).mono ?_; rintro e w2 ⟨rfl, hb2⟩; have HO2 := Lib.hid (own_keep HO.out hb2); have hb2 := low_and hb hb2)
          | (go_at_call 34; refine (HI.out _).mono ?_; rintro e w3 ⟨rfl, hb3⟩; have HO3 := Lib.hid (own_keep HO2.out hb3); have hb3 := low_and hb2 hb3))
        exact ⟨⟨k + 1, by omega, by go_num, by rw [HSt.out]; exact HO3.out, hb3⟩, by simp [intOf]; omega⟩
      | true =>
        have HSt := Lib.hid (show n.vpTo (k + 1) = n.vpTo k ++ [k] by have := HSt.out; simpa using this)
        obtain ⟨L, hL⟩ : ∃ L, L = (n.vpTo k).length := ⟨_, rfl⟩
        rw [← hL] at HO hlen
        have HLL := Lib.hid hL
        clear hL
        go_wp2_with (first
          | (refine wpList_load_mid rfl _ _ rfl w.heap.size 0 rfl n.cl _ (ndR (HRR.out _ (by assumption))) Try.underlying27 rfl ndI ?_)
          | (go_at_call 16; refine (HL.out _).mono ?_; rintro e w2 ⟨rfl, hb2⟩; have HO2 := Lib.hid (own_keep HO.out hb2); have hb2 := low_and hb hb2)
          | (go_at_call 34; refine (HI.out _).mono ?_; rintro e w3 ⟨rfl, hb3⟩; have HO3 := Lib.hid (own_keep HO2.out hb3); have hb3 := low_and hb2 hb3)
          | (at_builtin; refine wpList_append_own _ rfl _ _ 86 rfl Wa.heap.size 3 i0 (.int .i64 0) 1 8 Try.underlying86 hi hz0 hz1 hz2 rfl (by decide) _ _ _ rfl (HO3.out.alloc _) ⟨w3.heap.size, 0, none⟩ 1 1 [iv8 k] rfl rfl ?qc1 ?qc2 ?qc3 ?qc4 ?qc5 ?_))
        case qc1 => intro j u hj; cases j with
          | zero => rw [add_zero']; simp at hj; subst hj; simp [iv8]
          | succ j => simp at hj
        case qc2 => intro u hu; simp at hu; subst hu; rfl
        case qc3 => unfold maxLen; omega
        case qc4 => omega
        case qc5 => have := hb3.size; simp; omega
        intro v' w1 hown hgrow hnil
        have HO4 := Lib.hid hown
        have HB4 := Lib.hid ((hb3.alloc hb3.size _).grown hgrow (by have := hb3.size; simp; omega) (fun k hk => own_from HO3.out k hk))
        clear hown hgrow hnil
        go_wp2
        exact ⟨⟨k + 1, by omega, by go_num, by rw [HSt.out, List.length_append, List.map_append, ← HLL.out]; exact HO4.out, HB4.out⟩, by simp [intOf]; omega⟩
    · obtain rfl : k = n.len := by omega
      go_wp2_with (first
        | (refine wpList_load_mid rfl _ _ rfl w.heap.size 0 rfl n.cl _ (ndR (HRR.out _ (by assumption))) Try.underlying27 rfl ndI ?_)
        | (go_at_call 16; refine (HL.out _).mono ?_; rintro e w2 ⟨rfl, hb2⟩; have HO2 := Lib.hid (own_keep HO.out hb2); have hb2 := low_and hb hb2))
      go_ret
      exact ⟨⟨_, rfl, own_mono HO2.out HSa.out⟩, low_and HB0.out hb2⟩
theorem infoE8 : (Try.prog.info? 89).map (fun i => (i.zero, i.size, i.bytes)) = some (some (.agg #[.int .u64 0, .int .u64 0]), 2, 16) := by kernel_rfl
theorem own_getI {w : World} {B : Nat} {v : Value} {l : List Nat} (h : w.ownsRow B 3 1 v l.length (l.map iv8)) : ∃ A cap, v = .slice A l.length cap ∧ ∀ k, k < l.length → ∃ g, A = some ⟨g, 0, none⟩ ∧ w.cell? ⟨g, k, none⟩ = some (iv8 (l.getD k 0)) := by
  obtain ⟨A, cap, rfl, _, _, hs, _⟩ := own_sl h
  refine ⟨A, cap, rfl, fun k hk => ?_⟩
  obtain ⟨g, cap', he, _, _, hs'⟩ := own_some h (by omega)
  cases he
  refine ⟨g, rfl, ?_⟩
  have := hs' k (iv8 (l.getD k 0)) (by rw [List.getElem?_map, List.getD_eq_getElem?_getD, List.getElem?_eq_getElem hk]; rfl)
  obtain ⟨a, ha, hc⟩ := this
  cases ha
  rw [add_lit] at hc
  exact hc
set_option maxRecDepth 100000 in
set_option maxHeartbeats 4000000 in
theorem r8Valid_any (n : Nd) (w : World) : Calls Try.prog 17 #[n.V] w fun e w' => (∃ v, e = .returned v ∧ w'.ownsRow w.heap.size 89 2 v n.es.length (flatE n.es)) ∧ Below w.heap.size w w' := by
  obtain ⟨i0, hi, hz0, hz1, hz2⟩ := info_parts infoE8
  have r0 := Row.new w 27 n.cl.toArray
  obtain ⟨Wa, hWa⟩ : ∃ Wa, Wa = w.alloc (.cells n.cl.toArray 27) := ⟨_, rfl⟩
  rw [← hWa] at r0
  have HSa := Lib.hid (show w.heap.size ≤ Wa.heap.size by rw [hWa]; simp)
  have HB0 := Lib.hid (show Below w.heap.size w Wa by rw [hWa]; exact alloc_low _ _)
  have HRR := Lib.hid (fun W' (hb : Below Wa.heap.size Wa W') => (show NdAt W' w.heap.size n from r0.below hb r0.lt))
  have HWa := Lib.hid hWa
  have HP := Lib.hid (fun W' => r8Places_any n W')
  have hr0 := Below.refl Wa.heap.size Wa
  have HV8 := Lib.hid (fun k (hk : k < n.vp.length) => (show n.vp.getD k 0 < 8 from n.vp_lt8 (by rw [List.getD_eq_getElem?_getD, List.getElem?_eq_getElem hk]; exact List.getElem_mem _)))
  have hln := n.vp_length
  have HES := Lib.hid (show n.es = n.vp.map n.ent from rfl)
  obtain ⟨L, hL⟩ : ∃ L, L = n.vp := ⟨_, rfl⟩
  rw [← hL] at HP HV8 hln HES
  clear r0 hWa hL
  go_enter Try.func17, Try.ntmps17
  go_wp2_with (first
    | (rw [← HWa.out]; refine wpList_load_mid rfl _ _ rfl w.heap.size 0 rfl n.cl _ (ndR (HRR.out _ (by assumption))) Try.underlying27 rfl ndI ?_)
    | (go_at_call 35; refine (HP.out _).mono ?_; rintro e w1 ⟨⟨v, rfl, ho⟩, hb1⟩))
  obtain ⟨A, cap, rfl, hcells⟩ := own_getI ho
  have HCE := Lib.hid hcells
  clear ho hcells
  obtain ⟨m, hm⟩ : ∃ m, m = L.length := ⟨_, rfl⟩
  rw [← hm] at HV8 hln HCE
  rw [← hm]
  have HM := Lib.hid hm
  have HB1 := Lib.hid (low_and hr0 hb1)
  have HBw := Lib.hid hb1
  clear hm hb1
  go_loopw [3, 5] (fun o i wr => ∃ k : Nat, k ≤ m ∧ i = .int .i64 (k : Int) ∧ wr.ownsRow w1.heap.size 89 2 o k (flatE ((L.take k).map n.ent)) ∧ Below w1.heap.size w1 wr) (fun _ i _ => m - (intOf i).toNat)
  case atStart => exact ⟨0, by omega, rfl, World.ownsRow_nil _ _ _ _, Below.refl _ _⟩
  case round =>
    rename World => wr
    obtain ⟨k, hk, rfl, ho, hb⟩ := hrel
    have HO := Lib.hid ho
    have HBr := Lib.hid hb
    have HSZ := Lib.hid hb.size
    have HSZ1 := Lib.hid HB1.out.size
    clear ho
    by_cases hlt : k < m
    · obtain ⟨g, rfl, hcl⟩ := HCE.out k hlt
      have hx8 := HV8.out k hlt
      have HST := Lib.hid (show (L.take (k + 1)).map n.ent = (L.take k).map n.ent ++ [(n.key (L.getD k 0), n.ptr (L.getD k 0))] by
        have hkL : k < L.length := by rw [← HM.out]; exact hlt
        rw [List.take_succ_eq_append_getElem hkL, List.map_append, List.getD_eq_getElem?_getD, List.getElem?_eq_getElem hkL]
        rfl)
      obtain ⟨x, hx⟩ : ∃ x, x = L.getD k 0 := ⟨_, rfl⟩
      rw [← hx] at hcl hx8 HST
      have hxi : (x : Int) < 8 := by omega
      have hN := HRR.out _ (low_and HB1.out hb)
      have ck := ndAt_key hN hx8
      have cp := ndAt_ptr hN hx8
      have cg := (hb.cell (p := ⟨g, k, none⟩) (w1.block_lt_of_cell? _ hcl)).trans hcl
      obtain ⟨y, hy⟩ : ∃ y, y = n.key x := ⟨_, rfl⟩
      obtain ⟨z, hz⟩ : ∃ z, z = n.ptr x := ⟨_, rfl⟩
      rw [← hy] at ck HST
      rw [← hz] at cp HST
      unfold iv8 at cg
      have hki : (k : Int) < (m : Int) := by omega
      clear hcl hN hx hy hz hb
      go_wp2_with fail
      go_region_law ((refine step_append_lies _ (by rfl) (.tmp 14) (.tmp 30) _ (by rfl) w1.heap.size 89 i0 (.agg #[.int .u64 0, .int .u64 0]) 2 16 rfl hi hz0 hz1 hz2 rfl (by decide) _ _ _ (by rfl) (ownS_low HO.out (low_and (alloc_low _ _) (drew_low9 _))) ⟨wr.heap.size, 0, none⟩ 1 1 [.int .u64 y, .int .u64 z] (by rfl) (by rfl) (World.news_of_block (cs := #[.int .u64 y, .int .u64 z]) (t := 89) (fr := (0, 0)) (heap_alloc_new9 wr _)) (by intro u hu; simp at hu; rcases hu with rfl | rfl <;> rfl) (by decide) (by unfold maxLen; omega) (by omega) (by simp; have := HSZ.out; have := HSZ1.out; omega) (wr.heap.size + 1) (by simp) ?_; intro g4 cap4 w4 hown hgrow hsm hlt2))
      all_goals
        have HO4 := Lib.hid hown
        have HB4 := Lib.hid (show Below w1.heap.size w1 w4 from (low_and HBr.out (low_and (alloc_low _ _) (drew_low9 _))).grown hgrow (by have := HSZ.out; simp; omega) (fun g hg => (ownS_from HO.out g hg).1))
        clear hown hgrow hsm hlt2
        go_wp2
        exact ⟨⟨k + 1, by omega, by go_num, by rw [HST.out, flatE_snoc]; exact HO4.out, HB4.out⟩, by simp [intOf]; omega⟩
    · obtain rfl : k = m := by omega
      go_wp2
      go_ret
      refine ⟨⟨_, rfl, ?_⟩, low_and HB0.out (low_and HB1.out HBr.out)⟩
      have := ownS_mono HO.out (Nat.le_trans HSa.out HSZ1.out)
      rw [List.take_of_length_le (Nat.le_of_eq HM.out.symm)] at this
      rw [HES.out, List.length_map, ← HM.out]
      exact this
end Go.Proofs.Yteojhhfcfdkmdaa
/- The document's Rise and May: of any node, any few entries; without conditions else. -/
namespace Go.Proofs.Yteojhhfcfdkmdaa
open Go.RowKit
set_option linter.unusedVariables false
/-- What Rise asks, as the program has it in two. -/
def riseR (level low first : Int) (l : List (Int × Int)) : Bool := riseB low (decide (level ≤ 0)) l && unlB first l
theorem drewN_two (w : World) (a b : Nat) : ∃ q, (w.drewN a).drewN b = w.drewN q := by
  exact ⟨_, World.drewN_drewN _ _ _⟩
theorem rise_last {a : Int} {c : Bool} : ∀ {l : List (Int × Int)} {e : Int × Int}, riseB a c (l ++ [e]) = (riseB a c l && match l.getLast? with | some x => decide (x.1 < e.1) | none => decide (¬ (e.1 < a ∨ (e.1 = a ∧ c = false)))) := by
  intro l
  induction l generalizing a c with
  | nil => intro e; simp only [List.nil_append, riseB, List.getLast?_nil, Bool.true_and]; split <;> simp_all
  | cons x t ih =>
    intro e
    rw [List.cons_append, riseB, riseB]
    split
    · rfl
    · rw [ih]
      cases t with
      | nil =>
        simp only [List.getLast?_nil, List.getLast?_singleton, riseB, Bool.true_and]
        congr 1
        apply propext
        simp
        omega
      | cons y t =>
        obtain ⟨z, hz⟩ : ∃ z, (y :: t).getLast? = some z := ⟨_, List.getLast?_eq_some_getLast (by simp)⟩
        rw [List.getLast?_cons_cons, hz]
theorem unl_last {f : Int} {l : List (Int × Int)} {e : Int × Int} : unlB f (l ++ [e]) = (unlB f l && decide (e.2 ≠ f ∧ ∀ x ∈ l, x.2 ≠ e.2)) := by
  unfold unlB
  rw [← Bool.decide_and]
  congr 1
  apply propext
  rw [List.map_append, ← List.cons_append, List.nodup_append]
  constructor
  · rintro ⟨h1, _, h3⟩
    refine ⟨h1, fun h => h3 f (by simp) e.2 (by simp) h.symm, fun x hx h => h3 x.2 (by simp; exact Or.inr ⟨x.1, hx⟩) e.2 (by simp) h⟩
  · rintro ⟨h1, h2, h3⟩
    refine ⟨h1, by simp, fun a ha b hb => ?_⟩
    simp at hb
    subst hb
    rcases List.mem_cons.1 ha with rfl | ha
    · exact fun h => h2 h.symm
    · obtain ⟨x, hx, rfl⟩ := List.mem_map.1 ha
      exact h3 x hx
theorem riseR_pre {level low first : Int} {l : List (Int × Int)} (k : Nat) (h : riseR level low first (l.take k) = false) : riseR level low first l = false := by
  rw [Bool.eq_false_iff] at h ⊢
  intro hh
  refine h ?_
  unfold riseR at hh ⊢
  rw [Bool.and_eq_true] at hh ⊢
  exact ⟨riseB_sub hh.1 (List.take_sublist _ _), unlB_sub hh.2 (List.take_sublist _ _)⟩
theorem riseR_step {level low first : Int} {l : List (Int × Int)} {k : Nat} (hk : k < l.length) (h : riseR level low first (l.take k) = true) :
    riseR level low first (l.take (k + 1)) = (decide (¬ ((l.getD k (0, 0)).1 < low ∨ (0 < level ∧ (l.getD k (0, 0)).1 = low)) ∧ ¬ ((0 < k ∧ (l.getD k (0, 0)).1 ≤ (l.getD (k - 1) (0, 0)).1) ∨ (l.getD k (0, 0)).2 = first) ∧ ∀ j, j < k → (l.getD j (0, 0)).2 ≠ (l.getD k (0, 0)).2)) := by
  have hge : l.getD k (0, 0) = l[k] := by rw [List.getD_eq_getElem?_getD, List.getElem?_eq_getElem hk]; rfl
  rw [List.take_succ_eq_append_getElem hk, hge]
  unfold riseR at h ⊢
  rw [Bool.and_eq_true] at h
  rw [rise_last, unl_last, h.1, h.2, Bool.true_and, Bool.true_and]
  have hu : (∀ x ∈ l.take k, x.2 ≠ l[k].2) ↔ ∀ j, j < k → (l.getD j (0, 0)).2 ≠ l[k].2 := by
    constructor
    · intro hh j hj
      refine hh _ ?_
      rw [List.getD_eq_getElem?_getD, List.getElem?_eq_getElem (by omega)]
      exact List.mem_take_iff_getElem.2 ⟨j, by omega, rfl⟩
    · intro hh x hx
      obtain ⟨j, hj, rfl⟩ := List.mem_take_iff_getElem.1 hx
      have := hh j (by omega)
      rw [List.getD_eq_getElem?_getD, List.getElem?_eq_getElem (by omega)] at this
      exact this
  have hfst : (match (l.take k).getLast? with | some x => decide (x.1 < l[k].1) | none => decide (¬ (l[k].1 < low ∨ (l[k].1 = low ∧ decide (level ≤ 0) = false)))) = decide (¬ (l[k].1 < low ∨ (0 < level ∧ l[k].1 = low)) ∧ ¬ (0 < k ∧ l[k].1 ≤ (l.getD (k - 1) (0, 0)).1)) := by
    cases k with
    | zero =>
      simp only [List.take_zero, List.getLast?_nil]
      congr 1
      apply propext
      simp
      omega
    | succ k =>
      have hl : (l.take (k + 1)).getLast? = some (l.getD k (0, 0)) := by
        have hk2 : k < l.length := by omega
        rw [List.take_succ_eq_append_getElem hk2, List.getLast?_append, List.getD_eq_getElem?_getD, List.getElem?_eq_getElem hk2]
        rfl
      have hm := ((riseB_iff _ _ _).1 h.1).1 (l.getD k (0, 0)) (List.mem_of_getLast? hl)
      rw [hl, Nat.add_sub_cancel]
      dsimp only
      congr 1
      apply propext
      simp at hm ⊢
      omega
  rw [hfst, ← Bool.decide_and]
  congr 1
  apply propext
  rw [hu]
  constructor
  · rintro ⟨⟨h1, h2⟩, h3, h4⟩
    exact ⟨h1, fun hh => Or.elim hh h2 h3, h4⟩
  · rintro ⟨h1, h2, h3⟩
    exact ⟨⟨h1, fun hh => h2 (Or.inl hh)⟩, fun hh => h2 (Or.inr hh), h3⟩
set_option maxRecDepth 100000 in
set_option maxHeartbeats 4000000 in
theorem r8Rise_any {w : World} {v : Value} {l : List (Int × Int)} (h : EntAt w v l) (hl : l.length ≤ 1000) (level low first : Int) :
    Calls Try.prog 36 #[.int .i64 level, .int .u64 low, .int .u64 first, v] w fun e w' => e = .returned (.bool (riseR level low first l)) ∧ Below w.heap.size w w' := by
  obtain ⟨A, cap, rfl, hA⟩ := h
  obtain ⟨m, hm⟩ : ∃ m, m = l.length := ⟨_, rfl⟩
  have HA := Lib.hid (fun (h0 : 0 < m) => (show ∃ g o, A = some ⟨g, o, none⟩ ∧ ∀ k, k < m → w.cell? ⟨g, o + k * 2, none⟩ = some (.int .u64 (l.getD k (0, 0)).1) ∧ w.cell? ⟨g, o + k * 2 + 1, none⟩ = some (.int .u64 (l.getD k (0, 0)).2) by
    obtain ⟨g, o, rfl, hc⟩ := hA (by omega)
    exact ⟨g, o, rfl, fun k hk => hc k _ (getD_ent (by omega))⟩))
  have HP := Lib.hid (fun k (h : riseR level low first (l.take k) = false) => riseR_pre k h)
  have HS := Lib.hid (fun k (hk : k < m) (h : riseR level low first (l.take k) = true) => riseR_step (by omega) h)
  have HE := Lib.hid (show l.take m = l by rw [hm]; exact List.take_length)
  have H0 := Lib.hid (show riseR level low first (l.take 0) = true from rfl)
  rw [← hm] at hl ⊢
  obtain ⟨R, hR⟩ : ∃ R, R = riseR level low first l := ⟨_, rfl⟩
  have HR := Lib.hid hR
  rw [← hR] at HP ⊢
  clear hA hm hR
  go_enter Try.func36, Try.ntmps36
  go_wp2_with fail
  go_loopw [9] (fun i wr => ∃ k : Nat, k ≤ m ∧ i = .int .i64 (k : Int) ∧ riseR level low first (l.take k) = true ∧ ∃ q, wr = w.drewN q) (fun i _ => m - (intOf i).toNat)
  case atStart => exact ⟨0, by omega, rfl, H0.out, 0, rfl⟩
  case round =>
    obtain ⟨k, hk, rfl, hr, q, rfl⟩ := hrel
    by_cases hlt : k < m
    · obtain ⟨g, o, rfl, hc⟩ := HA.out (by omega)
      have HSk := Lib.hid (HS.out k hlt hr)
      have HPk := Lib.hid (HP.out (k + 1))
      have HC := Lib.hid hc
      obtain ⟨c1, c2⟩ := hc k hlt
      have hkb : k < 1000 := by omega
      have hki : (k : Int) < (m : Int) := by omega
      obtain ⟨x, hx⟩ : ∃ x, x = (l.getD k (0, 0)).1 := ⟨_, rfl⟩
      obtain ⟨y, hy⟩ : ∃ y, y = (l.getD k (0, 0)).2 := ⟨_, rfl⟩
      rw [← hx] at c1
      rw [← hy] at c2
      rw [← hx, ← hy] at HSk
      have HX := Lib.hid hx
      have HY := Lib.hid hy
      clear hc hr hx hy
      obtain h1 | h1 : x < low ∨ ¬ x < low := by omega
      · have HRf := Lib.hid (show R = false from HPk.out (by rw [HSk.out, decide_eq_false_iff_not]; omega))
        go_wp2
        go_ret
        exact ⟨by rw [HRf.out]; rfl, ⟨rfl, rfl, rfl, Nat.le_refl _, fun _ _ => rfl⟩⟩
      · have h1' : low ≤ x := by omega
        obtain h2 | h2 : (0 < level ∧ x = low) ∨ ¬ (0 < level ∧ x = low) := by omega
        · have HRf := Lib.hid (show R = false from HPk.out (by rw [HSk.out, decide_eq_false_iff_not]; omega))
          obtain ⟨h2a, rfl⟩ := h2
          go_wp2
          go_ret
          exact ⟨by rw [HRf.out]; rfl, ⟨rfl, rfl, rfl, Nat.le_refl _, fun _ _ => rfl⟩⟩
        · have HOK1 := Lib.hid (show ¬ (x < low ∨ (0 < level ∧ x = low)) by omega)
          have hcase : ¬ 0 < level ∨ (0 < level ∧ x ≠ low) := by omega
          clear h2
          have go_on : True := trivial
          obtain hk0 | hk0 : k = 0 ∨ 0 < k := by omega
          · have hkd : decide (0 < k) = false := by simp; omega
            have HK0 := Lib.hid hk0
            clear hk0
            obtain rfl | hyf : y = first ∨ y ≠ first := by omega
            · have HRf := Lib.hid (show R = false from HPk.out (by rw [HSk.out, decide_eq_false_iff_not]; rintro ⟨_, h, _⟩; exact h (Or.inr rfl)))
              rcases hcase with hlv | ⟨hlv, hxl⟩
              · go_wp2
                go_quiet (fail)
                go_wp2
                go_ret
                exact ⟨by rw [HRf.out]; rfl, ⟨rfl, rfl, rfl, Nat.le_refl _, fun _ _ => rfl⟩⟩
              · have hxb : (x == low) = false := by simpa using hxl
                go_wp2
                go_quiet (fail)
                go_wp2
                go_ret
                exact ⟨by rw [HRf.out]; rfl, ⟨rfl, rfl, rfl, Nat.le_refl _, fun _ _ => rfl⟩⟩
            · have hyb : (y == first) = false := by simpa using hyf
              have HOK2 := Lib.hid (show ¬ ((0 < k ∧ x ≤ (l.getD (k - 1) (0, 0)).1) ∨ y = first) by have := HK0.out; rintro (h | h) <;> omega)
              rcases hcase with hlv | ⟨hlv, hxl⟩
              · go_wp2
                go_quiet (fail)
                go_wp2
                go_loopw [10] (fun i wr => ∃ j : Nat, j ≤ k ∧ i = .int .i64 (j : Int) ∧ (∀ p, p < j → (l.getD p (0, 0)).2 ≠ y) ∧ ∃ q, wr = w.drewN q) (fun i _ => k - (intOf i).toNat)
                case atStart => exact ⟨0, by omega, rfl, fun p hp => by omega, by first | exact drewN_two _ _ _ | exact ⟨_, rfl⟩⟩
                case round =>
                  obtain ⟨j, hj, rfl, hne, q3, rfl⟩ := hrel
                  have HNE := Lib.hid hne
                  clear hne
                  by_cases hjk : j < k
                  · obtain ⟨_, d2⟩ := HC.out j (by omega)
                    have hji : (j : Int) < (m : Int) := by omega
                    have hjki : (j : Int) < (k : Int) := by omega
                    obtain ⟨z, hz⟩ : ∃ z, z = (l.getD j (0, 0)).2 := ⟨_, rfl⟩
                    rw [← hz] at d2
                    have HZ := Lib.hid hz
                    clear hz
                    obtain rfl | hzy : z = y ∨ z ≠ y := by omega
                    · have HRf := Lib.hid (show R = false from HPk.out (by rw [HSk.out, decide_eq_false_iff_not]; rintro ⟨_, _, h⟩; exact h j hjk HZ.out.symm))
                      go_wp2
                      go_quiet (fail)
                      go_wp2
                      go_ret
                      exact ⟨by rw [HRf.out]; rfl, ⟨rfl, rfl, rfl, Nat.le_refl _, fun _ _ => rfl⟩⟩
                    · have hzb : (z == y) = false := by simpa using hzy
                      go_wp2
                      go_quiet (fail)
                      go_wp2
                      refine ⟨⟨j + 1, by omega, by go_num, fun p hp => ?_, by first | exact drewN_two _ _ _ | exact ⟨_, rfl⟩⟩, by simp [intOf]; omega⟩
                      rcases Nat.lt_or_eq_of_le (Nat.le_of_lt_succ hp) with h | rfl
                      · exact HNE.out p h
                      · rw [← HZ.out]; exact hzy
                  · obtain rfl : j = k := by omega
                    have HRt := Lib.hid (show riseR level low first (l.take (j + 1)) = true by rw [HSk.out, decide_eq_true_eq]; exact ⟨HOK1.out, HOK2.out, HNE.out⟩)
                    go_wp2
                    exact ⟨⟨j + 1, by omega, by go_num, HRt.out, _, rfl⟩, by simp [intOf]; omega⟩
              · have hxb : (x == low) = false := by simpa using hxl
                go_wp2
                go_quiet (fail)
                go_wp2
                go_loopw [10] (fun i wr => ∃ j : Nat, j ≤ k ∧ i = .int .i64 (j : Int) ∧ (∀ p, p < j → (l.getD p (0, 0)).2 ≠ y) ∧ ∃ q, wr = w.drewN q) (fun i _ => k - (intOf i).toNat)
                case atStart => exact ⟨0, by omega, rfl, fun p hp => by omega, by first | exact drewN_two _ _ _ | exact ⟨_, rfl⟩⟩
                case round =>
                  obtain ⟨j, hj, rfl, hne, q3, rfl⟩ := hrel
                  have HNE := Lib.hid hne
                  clear hne
                  by_cases hjk : j < k
                  · obtain ⟨_, d2⟩ := HC.out j (by omega)
                    have hji : (j : Int) < (m : Int) := by omega
                    have hjki : (j : Int) < (k : Int) := by omega
                    obtain ⟨z, hz⟩ : ∃ z, z = (l.getD j (0, 0)).2 := ⟨_, rfl⟩
                    rw [← hz] at d2
                    have HZ := Lib.hid hz
                    clear hz
                    obtain rfl | hzy : z = y ∨ z ≠ y := by omega
                    · have HRf := Lib.hid (show R = false from HPk.out (by rw [HSk.out, decide_eq_false_iff_not]; rintro ⟨_, _, h⟩; exact h j hjk HZ.out.symm))
                      go_wp2
                      go_quiet (fail)
                      go_wp2
                      go_ret
                      exact ⟨by rw [HRf.out]; rfl, ⟨rfl, rfl, rfl, Nat.le_refl _, fun _ _ => rfl⟩⟩
                    · have hzb : (z == y) = false := by simpa using hzy
                      go_wp2
                      go_quiet (fail)
                      go_wp2
                      refine ⟨⟨j + 1, by omega, by go_num, fun p hp => ?_, by first | exact drewN_two _ _ _ | exact ⟨_, rfl⟩⟩, by simp [intOf]; omega⟩
                      rcases Nat.lt_or_eq_of_le (Nat.le_of_lt_succ hp) with h | rfl
                      · exact HNE.out p h
                      · rw [← HZ.out]; exact hzy
                  · obtain rfl : j = k := by omega
                    have HRt := Lib.hid (show riseR level low first (l.take (j + 1)) = true by rw [HSk.out, decide_eq_true_eq]; exact ⟨HOK1.out, HOK2.out, HNE.out⟩)
                    go_wp2
                    exact ⟨⟨j + 1, by omega, by go_num, HRt.out, _, rfl⟩, by simp [intOf]; omega⟩
          · obtain ⟨j0, rfl⟩ : ∃ j0, k = j0 + 1 := ⟨k - 1, by omega⟩
            obtain ⟨b1, _⟩ := HC.out j0 (by omega)
            have hki0 : (0 : Int) < ((j0 + 1 : Nat) : Int) := by omega
            have hj0 : ((j0 + 1 : Nat) : Int) - 1 = (j0 : Int) := by omega
            have hj0i : (j0 : Int) < (m : Int) := by omega
            obtain ⟨u, hu⟩ : ∃ u, u = (l.getD j0 (0, 0)).1 := ⟨_, rfl⟩
            rw [← hu] at b1
            have HU := Lib.hid hu
            clear hu
            have HJ0 := Lib.hid (show (l.getD (j0 + 1 - 1) (0, 0)).1 = u by rw [Nat.add_sub_cancel]; exact HU.out.symm)
            obtain hxu | hxu : x ≤ u ∨ u < x := by omega
            · have HRf := Lib.hid (show R = false from HPk.out (by rw [HSk.out, decide_eq_false_iff_not]; rintro ⟨_, h, _⟩; exact h (Or.inl ⟨by omega, by rw [HJ0.out]; exact hxu⟩)))
              rcases hcase with hlv | ⟨hlv, hxl⟩
              · go_wp2
                go_quiet (fail)
                go_wp2
                go_ret
                exact ⟨by rw [HRf.out]; rfl, ⟨rfl, rfl, rfl, Nat.le_refl _, fun _ _ => rfl⟩⟩
              · have hxb : (x == low) = false := by simpa using hxl
                go_wp2
                go_quiet (fail)
                go_wp2
                go_ret
                exact ⟨by rw [HRf.out]; rfl, ⟨rfl, rfl, rfl, Nat.le_refl _, fun _ _ => rfl⟩⟩
            · have hxud : decide (x ≤ u) = false := by simp; omega
              obtain rfl | hyf : y = first ∨ y ≠ first := by omega
              · have HRf := Lib.hid (show R = false from HPk.out (by rw [HSk.out, decide_eq_false_iff_not]; rintro ⟨_, h, _⟩; exact h (Or.inr rfl)))
                rcases hcase with hlv | ⟨hlv, hxl⟩
                · go_wp2
                  go_quiet (fail)
                  go_wp2
                  go_ret
                  exact ⟨by rw [HRf.out]; rfl, ⟨rfl, rfl, rfl, Nat.le_refl _, fun _ _ => rfl⟩⟩
                · have hxb : (x == low) = false := by simpa using hxl
                  go_wp2
                  go_quiet (fail)
                  go_wp2
                  go_ret
                  exact ⟨by rw [HRf.out]; rfl, ⟨rfl, rfl, rfl, Nat.le_refl _, fun _ _ => rfl⟩⟩
              · have hyb : (y == first) = false := by simpa using hyf
                have HOK2 := Lib.hid (show ¬ ((0 < j0 + 1 ∧ x ≤ (l.getD (j0 + 1 - 1) (0, 0)).1) ∨ y = first) by rw [HJ0.out]; rintro (h | h) <;> omega)
                rcases hcase with hlv | ⟨hlv, hxl⟩
                · go_wp2
                  go_quiet (fail)
                  go_wp2
                  go_loopw [10] (fun i wr => ∃ j : Nat, j ≤ j0 + 1 ∧ i = .int .i64 (j : Int) ∧ (∀ p, p < j → (l.getD p (0, 0)).2 ≠ y) ∧ ∃ q, wr = w.drewN q) (fun i _ => j0 + 1 - (intOf i).toNat)
                  case atStart => exact ⟨0, by omega, rfl, fun p hp => by omega, by first | exact drewN_two _ _ _ | exact ⟨_, rfl⟩⟩
                  case round =>
                    obtain ⟨j, hj, rfl, hne, q3, rfl⟩ := hrel
                    have HNE := Lib.hid hne
                    clear hne
                    by_cases hjk : j < j0 + 1
                    · obtain ⟨_, d2⟩ := HC.out j (by omega)
                      have hji : (j : Int) < (m : Int) := by omega
                      have hjki : (j : Int) < ((j0 + 1 : Nat) : Int) := by omega
                      obtain ⟨z, hz⟩ : ∃ z, z = (l.getD j (0, 0)).2 := ⟨_, rfl⟩
                      rw [← hz] at d2
                      have HZ := Lib.hid hz
                      clear hz
                      obtain rfl | hzy : z = y ∨ z ≠ y := by omega
                      · have HRf := Lib.hid (show R = false from HPk.out (by rw [HSk.out, decide_eq_false_iff_not]; rintro ⟨_, _, h⟩; exact h j hjk HZ.out.symm))
                        go_wp2
                        go_quiet (fail)
                        go_wp2
                        go_ret
                        exact ⟨by rw [HRf.out]; rfl, ⟨rfl, rfl, rfl, Nat.le_refl _, fun _ _ => rfl⟩⟩
                      · have hzb : (z == y) = false := by simpa using hzy
                        go_wp2
                        go_quiet (fail)
                        go_wp2
                        refine ⟨⟨j + 1, by omega, by go_num, fun p hp => ?_, by first | exact drewN_two _ _ _ | exact ⟨_, rfl⟩⟩, by simp [intOf]; omega⟩
                        rcases Nat.lt_or_eq_of_le (Nat.le_of_lt_succ hp) with h | rfl
                        · exact HNE.out p h
                        · rw [← HZ.out]; exact hzy
                    · obtain rfl : j = j0 + 1 := by omega
                      have HRt := Lib.hid (show riseR level low first (l.take (j0 + 1 + 1)) = true by rw [HSk.out, decide_eq_true_eq]; exact ⟨HOK1.out, HOK2.out, HNE.out⟩)
                      go_wp2
                      exact ⟨⟨j0 + 1 + 1, by omega, by go_num, HRt.out, _, rfl⟩, by simp [intOf]; omega⟩
                · have hxb : (x == low) = false := by simpa using hxl
                  go_wp2
                  go_quiet (fail)
                  go_wp2
                  go_loopw [10] (fun i wr => ∃ j : Nat, j ≤ j0 + 1 ∧ i = .int .i64 (j : Int) ∧ (∀ p, p < j → (l.getD p (0, 0)).2 ≠ y) ∧ ∃ q, wr = w.drewN q) (fun i _ => j0 + 1 - (intOf i).toNat)
                  case atStart => exact ⟨0, by omega, rfl, fun p hp => by omega, by first | exact drewN_two _ _ _ | exact ⟨_, rfl⟩⟩
                  case round =>
                    obtain ⟨j, hj, rfl, hne, q3, rfl⟩ := hrel
                    have HNE := Lib.hid hne
                    clear hne
                    by_cases hjk : j < j0 + 1
                    · obtain ⟨_, d2⟩ := HC.out j (by omega)
                      have hji : (j : Int) < (m : Int) := by omega
                      have hjki : (j : Int) < ((j0 + 1 : Nat) : Int) := by omega
                      obtain ⟨z, hz⟩ : ∃ z, z = (l.getD j (0, 0)).2 := ⟨_, rfl⟩
                      rw [← hz] at d2
                      have HZ := Lib.hid hz
                      clear hz
                      obtain rfl | hzy : z = y ∨ z ≠ y := by omega
                      · have HRf := Lib.hid (show R = false from HPk.out (by rw [HSk.out, decide_eq_false_iff_not]; rintro ⟨_, _, h⟩; exact h j hjk HZ.out.symm))
                        go_wp2
                        go_quiet (fail)
                        go_wp2
                        go_ret
                        exact ⟨by rw [HRf.out]; rfl, ⟨rfl, rfl, rfl, Nat.le_refl _, fun _ _ => rfl⟩⟩
                      · have hzb : (z == y) = false := by simpa using hzy
                        go_wp2
                        go_quiet (fail)
                        go_wp2
                        refine ⟨⟨j + 1, by omega, by go_num, fun p hp => ?_, by first | exact drewN_two _ _ _ | exact ⟨_, rfl⟩⟩, by simp [intOf]; omega⟩
                        rcases Nat.lt_or_eq_of_le (Nat.le_of_lt_succ hp) with h | rfl
                        · exact HNE.out p h
                        · rw [← HZ.out]; exact hzy
                    · obtain rfl : j = j0 + 1 := by omega
                      have HRt := Lib.hid (show riseR level low first (l.take (j0 + 1 + 1)) = true by rw [HSk.out, decide_eq_true_eq]; exact ⟨HOK1.out, HOK2.out, HNE.out⟩)
                      go_wp2
                      exact ⟨⟨j0 + 1 + 1, by omega, by go_num, HRt.out, _, rfl⟩, by simp [intOf]; omega⟩
    · obtain rfl : k = m := by omega
      have HRf := Lib.hid (show R = true by rw [HR.out, ← hr, HE.out])
      clear hr
      go_wp2
      go_ret
      exact ⟨by rw [HRf.out]; rfl, ⟨rfl, rfl, rfl, Nat.le_refl _, fun _ _ => rfl⟩⟩
end Go.Proofs.Yteojhhfcfdkmdaa
/- A change in memory, its stores told one by one: store, key, ptr, begin, end; conditions: the base is at most 2^40, the stores are few. -/
namespace Go.Proofs.Yteojhhfcfdkmdaa
open Go.RowKit Go.Sort
set_option linter.unusedVariables false
/-- A change's cells. -/
def chC (base : Int) (n : Nd) (v : Value) : List Value := uw base :: (n.cl ++ [v])
/-- A change lies in a block, with its stores so far. -/
def ChAt (w : World) (B b : Nat) (base : Int) (n : Nd) (l : List (Int × Int)) : Prop :=
  B ≤ b ∧ ∃ v, Row w b 139 (chC base n v).toArray ∧ w.ownsRow B 64 2 v l.length (flatE l) ∧ v.ownBlock ≠ some b
theorem chC_base (base : Int) (n : Nd) (v : Value) : (chC base n v)[0]? = some (uw base) := rfl
theorem chC_st (base : Int) (n : Nd) (v : Value) : (chC base n v)[22]? = some v := rfl
theorem chC_set (base : Int) (n : Nd) (v u : Value) : (chC base n v).set 22 u = chC base n u := rfl
theorem chC_mid (base : Int) (n : Nd) (v : Value) {i : Nat} (hi : i < 21) : (chC base n v)[1 + i]? = n.cl[i]? := by
  rw [show 1 + i = i + 1 by omega]
  unfold chC
  rw [List.getElem?_cons_succ, List.getElem?_append_left (by rw [n.size]; exact hi)]
theorem ChAt.low {w w' : World} {B b : Nat} {base : Int} {n : Nd} {l : List (Int × Int)} (h : ChAt w B b base n l) (hb : Below w.heap.size w w') : ChAt w' B b base n l := by
  obtain ⟨hB, v, hr, ho, hn⟩ := h
  exact ⟨hB, v, hr.below hb hr.lt, ownS_low ho hb, hn⟩
theorem ChAt.node {w : World} {B b : Nat} {base : Int} {n : Nd} {l : List (Int × Int)} (h : ChAt w B b base n l) : w.rangeAt b 1 n.cl := by
  obtain ⟨hB, v, hr, ho, hn⟩ := h
  intro j u hu
  have hj : j < 21 := (List.getElem?_eq_some_iff.1 hu).1
  rw [hr.cell, List.getElem?_toArray, chC_mid _ _ _ hj]
  exact hu
theorem ChAt.lt {w : World} {B b : Nat} {base : Int} {n : Nd} {l : List (Int × Int)} (h : ChAt w B b base n l) : b < w.heap.size := by
  obtain ⟨hB, v, hr, ho, hn⟩ := h
  exact hr.lt
theorem infoPut : (Try.prog.info? 64).map (fun i => (i.zero, i.size, i.bytes)) = some (some (.agg #[.int .u64 0, .int .u64 0]), 2, 16) := by kernel_rfl
/-- A store is told: the list has grown by it, and the change's cell says so. -/
theorem ch_push {w w1 : World} {B b m g cap : Nat} {base : Int} {n : Nd} {l : List (Int × Int)} {v : Value} {x y : Int} {o : Obj} (hr : Row w b 139 (chC base n v).toArray) (hB : B ≤ b) (hm : m = l.length) (hn : v.ownBlock ≠ some b) (hO : w.ownsRow B 64 2 v m (flatE l))
    (hown : w1.ownsRow B 64 2 (.slice (some ⟨g, 0, none⟩) (m + 1) cap) (m + 1) (flatE l ++ [.int .u64 x, .int .u64 y])) (hgrow : (w.alloc o).drew.grownBy w1 v.ownBlock) (hsm : v.ownBlock = some g ∨ g = w.heap.size + 1) (hlt : g < w1.heap.size) :
    ChAt (w1.setCell ⟨b, 22, none⟩ (.slice (some ⟨g, 0, none⟩) (m + 1) cap)) B b base n (l ++ [(x, y)]) ∧ Below B w (w1.setCell ⟨b, 22, none⟩ (.slice (some ⟨g, 0, none⟩) (m + 1) cap)) := by
  have hlt := hr.lt
  have hb0 : Below w.heap.size w (w.alloc o).drew := low_and (alloc_low _ _) (drew_low9 _)
  have hr1 : Row w1 b 139 (chC base n v).toArray := (hr.below hb0 hlt).grown hgrow (fun e => hn e.symm)
  have hgb : g ≠ b := by
    rcases hsm with h | h
    · intro e; subst e; exact hn h
    · omega
  refine ⟨⟨hB, .slice (some ⟨g, 0, none⟩) (m + 1) cap, ?_, ?_, fun e => by cases e; exact hgb rfl⟩, ?_⟩
  · have := hr1.set 22 (.slice (some ⟨g, 0, none⟩) (m + 1) cap)
    rw [List.setIfInBounds_toArray, chC_set] at this
    exact this
  · rw [List.length_append, flatE_snoc, ← hm]
    exact ownS_set hown (fun k e => by cases e; exact hgb) _
  · have hbw : B ≤ w.heap.size := by omega
    exact ((hb0.mono hbw).grown hgrow (by have := hb0.size; omega) (fun k hk => (ownS_from hO k hk).1)).setCell (p := ⟨b, 22, none⟩) hB _
set_option maxRecDepth 100000 in
set_option maxHeartbeats 4000000 in
theorem cstore_any {w : World} {B b : Nat} {base : Int} {n : Nd} {l : List (Int × Int)} (h : ChAt w B b base n l) (hl : l.length ≤ 1000) (hb : 0 ≤ base ∧ base ≤ 1099511627776) {at_ : Int} (ha : 0 ≤ at_ ∧ at_ ≤ 1000) (word : Int) :
    Calls Try.prog 70 #[.pointer (some ⟨b, 0, none⟩), .int .i64 at_, .int .u64 word] w fun e w' => e = .returned (.tuple #[]) ∧ ChAt w' B b base n (l ++ [(base + at_, word)]) ∧ Below B w w' := by
  obtain ⟨i0, hi, hz0, hz1, hz2⟩ := info_parts infoPut
  have hlt := h.lt
  obtain ⟨hB, v, hr, ho, hn⟩ := h
  have mixed : Try.prog.follows .mixedOrders = true := by kernel_rfl
  have c0 := (hr.cell 0).trans List.getElem?_toArray
  have c22 := (hr.cell 22).trans List.getElem?_toArray
  rw [chC_base] at c0
  rw [chC_st] at c22
  have f22 := hr.free 22
  obtain ⟨m, hm⟩ : ∃ m, m = l.length := ⟨_, rfl⟩
  rw [← hm] at ho hl
  obtain ⟨ad, had⟩ : ∃ ad, ad = base + at_ := ⟨_, rfl⟩
  have hw1 : IntKind.u64.wrap at_ = at_ := by rw [IntKind.wrap_u64]; omega
  have hw2 : IntKind.u64.wrap (base + at_) = base + at_ := by rw [IntKind.wrap_u64]; omega
  have HO := Lib.hid (fun (W : World) (hb : Below w.heap.size w W) => (show W.ownsRow B 64 2 v m (flatE l) from ownS_low ho hb))
  have HR := Lib.hid hr
  have HN := Lib.hid hn
  have HM := Lib.hid hm
  have HB := Lib.hid hB
  have HLT := Lib.hid hlt
  have HF22 := Lib.hid f22
  have HC22 := Lib.hid c22
  clear ho hr hn hm hB had
  go_enter Try.func70, Try.ntmps70
  go_wp2_with fail
  go_region_law ((refine step_append_lies _ (by rfl) (.tmp 10) (.tmp 20) _ (by rfl) B 64 i0 (.agg #[.int .u64 0, .int .u64 0]) 2 16 rfl hi hz0 hz1 hz2 rfl (by decide) _ _ _ (by rfl) (HO.out _ (low_and (alloc_low _ _) (drew_low9 _))) ⟨w.heap.size, 0, none⟩ 1 1 [.int .u64 (base + at_), .int .u64 word] (by rfl) (by rfl) (World.news_of_block (cs := #[.int .u64 (base + at_), .int .u64 word]) (t := 64) (fr := (0, 0)) (heap_alloc_new9 w _)) (by intro u hu; simp at hu; rcases hu with rfl | rfl <;> rfl) (by decide) (by unfold maxLen; omega) (by omega) (by simp; have := HB.out; have := HLT.out; omega) (w.heap.size + 1) (by simp) ?_; intro g cap w1 hown hgrow hsm hlt2; have fq : w1.frozen? ⟨b, 22, none⟩ = false := frozen_grown9 hgrow (by simp; exact Nat.lt_succ_of_lt HLT.out) (fun e => HN.out e.symm) (by simp; exact (frozen_alloc9 HLT.out _).trans HF22.out); have dq : w1.cell? ⟨b, 22, none⟩ = some v := (hgrow.cell_far _ (by simp; exact Nat.lt_succ_of_lt HLT.out) (fun e => HN.out e.symm)).trans (by simp; exact (World.cell?_alloc_lt _ _ _ HLT.out).trans HC22.out)))
  all_goals
    obtain ⟨hc, hbl⟩ := ch_push HR.out HB.out HM.out HN.out (HO.out w (Below.refl _ _)) hown hgrow hsm hlt2
    go_end0
    exact ⟨rfl, hc, hbl⟩
set_option maxRecDepth 100000 in
set_option maxHeartbeats 2000000 in
theorem ckey_any {w : World} {B b : Nat} {base : Int} {n : Nd} {l : List (Int × Int)} (h : ChAt w B b base n l) (hl : l.length ≤ 1000) (hb : 0 ≤ base ∧ base ≤ 1099511627776) {p : Nat} (hp : p < 8) (word : Int) :
    Calls Try.prog 64 #[.pointer (some ⟨b, 0, none⟩), .int .i64 (p : Int), .int .u64 word] w fun e w' => e = .returned (.tuple #[]) ∧ ChAt w' B b base n (l ++ [(kA base p, word)]) ∧ Below B w w' := by
  have HS := Lib.hid (cstore_any h hl hb (at_ := 64 + 16 * (p : Int)) (by omega) word)
  rw [show base + (64 + 16 * (p : Int)) = kA base p by unfold kA; omega] at HS
  clear h
  go_enter Try.func64, Try.ntmps64
  go_wp2_with (go_at_call 70; refine HS.out.mono ?_; rintro e w' ⟨rfl, h2, h3⟩)
  go_end0
  exact ⟨rfl, h2, h3⟩
set_option maxRecDepth 100000 in
set_option maxHeartbeats 2000000 in
theorem cptr_any {w : World} {B b : Nat} {base : Int} {n : Nd} {l : List (Int × Int)} (h : ChAt w B b base n l) (hl : l.length ≤ 1000) (hb : 0 ≤ base ∧ base ≤ 1099511627776) {p : Nat} (hp : p < 8) (word : Int) :
    Calls Try.prog 65 #[.pointer (some ⟨b, 0, none⟩), .int .i64 (p : Int), .int .u64 word] w fun e w' => e = .returned (.tuple #[]) ∧ ChAt w' B b base n (l ++ [(pA base p, word)]) ∧ Below B w w' := by
  have HS := Lib.hid (cstore_any h hl hb (at_ := 64 + 16 * (p : Int) + 8) (by omega) word)
  rw [show base + (64 + 16 * (p : Int) + 8) = pA base p by unfold pA; omega] at HS
  clear h
  go_enter Try.func65, Try.ntmps65
  go_wp2_with (go_at_call 70; refine HS.out.mono ?_; rintro e w' ⟨rfl, h2, h3⟩)
  go_end0
  exact ⟨rfl, h2, h3⟩
end Go.Proofs.Yteojhhfcfdkmdaa
