/- Texts of this claim, packed: N8Unl, N8MayN, N9P. -/
import Derived.Test.YteojhhfcfdkmdaaPm11
import Derived.Test.YteojhhfcfdkmdaaPm10
set_option linter.unusedSimpArgs false
set_option linter.unusedVariables false
/- unlike: are a node's First and the pointers of entries all unlike; of any node, few entries; without conditions else. -/
namespace Go.Proofs.Yteojhhfcfdkmdaa
open Go.RowKit
set_option linter.unusedVariables false
theorem infoAddr8 : (Try.prog.info? 23).map (fun i => (i.zero, i.size, i.bytes)) = some (some (.int .u64 0), 1, 8) := by kernel_rfl
def metL (f : Int) (l : List (Int × Int)) (k : Nat) : List Int := f :: (l.take k).map (·.2)
theorem metL_len (f : Int) (l : List (Int × Int)) {k : Nat} (hk : k ≤ l.length) : (metL f l k).length = k + 1 := by simp [metL]; omega
theorem metL_succ (f : Int) (l : List (Int × Int)) {k : Nat} (hk : k < l.length) : metL f l (k + 1) = metL f l k ++ [(l.getD k (0, 0)).2] := by
  have : l.take (k + 1) = l.take k ++ [l.getD k (0, 0)] := by
    rw [List.take_succ_eq_append_getElem hk, List.getD_eq_getElem?_getD, List.getElem?_eq_getElem hk]
    rfl
  unfold metL
  rw [this, List.map_append]
  rfl
set_option maxRecDepth 100000 in
set_option maxHeartbeats 4000000 in
theorem nUnlike_any (n : Nd) {w : World} {v : Value} {l : List (Int × Int)} (h : EntAt w v l) (hl : l.length ≤ 900) :
    Calls Try.prog 91 #[n.V, v] w fun e w' => e = .returned (.bool (unlB n.fi l)) ∧ Below w.heap.size w w' := by
  obtain ⟨i0, hi, hz0, hz1, hz2⟩ := info_parts infoAddr8
  obtain ⟨Wa, hWa⟩ : ∃ Wa, Wa = (w.alloc (.cells n.cl.toArray 27)).alloc (.cells #[.int .u64 n.fi] 23) := ⟨_, rfl⟩
  have hb0 : Below w.heap.size w Wa := by rw [hWa]; exact low_and (alloc_low _ _) (alloc_low _ _)
  obtain ⟨A, cap, rfl, hA⟩ := h
  have c4 : (w.alloc (.cells n.cl.toArray 27)).cell? ⟨w.heap.size, 4, none⟩ = some (.int .u64 n.fi) := ndAt_at (Row.new w 27 n.cl.toArray) 4
  have hsa : Wa.heap.size = w.heap.size + 2 := by rw [hWa]; simp
  have rm : Row Wa (w.heap.size + 1) 23 #[.int .u64 n.fi] := by
    rw [hWa]
    have := Row.new (w.alloc (.cells n.cl.toArray 27)) 23 #[.int .u64 n.fi]
    simpa only [World.size_alloc] using this
  have hown0 : Wa.ownsRow w.heap.size 23 1 (.slice (some ⟨w.heap.size + 1, 0, none⟩) 1 1) 1 ((metL n.fi l 0).map uw) := ⟨rfl, .inr ⟨_, 1, _, rfl, by omega, rm, by omega, by unfold maxLen; omega, by simp, rfl⟩⟩
  obtain ⟨m, hm⟩ : ∃ m, m = l.length := ⟨_, rfl⟩
  have HA := Lib.hid (fun (h0 : 0 < m) => (show ∃ g o, A = some ⟨g, o, none⟩ ∧ ∀ k, k < m → w.cell? ⟨g, o + k * 2, none⟩ = some (uw (l.getD k (0, 0)).1) ∧ w.cell? ⟨g, o + k * 2 + 1, none⟩ = some (uw (l.getD k (0, 0)).2) by
    obtain ⟨g, o, rfl, hc⟩ := hA (by omega)
    exact ⟨g, o, rfl, fun k hk => hc k _ (getD_ent (by omega))⟩))
  obtain ⟨R, hR⟩ : ∃ R, R = unlB n.fi l := ⟨_, rfl⟩
  rw [← hR, ← hm]
  rw [← hm] at hl
  have HR := Lib.hid hR
  have HMs := Lib.hid (fun k (hk : k < m) => metL_succ n.fi l (k := k) (by omega))
  have HMl := Lib.hid (fun k (hk : k ≤ m) => metL_len n.fi l (k := k) (by omega))
  have HUn := Lib.hid (fun k (hk : k < m) h => unl_no (f := n.fi) (l := l) (k := k) (by omega) h)
  have HUs := Lib.hid (fun k (hk : k < m) h0 h => unl_step (f := n.fi) (l := l) (k := k) (by omega) h0 h)
  have HUd := Lib.hid (fun (h0 : (metL n.fi l m).Nodup) => (show unlB n.fi l = true by
    unfold metL at h0
    rw [hm, List.take_length] at h0
    unfold unlB
    rw [decide_eq_true_iff]
    exact h0))
  have HB0 := Lib.hid hb0
  have HOW0 := Lib.hid hown0
  have HWa := Lib.hid hWa
  clear hA hm rm hR hb0 hown0 hWa
  go_enter Try.func91, Try.ntmps91
  go_wp2_with fail
  rw [← HWa.out]
  go_loopw [5, 13] (fun u i wr => ∃ k : Nat, k ≤ m ∧ i = .int .i64 (k : Int) ∧ wr.ownsRow w.heap.size 23 1 u (k + 1) ((metL n.fi l k).map uw) ∧ (metL n.fi l k).Nodup ∧ Below w.heap.size w wr) (fun _ i _ => m - (intOf i).toNat)
  case atStart => exact ⟨0, by omega, rfl, HOW0.out, by simp [metL], HB0.out⟩
  case round =>
    obtain ⟨k, hk, rfl, hown, hnd, hb⟩ := hrel
    have HBk := Lib.hid hb
    have HND := Lib.hid hnd
    by_cases hlt : k < m
    · obtain ⟨g, o, hAe, hc⟩ := HA.out (by omega)
      obtain ⟨q1, q2⟩ := hc k hlt
      obtain ⟨e, he⟩ : ∃ e, e = l.getD k (0, 0) := ⟨_, rfl⟩
      rw [← he] at q1 q2
      have hms := HMs.out k hlt
      have hun := HUn.out k hlt
      have hus := HUs.out k hlt hnd
      rw [← he] at hms hun hus
      obtain ⟨ek, ep⟩ := e
      dsimp only at q1 q2 hms hun hus
      have p1 := (hb.cell (p := ⟨g, o + k * 2, none⟩) (w.block_lt_of_cell? _ q1)).trans q1
      have p2 := (hb.cell (p := ⟨g, o + k * 2 + 1, none⟩) (w.block_lt_of_cell? _ q2)).trans q2
      have hkb : k < 900 := by omega
      subst hAe
      unfold uw at p1 p2
      obtain ⟨g', cap', rfl⟩ := ownsRow_succ hown
      rename World => wr
      obtain ⟨We, hWe⟩ : ∃ We, We = wr.alloc (.cells #[.int .u64 ek, .int .u64 ep] 89) := ⟨_, rfl⟩
      have hbe : Below wr.heap.size wr We := by rw [hWe]; exact alloc_low _ _
      have hownE := ownS_low hown hbe
      have hlm := HMl.out k hk
      have HC := contains_any (w := We) (g := g') (o := 0) (cap := cap') (l := metL n.fi l k) (fun i x hx => by
        have := hownE.cells (g := g') rfl i (uw x) (by rw [List.getElem?_map, hx]; rfl)
        rwa [Addr.add_mid] at this) (by rw [hlm]; omega) ep
      rw [hlm] at HC
      have HC := Lib.hid HC
      have HOWE := Lib.hid hownE
      have HMS := Lib.hid hms
      have HUN := Lib.hid hun
      have HUS := Lib.hid hus
      have hbw : Below w.heap.size w We := hb.trans (hbe.mono hb.size)
      have HBW := Lib.hid hbw
      have e0 : We.cell? ⟨wr.heap.size, 0, none⟩ = some (.int .u64 ek) := by rw [hWe]; exact (Row.new wr 89 _).cell 0
      have e1 : We.cell? ⟨wr.heap.size, 1, none⟩ = some (.int .u64 ep) := by rw [hWe]; exact (Row.new wr 89 _).cell 1
      have HWE := Lib.hid hWe
      have a1 : (k + 1) + 1 ≤ maxLen := by unfold maxLen; omega
      have a2 : ((k + 1) + 1) * 8 ≤ 140737488355328 := by omega
      have a3 : w.heap.size ≤ We.heap.size := hbw.size
      clear hc q1 q2 he hms hun hus hown hownE hnd hb hbe hbw hWe hlm
      by_cases hin : ep ∈ metL n.fi l k
      · have hf := HUN.out hin
        rw [decide_eq_true hin] at HC
        go_wp2_with (first | (rw [← HWE.out]; fail) | (go_at_call 92; rw [← HWE.out]; refine HC.out.mono ?_; rintro e w' ⟨rfl, rfl⟩))
        go_ret
        exact ⟨by rw [HR.out, hf]; rfl, HBW.out⟩
      · have hnd' := HUS.out hin
        have HND' := Lib.hid hnd'
        rw [decide_eq_false hin] at HC
        clear hnd'
        go_wp2_with (first
          | (go_at_call 92; rw [← HWE.out]; refine HC.out.mono ?_; rintro e w' ⟨rfl, rfl⟩)
          | (at_builtin; refine wpList_append_own _ rfl _ _ 133 rfl w.heap.size 23 i0 (.int .u64 0) 1 8 Try.underlying133 hi hz0 hz1 hz2 rfl (by decide) _ (k + 1) _ rfl (HOWE.out.alloc _) ⟨_, 0, none⟩ 1 1 [.int .u64 ep] rfl rfl (cell_one_new _ _ _) (by simp [Value.oneCell']) a1 a2 (by simp; omega) ?_; intro v' w1 hown' hgrow _))
        exact ⟨⟨k + 1, by omega, by go_num, by rw [HMS.out, List.map_append]; exact hown', HND'.out, (HBW.out.alloc a3 _).grown hgrow (by simp; omega) (fun b hb => (ownS_from HOWE.out b hb).1)⟩, by simp [intOf]; omega⟩
    · obtain rfl : k = m := by omega
      have hu := HUd.out hnd
      have HU := Lib.hid (HR.out.trans hu)
      clear hown hnd hb hu
      go_wp2
      go_ret
      exact ⟨by rw [HU.out]; rfl, HBk.out⟩
end Go.Proofs.Yteojhhfcfdkmdaa
/- May: may a node be, by any bound; of any node; without conditions. -/
namespace Go.Proofs.Yteojhhfcfdkmdaa
open Go.RowKit
set_option linter.unusedVariables false
/-- May a node be? -/
def Nd.may (n : Nd) (high : Int) (has : Bool) : Bool :=
  (decide (0 ≤ n.l) && decide (n.l ≤ 15)) && (n.fi != 0) && !(has && decide (high ≤ n.lo)) && decide (n.len ≤ n.es.length + 1) && riseB n.lo (decide (n.l = 0)) n.es && unlB n.fi n.es
set_option maxRecDepth 100000 in
set_option maxHeartbeats 4000000 in
theorem nMay_any (n : Nd) (high : Int) (has : Bool) (w : World) : Calls Try.prog 86 #[n.V, .int .u64 high, .bool has] w fun e w' => e = .returned (.bool (n.may high has)) ∧ Below w.heap.size w w' := by
  have r0 := Row.new w 27 n.cl.toArray
  have c0 : (w.alloc (.cells n.cl.toArray 27)).cell? ⟨w.heap.size, 0, none⟩ = some (.int .i64 n.l) := ndAt_at r0 0
  have c1 : (w.alloc (.cells n.cl.toArray 27)).cell? ⟨w.heap.size, 1, none⟩ = some (.int .u64 n.lo) := ndAt_at r0 1
  have c4 : (w.alloc (.cells n.cl.toArray 27)).cell? ⟨w.heap.size, 4, none⟩ = some (.int .u64 n.fi) := ndAt_at r0 4
  have HIs := Lib.hid (isLevel_any n.l (w.alloc (.cells n.cl.toArray 27)))
  have R0 := Lib.hid r0
  obtain ⟨R, hR⟩ : ∃ R, R = n.may high has := ⟨_, rfl⟩
  rw [← hR]
  unfold Nd.may at hR
  obtain ⟨lv, hlv⟩ : ∃ lv, lv = (decide (0 ≤ n.l) && decide (n.l ≤ 15)) := ⟨_, rfl⟩
  rw [← hlv] at hR HIs
  have HV := Lib.hid (nValid_any n (w.alloc (.cells n.cl.toArray 27)))
  have hes := n.es_len
  have hln := n.len_le
  have HB0 := Lib.hid (alloc_low w (.cells n.cl.toArray 27))
  clear hlv r0
  cases lv with
  | false =>
    have HR := Lib.hid (show R = false by rw [hR]; rfl)
    clear hR
    go_enter Try.func86, Try.ntmps86
    go_wp2_with (go_at_call 88; refine HIs.out.mono ?_; rintro e w' ⟨rfl, rfl⟩)
    go_ret
    exact ⟨by rw [HR.out]; rfl, HB0.out⟩
  | true =>
    obtain hf0 | hf0 : n.fi = 0 ∨ n.fi ≠ 0 := by omega
    · have HR := Lib.hid (show R = false by rw [hR, hf0]; rfl)
      rw [hf0] at c4
      clear hR
      go_enter Try.func86, Try.ntmps86
      go_wp2_with (go_at_call 88; refine HIs.out.mono ?_; rintro e w' ⟨rfl, rfl⟩)
      go_ret
      exact ⟨by rw [HR.out]; rfl, HB0.out⟩
    · have hfb : (n.fi != 0) = true := by simpa using hf0
      have hfb2 : (n.fi == 0) = false := by simpa using hf0
      rw [hfb] at hR
      obtain hhb | hhb : (has && decide (high ≤ n.lo)) = true ∨ (has && decide (high ≤ n.lo)) = false := by cases (has && decide (high ≤ n.lo)) <;> simp
      · have HR := Lib.hid (show R = false by rw [hR, hhb]; rfl)
        simp only [Bool.and_eq_true, decide_eq_true_eq] at hhb
        obtain ⟨rfl, hle⟩ := hhb
        clear hR
        go_enter Try.func86, Try.ntmps86
        go_wp2_with (go_at_call 88; refine HIs.out.mono ?_; rintro e w' ⟨rfl, rfl⟩)
        go_ret
        exact ⟨by rw [HR.out]; rfl, HB0.out⟩
      · rw [hhb] at hR
        replace hR : R = (decide (n.len ≤ n.es.length + 1) && riseB n.lo (decide (n.l = 0)) n.es && unlB n.fi n.es) := by rw [hR]; simp
        have HR := Lib.hid hR
        obtain ⟨Wa, hWa⟩ : ∃ Wa, Wa = w.alloc (.cells n.cl.toArray 27) := ⟨_, rfl⟩
        have HWa := Lib.hid hWa
        have d1 := c1
        have d4 := c4
        rw [← hWa] at HIs HV R0 HB0 d1 d4
        have HRR := Lib.hid (fun W' (hb : Below Wa.heap.size Wa W') => (show NdAt W' w.heap.size n from R0.out.below hb R0.out.lt))
        have HLn := Lib.hid (fun W' => nlen_any n W')
        have HRi := Lib.hid (fun W' v (h : EntAt W' v n.es) => nRise_any n h (by omega))
        have HUn := Lib.hid (fun W' v (h : EntAt W' v n.es) => nUnlike_any n h (by omega))
        obtain ⟨Ln, hLn⟩ : ∃ Ln, Ln = n.len := ⟨_, rfl⟩
        have HLd := Lib.hid hLn
        rw [← hLn] at hln
        obtain ⟨rb, hrb⟩ : ∃ rb, rb = riseB n.lo (decide (n.l = 0)) n.es := ⟨_, rfl⟩
        obtain ⟨ub, hub⟩ : ∃ ub, ub = unlB n.fi n.es := ⟨_, rfl⟩
        rw [← hrb, ← hub, ← hLn] at hR
        have HR3 := Lib.hid hR
        rw [← hrb] at HRi
        rw [← hub] at HUn
        rw [← hLn] at HLn
        clear hR hLn hrb hub hWa
        have hcase : has = false ∨ (has = true ∧ ¬ high ≤ n.lo) := by
          cases has with
          | false => exact .inl rfl
          | true => exact .inr ⟨rfl, by simpa using hhb⟩
        clear hhb
        obtain hL1 | hL1 : Ln ≤ n.es.length + 1 ∨ ¬ Ln ≤ n.es.length + 1 := by omega
        · have hL2 : (Ln : Int) - (n.es.length : Int) ≤ 1 := by omega
          cases rb with
          | false =>
            have HRf := Lib.hid (show R = false by rw [HR3.out]; simp)
            rcases hcase with rfl | ⟨rfl, hnle⟩
            · go_enter Try.func86, Try.ntmps86
              go_wp2_with (first
                | (go_at_call 88; rw [← HWa.out]; refine HIs.out.mono ?_; rintro e w' ⟨rfl, rfl⟩)
                | (refine wpList_load_mid rfl _ _ rfl w.heap.size 0 rfl n.cl _ (ndR (HRR.out _ (by first | assumption | exact Below.refl _ _))) Try.underlying27 rfl ndI ?_) | (refine wpList_load_midg (by rfl) _ _ rfl w.heap.size 0 rfl n.cl _ (ndR (HRR.out _ (by first | assumption | exact Below.refl _ _))) Try.underlying27 rfl ndI ?_)
                | (go_at_call 89; refine HV.out.mono ?_; rintro e w1 ⟨⟨v, rfl, ho⟩, hb1⟩; have hEA := ent_own ho; have HEA := Lib.hid hEA; obtain ⟨A, cap, rfl, _⟩ := hEA; clear ho)
                | (go_at_call 60; refine (HLn.out _).mono ?_; rintro e w2 ⟨rfl, hb2⟩; have HEA2 := Lib.hid (HEA.out.low hb2); have hb2 := low_and hb1 hb2)
                | (go_at_call 90; refine (HRi.out _ _ HEA2.out).mono ?_; rintro e w3 ⟨rfl, hb3⟩; have HEA3 := Lib.hid (HEA2.out.low hb3); have hb3 := low_and hb2 hb3))
              go_ret
              exact ⟨by rw [HRf.out]; rfl, low_and HB0.out hb3⟩
            · go_enter Try.func86, Try.ntmps86
              go_wp2_with (first
                | (go_at_call 88; rw [← HWa.out]; refine HIs.out.mono ?_; rintro e w' ⟨rfl, rfl⟩)
                | (refine wpList_load_mid rfl _ _ rfl w.heap.size 0 rfl n.cl _ (ndR (HRR.out _ (by first | assumption | exact Below.refl _ _))) Try.underlying27 rfl ndI ?_) | (refine wpList_load_midg (by rfl) _ _ rfl w.heap.size 0 rfl n.cl _ (ndR (HRR.out _ (by first | assumption | exact Below.refl _ _))) Try.underlying27 rfl ndI ?_)
                | (go_at_call 89; refine HV.out.mono ?_; rintro e w1 ⟨⟨v, rfl, ho⟩, hb1⟩; have hEA := ent_own ho; have HEA := Lib.hid hEA; obtain ⟨A, cap, rfl, _⟩ := hEA; clear ho)
                | (go_at_call 60; refine (HLn.out _).mono ?_; rintro e w2 ⟨rfl, hb2⟩; have HEA2 := Lib.hid (HEA.out.low hb2); have hb2 := low_and hb1 hb2)
                | (go_at_call 90; refine (HRi.out _ _ HEA2.out).mono ?_; rintro e w3 ⟨rfl, hb3⟩; have HEA3 := Lib.hid (HEA2.out.low hb3); have hb3 := low_and hb2 hb3))
              go_ret
              exact ⟨by rw [HRf.out]; rfl, low_and HB0.out hb3⟩
          | true =>
            have HRf := Lib.hid (show R = ub by rw [HR3.out]; simp [hL1])
            rcases hcase with rfl | ⟨rfl, hnle⟩
            · go_enter Try.func86, Try.ntmps86
              go_wp2_with (first
                | (go_at_call 88; rw [← HWa.out]; refine HIs.out.mono ?_; rintro e w' ⟨rfl, rfl⟩)
                | (refine wpList_load_mid rfl _ _ rfl w.heap.size 0 rfl n.cl _ (ndR (HRR.out _ (by first | assumption | exact Below.refl _ _))) Try.underlying27 rfl ndI ?_) | (refine wpList_load_midg (by rfl) _ _ rfl w.heap.size 0 rfl n.cl _ (ndR (HRR.out _ (by first | assumption | exact Below.refl _ _))) Try.underlying27 rfl ndI ?_)
                | (go_at_call 89; refine HV.out.mono ?_; rintro e w1 ⟨⟨v, rfl, ho⟩, hb1⟩; have hEA := ent_own ho; have HEA := Lib.hid hEA; obtain ⟨A, cap, rfl, _⟩ := hEA; clear ho)
                | (go_at_call 60; refine (HLn.out _).mono ?_; rintro e w2 ⟨rfl, hb2⟩; have HEA2 := Lib.hid (HEA.out.low hb2); have hb2 := low_and hb1 hb2)
                | (go_at_call 90; refine (HRi.out _ _ HEA2.out).mono ?_; rintro e w3 ⟨rfl, hb3⟩; have HEA3 := Lib.hid (HEA2.out.low hb3); have hb3 := low_and hb2 hb3)
                | (go_at_call 91; refine (HUn.out _ _ HEA3.out).mono ?_; rintro e w4 ⟨rfl, hb4⟩; have hb4 := low_and hb3 hb4))
              go_ret
              exact ⟨by rw [HRf.out]; rfl, low_and HB0.out hb4⟩
            · go_enter Try.func86, Try.ntmps86
              go_wp2_with (first
                | (go_at_call 88; rw [← HWa.out]; refine HIs.out.mono ?_; rintro e w' ⟨rfl, rfl⟩)
                | (refine wpList_load_mid rfl _ _ rfl w.heap.size 0 rfl n.cl _ (ndR (HRR.out _ (by first | assumption | exact Below.refl _ _))) Try.underlying27 rfl ndI ?_) | (refine wpList_load_midg (by rfl) _ _ rfl w.heap.size 0 rfl n.cl _ (ndR (HRR.out _ (by first | assumption | exact Below.refl _ _))) Try.underlying27 rfl ndI ?_)
                | (go_at_call 89; refine HV.out.mono ?_; rintro e w1 ⟨⟨v, rfl, ho⟩, hb1⟩; have hEA := ent_own ho; have HEA := Lib.hid hEA; obtain ⟨A, cap, rfl, _⟩ := hEA; clear ho)
                | (go_at_call 60; refine (HLn.out _).mono ?_; rintro e w2 ⟨rfl, hb2⟩; have HEA2 := Lib.hid (HEA.out.low hb2); have hb2 := low_and hb1 hb2)
                | (go_at_call 90; refine (HRi.out _ _ HEA2.out).mono ?_; rintro e w3 ⟨rfl, hb3⟩; have HEA3 := Lib.hid (HEA2.out.low hb3); have hb3 := low_and hb2 hb3)
                | (go_at_call 91; refine (HUn.out _ _ HEA3.out).mono ?_; rintro e w4 ⟨rfl, hb4⟩; have hb4 := low_and hb3 hb4))
              go_ret
              exact ⟨by rw [HRf.out]; rfl, low_and HB0.out hb4⟩
        · have HRf := Lib.hid (show R = false by rw [HR3.out]; simp [hL1])
          rcases hcase with rfl | ⟨rfl, hnle⟩
          · go_enter Try.func86, Try.ntmps86
            go_wp2_with (first
              | (go_at_call 88; rw [← HWa.out]; refine HIs.out.mono ?_; rintro e w' ⟨rfl, rfl⟩)
              | (refine wpList_load_mid rfl _ _ rfl w.heap.size 0 rfl n.cl _ (ndR (HRR.out _ (by first | assumption | exact Below.refl _ _))) Try.underlying27 rfl ndI ?_) | (refine wpList_load_midg (by rfl) _ _ rfl w.heap.size 0 rfl n.cl _ (ndR (HRR.out _ (by first | assumption | exact Below.refl _ _))) Try.underlying27 rfl ndI ?_)
              | (go_at_call 89; refine HV.out.mono ?_; rintro e w1 ⟨⟨v, rfl, ho⟩, hb1⟩; have hEA := ent_own ho; have HEA := Lib.hid hEA; obtain ⟨A, cap, rfl, _⟩ := hEA; clear ho)
              | (go_at_call 60; refine (HLn.out _).mono ?_; rintro e w2 ⟨rfl, hb2⟩; have hb2 := low_and hb1 hb2))
            go_ret
            exact ⟨by rw [HRf.out]; rfl, low_and HB0.out (by assumption)⟩
          · go_enter Try.func86, Try.ntmps86
            go_wp2_with (first
              | (go_at_call 88; rw [← HWa.out]; refine HIs.out.mono ?_; rintro e w' ⟨rfl, rfl⟩)
              | (refine wpList_load_mid rfl _ _ rfl w.heap.size 0 rfl n.cl _ (ndR (HRR.out _ (by first | assumption | exact Below.refl _ _))) Try.underlying27 rfl ndI ?_) | (refine wpList_load_midg (by rfl) _ _ rfl w.heap.size 0 rfl n.cl _ (ndR (HRR.out _ (by first | assumption | exact Below.refl _ _))) Try.underlying27 rfl ndI ?_)
              | (go_at_call 89; refine HV.out.mono ?_; rintro e w1 ⟨⟨v, rfl, ho⟩, hb1⟩; have hEA := ent_own ho; have HEA := Lib.hid hEA; obtain ⟨A, cap, rfl, _⟩ := hEA; clear ho)
              | (go_at_call 60; refine (HLn.out _).mono ?_; rintro e w2 ⟨rfl, hb2⟩; have hb2 := low_and hb1 hb2))
            go_ret
            exact ⟨by rw [HRf.out]; rfl, low_and HB0.out (by assumption)⟩
end Go.Proofs.Yteojhhfcfdkmdaa
/- Nodes as lists of places; what single stores do to them; plain facts, without conditions. -/
namespace Go.Proofs.Yteojhhfcfdkmdaa
open Go.RowKit
set_option linter.unusedVariables false
def ll : List (Int × Int) → Nat
  | [] => 0
  | e :: t => if e.2 = 0 then 0 else ll t + 1
def vl : Int → List (Int × Int) → List (Int × Int)
  | _, [] => []
  | a, e :: t => if e.2 = 0 then [] else if e.2 = a then vl e.2 t else e :: vl e.2 t
/-- The pointer ahead of a place of a list. -/
def ahL (a : Int) (l : List (Int × Int)) (i : Nat) : Int := if i = 0 then a else (l.getD (i - 1) (0, 0)).2
theorem ll_le : ∀ l : List (Int × Int), ll l ≤ l.length
  | [] => Nat.le_refl _
  | e :: t => by
    unfold ll
    have := ll_le t
    split <;> simp <;> omega
theorem ll_before : ∀ (l : List (Int × Int)) (i : Nat), i < ll l → (l.getD i (0, 0)).2 ≠ 0
  | [], i, h => by simp [ll] at h
  | e :: t, i, h => by
    unfold ll at h
    split at h
    · omega
    · cases i with
      | zero => simpa using by assumption
      | succ i => simpa using ll_before t i (by omega)
theorem ll_at : ∀ (l : List (Int × Int)), ll l < l.length → (l.getD (ll l) (0, 0)).2 = 0
  | [], h => by simp at h
  | e :: t, h => by
    unfold ll at h ⊢
    split
    · simpa using by assumption
    · rename_i hne
      rw [if_neg hne] at h
      simpa using ll_at t (by simpa using h)
theorem vl_range : ∀ (l : List (Int × Int)) (a : Int), vl a l = ((List.range (ll l)).filter (fun i => (l.getD i (0, 0)).2 != ahL a l i)).map (fun i => l.getD i (0, 0))
  | [], a => rfl
  | e :: t, a => by
    unfold vl ll
    by_cases h0 : e.2 = 0
    · rw [if_pos h0, if_pos h0]; rfl
    · rw [if_neg h0, if_neg h0, List.range_succ_eq_map, List.filter_cons]
      have hs : ((List.map Nat.succ (List.range (ll t))).filter (fun i => ((e :: t).getD i (0, 0)).2 != ahL a (e :: t) i)).map (fun i => (e :: t).getD i (0, 0)) = vl e.2 t := by
        rw [vl_range t e.2, List.filter_map, List.map_map]
        have : ((fun i => ((e :: t).getD i (0, 0)).2 != ahL a (e :: t) i) ∘ Nat.succ) = (fun i => (t.getD i (0, 0)).2 != ahL e.2 t i) := by
          funext i
          simp only [Function.comp]
          cases i with
          | zero => simp [ahL]
          | succ i => simp [ahL]
        rw [this]
        rfl
      by_cases h1 : e.2 = a
      · rw [if_pos h1, if_neg (by simp [ahL, h1])]
        exact hs.symm
      · rw [if_neg h1, if_pos (by simp [ahL, h1]), List.map_cons, hs]
        rfl
/-- A beginning of a node's places is its entries: none is nought, and behind them is the end. -/
def Zok (Z : List (Int × Int)) : Prop := Z = [] ∨ ∃ k t, Z = (k, 0) :: t
def lastP (a : Int) (l : List (Int × Int)) : Int := match l.getLast? with | some e => e.2 | none => a
theorem lastP_nil (a : Int) : lastP a [] = a := rfl
theorem lastP_cons (a : Int) (e : Int × Int) (t : List (Int × Int)) : lastP a (e :: t) = lastP e.2 t := by
  cases t with
  | nil => rfl
  | cons b t => unfold lastP; rw [List.getLast?_cons_cons]; simp [List.getLast?_cons]
theorem lastP_append (a : Int) (l m : List (Int × Int)) : lastP a (l ++ m) = lastP (lastP a l) m := by
  induction l generalizing a with
  | nil => rfl
  | cons e t ih => rw [List.cons_append, lastP_cons, lastP_cons, ih]
/-- No pointer is nought, none is as the one ahead. -/
def Good : Int → List (Int × Int) → Prop
  | _, [] => True
  | a, e :: t => e.2 ≠ 0 ∧ e.2 ≠ a ∧ Good e.2 t
theorem good_append (a : Int) (l m : List (Int × Int)) : Good a (l ++ m) ↔ Good a l ∧ Good (lastP a l) m := by
  induction l generalizing a with
  | nil => simp [Good, lastP_nil]
  | cons e t ih => simp [Good, lastP_cons, ih, and_assoc]
theorem vl_z {Z : List (Int × Int)} (h : Zok Z) (a : Int) : vl a Z = [] ∧ ll Z = 0 := by
  rcases h with rfl | ⟨k, t, rfl⟩ <;> simp [vl, ll]
theorem vl_good {l Z : List (Int × Int)} (hz : Zok Z) : ∀ a, Good a l → vl a (l ++ Z) = l ∧ ll (l ++ Z) = l.length := by
  induction l with
  | nil => intro a _; simpa using vl_z hz a
  | cons e t ih =>
    intro a h
    obtain ⟨h0, h1, h2⟩ := h
    obtain ⟨i1, i2⟩ := ih e.2 h2
    simp [vl, ll, h0, h1, i1, i2]
/-- With one that is not valid between them. -/
theorem vl_gap {A B Z : List (Int × Int)} {x : Int} (hz : Zok Z) : ∀ a, a ≠ 0 → Good a (A ++ B) → vl a (A ++ (x, lastP a A) :: (B ++ Z)) = A ++ B ∧ ll (A ++ (x, lastP a A) :: (B ++ Z)) = A.length + B.length + 1 := by
  induction A with
  | nil =>
    intro a ha h
    obtain ⟨i1, i2⟩ := vl_good hz a h
    simp only [List.nil_append] at i1 i2
    simp only [List.nil_append, lastP_nil, vl, ll, ha, if_false, if_true, i1, i2]
    simp
  | cons e t ih =>
    intro a ha h
    obtain ⟨h0, h1, h2⟩ := h
    obtain ⟨i1, i2⟩ := ih e.2 h0 h2
    simp only [List.cons_append, lastP_cons, vl, ll, h0, h1, if_false, i1, i2, List.length_cons]
    refine ⟨trivial, by omega⟩
/-- A node's places. -/
def Nd.sl (n : Nd) : List (Int × Int) := [(n.k0, n.p0), (n.k1, n.p1), (n.k2, n.p2), (n.k3, n.p3), (n.k4, n.p4), (n.k5, n.p5), (n.k6, n.p6), (n.k7, n.p7)]
theorem Nd.sl_at (n : Nd) {i : Nat} (hi : i < 8) : n.sl.getD i (0, 0) = n.ent i := by
  rcases lt8 hi with rfl | rfl | rfl | rfl | rfl | rfl | rfl | rfl <;> rfl
theorem Nd.sl_len (n : Nd) : n.sl.length = 8 := rfl
theorem Nd.len_ll (n : Nd) : n.len = ll n.sl := by
  have h8 : ll n.sl ≤ 8 := ll_le n.sl
  refine n.len_eq h8 (fun i hi => ?_) (fun h => ?_)
  · have := ll_before n.sl i hi
    rw [n.sl_at (by omega)] at this
    exact this
  · have := ll_at n.sl h
    rw [n.sl_at h] at this
    exact this
theorem Nd.ok_sl (n : Nd) {i : Nat} (hi : i < 8) : n.ok i = ((n.sl.getD i (0, 0)).2 != ahL n.fi n.sl i) := by
  unfold Nd.ok Nd.ahd ahL
  rw [n.sl_at hi]
  cases i with
  | zero => rfl
  | succ i => rw [if_neg (by omega), if_neg (by omega), Nat.add_sub_cancel, n.sl_at (show i < 8 by omega)]; rfl
theorem Nd.es_vl (n : Nd) : n.es = vl n.fi n.sl := by
  rw [vl_range, ← n.len_ll]
  unfold Nd.es Nd.vp Nd.vpTo
  have h8 := n.len_le
  rw [List.filter_congr (fun i hi => n.ok_sl (i := i) (by rw [List.mem_range] at hi; omega))]
  apply List.map_congr_left
  intro i hi
  rw [List.mem_filter, List.mem_range] at hi
  exact (n.sl_at (by omega)).symm
/-- A node that is whole: its entries, and what stands behind them. -/
structure SW (n : Nd) (E Z : List (Int × Int)) : Prop where
  sl : n.sl = E ++ Z
  z : Zok Z
  good : Good n.fi E
theorem SW.es {n : Nd} {E Z : List (Int × Int)} (h : SW n E Z) : n.es = E := by rw [n.es_vl, h.sl]; exact (vl_good h.z _ h.good).1
theorem SW.len {n : Nd} {E Z : List (Int × Int)} (h : SW n E Z) : n.len = E.length := by rw [n.len_ll, h.sl]; exact (vl_good h.z _ h.good).2
/-- A node with one entry that is not valid. -/
structure SG (n : Nd) (A B Z : List (Int × Int)) (x : Int) : Prop where
  sl : n.sl = A ++ (x, lastP n.fi A) :: (B ++ Z)
  z : Zok Z
  good : Good n.fi (A ++ B)
  fi : n.fi ≠ 0
theorem SG.es {n : Nd} {A B Z : List (Int × Int)} {x : Int} (h : SG n A B Z x) : n.es = A ++ B := by rw [n.es_vl, h.sl]; exact (vl_gap h.z _ h.fi h.good).1
theorem SG.len {n : Nd} {A B Z : List (Int × Int)} {x : Int} (h : SG n A B Z x) : n.len = A.length + B.length + 1 := by rw [n.len_ll, h.sl]; exact (vl_gap h.z _ h.fi h.good).2
theorem good_nz {a : Int} : ∀ {l : List (Int × Int)}, Good a l → ∀ e ∈ l, e.2 ≠ 0
  | [], _, e, h => by cases h
  | b :: t, h, e, he => by
    rcases List.mem_cons.1 he with rfl | he
    · exact h.1
    · exact good_nz h.2.2 e he
/-- A list whose first places are all valid. -/
theorem good_of : ∀ (l : List (Int × Int)) (a : Int), (∀ i, i < ll l → (l.getD i (0, 0)).2 ≠ ahL a l i) → ∃ E Z, l = E ++ Z ∧ Zok Z ∧ Good a E
  | [], a, _ => ⟨[], [], rfl, Or.inl rfl, trivial⟩
  | e :: t, a, h => by
    by_cases h0 : e.2 = 0
    · refine ⟨[], e :: t, rfl, Or.inr ⟨e.1, t, ?_⟩, trivial⟩
      rw [← h0]
    · have hll : ll (e :: t) = ll t + 1 := by rw [ll, if_neg h0]
      obtain ⟨E, Z, h1, h2, h3⟩ := good_of t e.2 (fun i hi => by
        have := h (i + 1) (by omega)
        cases i with
        | zero => simpa [ahL] using this
        | succ i => simpa [ahL] using this)
      refine ⟨e :: E, Z, by rw [h1]; rfl, h2, h0, ?_, h3⟩
      have := h 0 (by omega)
      simpa [ahL] using this
theorem Nd.inv_neg (n : Nd) (h : n.inv = -1) : ∀ i, i < n.len → n.ok i = true := by
  intro i hi
  unfold Nd.inv at h
  split at h
  · rename_i j hj
    omega
  · rename_i hn
    rw [List.find?_range_eq_none] at hn
    simpa using hn i hi
theorem Nd.whole (n : Nd) (h : n.inv = -1) : ∃ E Z, SW n E Z := by
  have h8 := n.len_le
  obtain ⟨E, Z, h1, h2, h3⟩ := good_of n.sl n.fi (fun i hi => by
    rw [← n.len_ll] at hi
    have := n.inv_neg h i hi
    rw [n.ok_sl (by omega)] at this
    simpa using this)
  exact ⟨E, Z, h1, h2, h3⟩
def Nd.setK (n : Nd) (i : Nat) (x : Int) : Nd := match i with
  | 0 => { n with k0 := x } | 1 => { n with k1 := x } | 2 => { n with k2 := x } | 3 => { n with k3 := x } | 4 => { n with k4 := x } | 5 => { n with k5 := x } | 6 => { n with k6 := x } | _ => { n with k7 := x }
def Nd.setP (n : Nd) (i : Nat) (x : Int) : Nd := match i with
  | 0 => { n with p0 := x } | 1 => { n with p1 := x } | 2 => { n with p2 := x } | 3 => { n with p3 := x } | 4 => { n with p4 := x } | 5 => { n with p5 := x } | 6 => { n with p6 := x } | _ => { n with p7 := x }
theorem Nd.setK_sl (n : Nd) {i : Nat} (hi : i < 8) (x : Int) : (n.setK i x).sl = n.sl.set i (x, (n.sl.getD i (0, 0)).2) := by
  rcases lt8 hi with rfl | rfl | rfl | rfl | rfl | rfl | rfl | rfl <;> rfl
theorem Nd.setP_sl (n : Nd) {i : Nat} (hi : i < 8) (x : Int) : (n.setP i x).sl = n.sl.set i ((n.sl.getD i (0, 0)).1, x) := by
  rcases lt8 hi with rfl | rfl | rfl | rfl | rfl | rfl | rfl | rfl <;> rfl
theorem Nd.setK_other (n : Nd) (i : Nat) (x : Int) : (n.setK i x).l = n.l ∧ (n.setK i x).lo = n.lo ∧ (n.setK i x).nx = n.nx ∧ (n.setK i x).ct = n.ct ∧ (n.setK i x).fi = n.fi := by
  unfold Nd.setK; split <;> exact ⟨rfl, rfl, rfl, rfl, rfl⟩
theorem Nd.setP_other (n : Nd) (i : Nat) (x : Int) : (n.setP i x).l = n.l ∧ (n.setP i x).lo = n.lo ∧ (n.setP i x).nx = n.nx ∧ (n.setP i x).ct = n.ct ∧ (n.setP i x).fi = n.fi := by
  unfold Nd.setP; split <;> exact ⟨rfl, rfl, rfl, rfl, rfl⟩
/-- A node behind a store. -/
def ap (base : Int) (n : Nd) (s : Int × Int) : Option Nd :=
  if s.1 = base + 8 then some { n with lo := s.2 } else if s.1 = base + 16 then some { n with nx := s.2 } else if s.1 = base + 24 then some { n with ct := s.2 } else if s.1 = base + 32 then some { n with fi := s.2 }
  else if 64 ≤ s.1 - base ∧ s.1 - base < 192 ∧ (s.1 - base) % 8 = 0 then (if (s.1 - base) % 16 = 0 then some (n.setK ((s.1 - base - 64) / 16).toNat s.2) else some (n.setP ((s.1 - base - 64) / 16).toNat s.2)) else none
/-- Where a place's key stands, and its pointer. -/
def kA (base : Int) (i : Nat) : Int := base + 64 + 16 * i
def pA (base : Int) (i : Nat) : Int := base + 72 + 16 * i
theorem ap_k (base : Int) (n : Nd) {i : Nat} (hi : i < 8) (x : Int) : ap base n (kA base i, x) = some (n.setK i x) := by
  unfold ap kA
  dsimp only
  rw [if_neg (by omega), if_neg (by omega), if_neg (by omega), if_neg (by omega), if_pos (by omega), if_pos (by omega), show ((base + 64 + 16 * (i : Int) - base - 64) / 16).toNat = i by omega]
theorem ap_p (base : Int) (n : Nd) {i : Nat} (hi : i < 8) (x : Int) : ap base n (pA base i, x) = some (n.setP i x) := by
  unfold ap pA
  dsimp only
  rw [if_neg (by omega), if_neg (by omega), if_neg (by omega), if_neg (by omega), if_pos (by omega), if_neg (by omega), show ((base + 72 + 16 * (i : Int) - base - 64) / 16).toNat = i by omega]
theorem ap_ct (base : Int) (n : Nd) (x : Int) : ap base n (base + 24, x) = some { n with ct := x } := by
  unfold ap
  dsimp only
  rw [if_neg (by omega), if_neg (by omega), if_pos rfl]
theorem ap_nx (base : Int) (n : Nd) (x : Int) : ap base n (base + 16, x) = some { n with nx := x } := by
  unfold ap
  dsimp only
  rw [if_neg (by omega), if_pos rfl]
/-- Stores one behind the other; of each node on the way something is true. -/
def Steps (base : Int) (P : Nd → Prop) : Nd → List (Int × Int) → Nd → Prop
  | n, [], m => P n ∧ m = n
  | n, s :: l, m => P n ∧ ∃ n', ap base n s = some n' ∧ Steps base P n' l m
theorem Steps.append {base : Int} {P : Nd → Prop} : ∀ {l1 : List (Int × Int)} {n m k : Nd} {l2 : List (Int × Int)}, Steps base P n l1 m → Steps base P m l2 k → Steps base P n (l1 ++ l2) k
  | [], n, m, k, l2, h1, h2 => by obtain ⟨_, rfl⟩ := h1; exact h2
  | s :: l1, n, m, k, l2, h1, h2 => by
    obtain ⟨hp, n', ha, h1⟩ := h1
    exact ⟨hp, n', ha, Steps.append h1 h2⟩
theorem Steps.first {base : Int} {P : Nd → Prop} {l : List (Int × Int)} {n m : Nd} (h : Steps base P n l m) : P n := by cases l <;> exact h.1
theorem Steps.last {base : Int} {P : Nd → Prop} : ∀ {l : List (Int × Int)} {n m : Nd}, Steps base P n l m → P m
  | [], n, m, h => by obtain ⟨h, rfl⟩ := h; exact h
  | s :: l, n, m, h => by obtain ⟨_, n', _, h⟩ := h; exact h.last
theorem Steps.mono {base : Int} {P P' : Nd → Prop} (hP : ∀ n, P n → P' n) : ∀ {l : List (Int × Int)} {n m : Nd}, Steps base P n l m → Steps base P' n l m
  | [], n, m, h => ⟨hP _ h.1, h.2⟩
  | s :: l, n, m, h => ⟨hP _ h.1, by obtain ⟨_, n', ha, h⟩ := h; exact ⟨n', ha, Steps.mono hP h⟩⟩
/-- What a change leaves. -/
structure Kept (n m : Nd) : Prop where
  l : m.l = n.l
  lo : m.lo = n.lo
  fi : m.fi = n.fi
theorem Kept.refl (n : Nd) : Kept n n := ⟨rfl, rfl, rfl⟩
theorem Kept.trans {a b c : Nd} (h : Kept a b) (k : Kept b c) : Kept a c := ⟨k.l.trans h.l, k.lo.trans h.lo, k.fi.trans h.fi⟩
theorem kept_k (n : Nd) (i : Nat) (x : Int) : Kept n (n.setK i x) := by obtain ⟨a, b, _, _, e⟩ := n.setK_other i x; exact ⟨a, b, e⟩
theorem kept_p (n : Nd) (i : Nat) (x : Int) : Kept n (n.setP i x) := by obtain ⟨a, b, _, _, e⟩ := n.setP_other i x; exact ⟨a, b, e⟩
theorem set_mid {α : Type} (A : List α) (z y : α) (T : List α) : (A ++ z :: T).set A.length y = A ++ y :: T := by simp
theorem getD_mid (A : List (Int × Int)) (z : Int × Int) (T : List (Int × Int)) : (A ++ z :: T).getD A.length (0, 0) = z := by simp
/-- A place's pointer, or key, is stored. -/
theorem sl_p {n : Nd} {A T : List (Int × Int)} {z : Int × Int} (h : n.sl = A ++ z :: T) (x : Int) : A.length < 8 ∧ (n.setP A.length x).sl = A ++ (z.1, x) :: T := by
  have hl : A.length < 8 := by have := congrArg List.length h; rw [n.sl_len] at this; simp at this; omega
  exact ⟨hl, by rw [n.setP_sl hl, h, getD_mid, set_mid]⟩
theorem sl_k {n : Nd} {A T : List (Int × Int)} {z : Int × Int} (h : n.sl = A ++ z :: T) (x : Int) : A.length < 8 ∧ (n.setK A.length x).sl = A ++ (x, z.2) :: T := by
  have hl : A.length < 8 := by have := congrArg List.length h; rw [n.sl_len] at this; simp at this; omega
  exact ⟨hl, by rw [n.setK_sl hl, h, getD_mid, set_mid]⟩
/-- What a node must be besides its places, with these entries. -/
structure Fit (n : Nd) (E : List (Int × Int)) : Prop where
  lv : 0 ≤ n.l ∧ n.l ≤ 15
  fi : n.fi ≠ 0
  rise : riseB n.lo (decide (n.l = 0)) E = true
  unl : unlB n.fi E = true
theorem Fit.kept {n m : Nd} {E : List (Int × Int)} (h : Fit n E) (k : Kept n m) : Fit m E := by
  obtain ⟨a, b, c, d⟩ := h
  obtain ⟨k1, k2, k3⟩ := k
  exact ⟨by rw [k1]; exact a, by rw [k3]; exact b, by rw [k2, k1]; exact c, by rw [k3]; exact d⟩
theorem Fit.may {n : Nd} {E : List (Int × Int)} (h : Fit n E) (he : n.es = E) (hl : n.len ≤ E.length + 1) : n.may 0 false = true := by
  unfold Nd.may
  rw [he]
  simp [h.lv.1, h.lv.2, h.fi, h.rise, h.unl, hl]
theorem may_fit {n : Nd} (h : n.may 0 false = true) : Fit n n.es ∧ n.len ≤ n.es.length + 1 := by
  unfold Nd.may at h
  simp at h
  obtain ⟨⟨⟨⟨⟨a, b⟩, c⟩, d⟩, e⟩, f⟩ := h
  exact ⟨⟨⟨a, b⟩, c, e, f⟩, d⟩
/-- A node that may be, and has just these entries. -/
def Has (E : List (Int × Int)) (n : Nd) : Prop := n.may 0 false = true ∧ n.es = E
theorem SW.has {n : Nd} {E Z : List (Int × Int)} (h : SW n E Z) (f : Fit n E) : Has E n := ⟨f.may h.es (by rw [h.len]; omega), h.es⟩
theorem SG.has {n : Nd} {A B Z : List (Int × Int)} {x : Int} (h : SG n A B Z x) (f : Fit n (A ++ B)) : Has (A ++ B) n := ⟨f.may h.es (by rw [h.len]; simp), h.es⟩
/-- The stores that close a gap at a place, ahead of these entries. -/
def downL (base : Int) : Nat → List (Int × Int) → List (Int × Int)
  | i, [] => [(pA base i, 0)]
  | i, b :: B => (kA base i, b.1) :: (pA base i, b.2) :: downL base (i + 1) B
theorem lastP_snoc (a : Int) (A : List (Int × Int)) (b : Int × Int) : lastP a (A ++ [b]) = b.2 := by rw [lastP_append]; rfl
theorem down_steps (base : Int) : ∀ (B A : List (Int × Int)) (n : Nd) (x : Int) (Z : List (Int × Int)), SG n A B Z x → Fit n (A ++ B) →
    ∃ m Z', Steps base (Has (A ++ B)) n (downL base A.length B) m ∧ SW m (A ++ B) Z' ∧ Kept n m ∧ m.ct = n.ct ∧ m.nx = n.nx
  | [], A, n, x, Z, h, f => by
    obtain ⟨hl, hs⟩ := sl_p h.sl 0
    have hk := kept_p n A.length 0
    have hw : SW (n.setP A.length 0) (A ++ []) ((x, 0) :: Z) := ⟨by rw [hs]; simp, Or.inr ⟨x, Z, rfl⟩, by rw [hk.fi]; exact h.good⟩
    obtain ⟨_, _, o1, o2, _⟩ := n.setP_other A.length 0
    exact ⟨n.setP A.length 0, (x, 0) :: Z, ⟨h.has f, _, ap_p base n hl 0, hw.has (f.kept hk), rfl⟩, hw, hk, o2, o1⟩
  | b :: B, A, n, x, Z, h, f => by
    obtain ⟨hl, hs1⟩ := sl_k h.sl b.1
    have hk1 := kept_k n A.length b.1
    have h1 : SG (n.setK A.length b.1) A (b :: B) Z b.1 := ⟨by rw [hs1, hk1.fi], h.z, by rw [hk1.fi]; exact h.good, by rw [hk1.fi]; exact h.fi⟩
    obtain ⟨_, hs2⟩ := sl_p h1.sl b.2
    have hk2 := kept_p (n.setK A.length b.1) A.length b.2
    have hab : A ++ b :: B = (A ++ [b]) ++ B := by simp
    have h2 : SG ((n.setK A.length b.1).setP A.length b.2) (A ++ [b]) B Z b.1 :=
      ⟨by rw [hs2, lastP_snoc]; simp, h.z, by rw [hk2.fi, hk1.fi, ← hab]; exact h.good, by rw [hk2.fi, hk1.fi]; exact h.fi⟩
    have f1 := f.kept hk1
    have f2 := f1.kept hk2
    rw [hab] at f2
    obtain ⟨m, Z', hst, hw, hk, hct, hnx⟩ := down_steps base B (A ++ [b]) _ _ _ h2 f2
    obtain ⟨_, _, o1, o2, _⟩ := n.setK_other A.length b.1
    obtain ⟨_, _, o3, o4, _⟩ := (n.setK A.length b.1).setP_other A.length b.2
    rw [List.length_append, List.length_singleton] at hst
    rw [hab]
    refine ⟨m, Z', ⟨by rw [← hab]; exact h.has f, _, ap_k base n hl b.1, by rw [← hab]; exact h1.has f1, _, ap_p base _ hl b.2, hst⟩, hw, (hk1.trans hk2).trans hk, by rw [hct, o4, o2], by rw [hnx, o3, o1]⟩
/-- The stores that make room: the entries at p + c - 1 down to p go one place further. -/
def upL (base : Int) (E : List (Int × Int)) (p : Nat) : Nat → List (Int × Int)
  | 0 => []
  | c + 1 => (pA base (p + c + 1), (E.getD (p + c) (0, 0)).2) :: (kA base (p + c + 1), (E.getD (p + c) (0, 0)).1) :: upL base E p c
theorem lastP_take (a : Int) (E : List (Int × Int)) {i : Nat} (hi : i < E.length) : lastP a (E.take (i + 1)) = (E.getD i (0, 0)).2 := by
  rw [List.take_succ_eq_append_getElem hi, lastP_snoc, List.getD_eq_getElem?_getD, List.getElem?_eq_getElem hi]
  rfl
theorem up_steps (base : Int) (E : List (Int × Int)) (p : Nat) : ∀ (c : Nat) (n : Nd) (z : Int × Int) (Z : List (Int × Int)), p + c ≤ E.length → n.sl = E.take (p + c) ++ z :: (E.drop (p + c) ++ Z) → Zok Z → Good n.fi E → Fit n E → Has E n →
    ∃ m z', Steps base (Has E) n (upL base E p c) m ∧ m.sl = E.take p ++ z' :: (E.drop p ++ Z) ∧ Kept n m ∧ m.ct = n.ct ∧ m.nx = n.nx
  | 0, n, z, Z, hc, hs, hz, hg, f, hh => ⟨n, z, ⟨hh, rfl⟩, hs, Kept.refl n, rfl, rfl⟩
  | c + 1, n, z, Z, hc, hs, hz, hg, f, hh => by
    have hlt : (E.take (p + c + 1)).length = p + c + 1 := by rw [List.length_take]; omega
    have hpc : p + (c + 1) = p + c + 1 := by omega
    rw [hpc] at hs
    obtain ⟨hl, hs1⟩ := sl_p hs (E.getD (p + c) (0, 0)).2
    rw [hlt] at hl hs1
    have hk1 := kept_p n (p + c + 1) (E.getD (p + c) (0, 0)).2
    have htd : E.take (p + c + 1) ++ E.drop (p + c + 1) = E := List.take_append_drop _ _
    have h1 : SG (n.setP (p + c + 1) (E.getD (p + c) (0, 0)).2) (E.take (p + c + 1)) (E.drop (p + c + 1)) Z z.1 :=
      ⟨by rw [hs1, lastP_take _ _ (by omega)], hz, by rw [hk1.fi, htd]; exact hg, by rw [hk1.fi]; exact f.fi⟩
    have f1 := f.kept hk1
    have hh1 := h1.has (by rw [htd]; exact f1)
    rw [htd] at hh1
    obtain ⟨_, hs2⟩ := sl_k h1.sl (E.getD (p + c) (0, 0)).1
    rw [hlt] at hs2
    have hk2 := kept_k (n.setP (p + c + 1) (E.getD (p + c) (0, 0)).2) (p + c + 1) (E.getD (p + c) (0, 0)).1
    have h2 : SG ((n.setP (p + c + 1) (E.getD (p + c) (0, 0)).2).setK (p + c + 1) (E.getD (p + c) (0, 0)).1) (E.take (p + c + 1)) (E.drop (p + c + 1)) Z (E.getD (p + c) (0, 0)).1 :=
      ⟨by rw [hs2, hk2.fi], hz, by rw [hk2.fi, hk1.fi, htd]; exact hg, by rw [hk2.fi, hk1.fi]; exact f.fi⟩
    have f2 := f1.kept hk2
    have hh2 := h2.has (by rw [htd]; exact f2)
    rw [htd] at hh2
    have hs3 : ((n.setP (p + c + 1) (E.getD (p + c) (0, 0)).2).setK (p + c + 1) (E.getD (p + c) (0, 0)).1).sl = E.take (p + c) ++ E.getD (p + c) (0, 0) :: (E.drop (p + c) ++ Z) := by
      rw [h2.sl, hk2.fi, hk1.fi, lastP_take _ _ (by omega)]
      have hlt2 : p + c < E.length := by omega
      have hge : E.getD (p + c) (0, 0) = E[p + c] := by rw [List.getD_eq_getElem?_getD, List.getElem?_eq_getElem hlt2]; rfl
      rw [List.take_succ_eq_append_getElem hlt2, List.drop_eq_getElem_cons hlt2, hge, List.append_assoc]
      rfl
    obtain ⟨m, z', hst, hsm, hk, hct, hnx⟩ := up_steps base E p c _ _ Z (by omega) hs3 hz (by rw [hk2.fi, hk1.fi]; exact hg) f2 hh2
    obtain ⟨_, _, o1, o2, _⟩ := n.setP_other (p + c + 1) (E.getD (p + c) (0, 0)).2
    obtain ⟨_, _, o3, o4, _⟩ := (n.setP (p + c + 1) (E.getD (p + c) (0, 0)).2).setK_other (p + c + 1) (E.getD (p + c) (0, 0)).1
    exact ⟨m, z', ⟨hh, _, ap_p base n hl _, hh1, _, ap_k base _ hl _, hst⟩, hsm, (hk1.trans hk2).trans hk, by rw [hct, o4, o2], by rw [hnx, o3, o1]⟩
theorem riseB_iff (a : Int) (c : Bool) (l : List (Int × Int)) : riseB a c l = true ↔ (∀ e ∈ l, a < e.1 ∨ (a = e.1 ∧ c = true)) ∧ (l.map (·.1)).Pairwise (· < ·) := by
  induction l generalizing a c with
  | nil => simp [riseB]
  | cons e t ih =>
    unfold riseB
    by_cases h : e.1 < a ∨ (e.1 = a ∧ c = false)
    · rw [if_pos h]
      refine ⟨fun h => by simp at h, fun hh => ?_⟩
      have := hh.1 e (by simp)
      rcases h with h | ⟨h1, h2⟩
      · omega
      · subst h2
        simp at this
        omega
    · rw [if_neg h, ih]
      simp only [not_or, not_and, Bool.not_eq_false] at h
      obtain ⟨h1, h2⟩ := h
      constructor
      · rintro ⟨i1, i2⟩
        refine ⟨fun x hx => ?_, ?_⟩
        · rcases List.mem_cons.1 hx with rfl | hx
          · by_cases e1 : x.1 = a
            · exact Or.inr ⟨e1.symm, h2 e1⟩
            · exact Or.inl (by omega)
          · have := i1 x hx
            simp at this
            exact Or.inl (by omega)
        · rw [List.map_cons, List.pairwise_cons]
          refine ⟨fun y hy => ?_, i2⟩
          obtain ⟨x, hx, rfl⟩ := List.mem_map.1 hy
          have := i1 x hx
          simp at this
          exact this
      · rintro ⟨i1, i2⟩
        rw [List.map_cons, List.pairwise_cons] at i2
        exact ⟨fun x hx => Or.inl (i2.1 x.1 (List.mem_map.2 ⟨x, hx, rfl⟩)), i2.2⟩
theorem riseB_sub {a : Int} {c : Bool} {l m : List (Int × Int)} (h : riseB a c m = true) (hs : l.Sublist m) : riseB a c l = true := by
  rw [riseB_iff] at h ⊢
  exact ⟨fun e he => h.1 e (hs.subset he), h.2.sublist (hs.map _)⟩
theorem unlB_iff (f : Int) (l : List (Int × Int)) : unlB f l = true ↔ (f :: l.map (·.2)).Nodup := by simp [unlB]
theorem unlB_sub {f : Int} {l m : List (Int × Int)} (h : unlB f m = true) (hs : l.Sublist m) : unlB f l = true := by
  rw [unlB_iff] at h ⊢
  exact h.sublist ((hs.map _).cons_cons _)
theorem Fit.sub {n : Nd} {l m : List (Int × Int)} (h : Fit n m) (hs : l.Sublist m) : Fit n l := ⟨h.lv, h.fi, riseB_sub h.rise hs, unlB_sub h.unl hs⟩
theorem good_of_unl {a : Int} : ∀ {l : List (Int × Int)}, (a :: l.map (·.2)).Nodup → (∀ e ∈ l, e.2 ≠ 0) → Good a l
  | [], _, _ => trivial
  | e :: t, h, hz => by
    rw [List.map_cons, List.nodup_cons, List.mem_cons] at h
    exact ⟨hz e (by simp), fun hh => h.1 (Or.inl hh.symm), good_of_unl h.2 (fun x hx => hz x (by simp [hx]))⟩
theorem Fit.good {n : Nd} {E : List (Int × Int)} (h : Fit n E) (hz : ∀ e ∈ E, e.2 ≠ 0) : Good n.fi E := good_of_unl ((unlB_iff _ _).1 h.unl) hz
/-- A key and a pointer that are new, between those below and those above it. -/
theorem fit_ins {n : Nd} {A B : List (Int × Int)} {k p : Int} (h : Fit n (A ++ B)) (hA : ∀ e ∈ A, e.1 < k) (hB : ∀ e ∈ B, k < e.1) (hk : n.lo < k ∨ (n.lo = k ∧ n.l = 0)) (hp : p ≠ n.fi) (hpE : ∀ e ∈ A ++ B, p ≠ e.2) : Fit n (A ++ (k, p) :: B) := by
  refine ⟨h.lv, h.fi, ?_, ?_⟩
  · have := (riseB_iff _ _ _).1 h.rise
    refine (riseB_iff _ _ _).2 ⟨fun e he => ?_, ?_⟩
    · rcases List.mem_append.1 he with he | he
      · exact this.1 e (List.mem_append_left _ he)
      · rcases List.mem_cons.1 he with rfl | he
        · rcases hk with hk | hk
          · exact Or.inl hk
          · exact Or.inr ⟨hk.1, by simp [hk.2]⟩
        · exact this.1 e (List.mem_append_right _ he)
    · have h2 := this.2
      rw [List.map_append, List.pairwise_append] at h2
      rw [List.map_append, List.map_cons, List.pairwise_append, List.pairwise_cons]
      refine ⟨h2.1, ⟨fun y hy => ?_, h2.2.1⟩, fun x hx y hy => ?_⟩
      · obtain ⟨e, he, rfl⟩ := List.mem_map.1 hy
        exact hB e he
      · rcases List.mem_cons.1 hy with rfl | hy
        · obtain ⟨e, he, rfl⟩ := List.mem_map.1 hx
          exact hA e he
        · exact h2.2.2 x hx y hy
  · have := (unlB_iff _ _).1 h.unl
    refine (unlB_iff _ _).2 ?_
    have hperm : (n.fi :: (A ++ (k, p) :: B).map (·.2)).Perm (p :: n.fi :: (A ++ B).map (·.2)) := by
      rw [List.map_append, List.map_cons, List.map_append]
      exact (List.Perm.cons _ List.perm_middle).trans (List.Perm.swap _ _ _)
    rw [hperm.nodup_iff, List.nodup_cons]
    refine ⟨fun hm => ?_, this⟩
    rcases List.mem_cons.1 hm with hm | hm
    · exact hp hm
    · obtain ⟨e, he, h3⟩ := List.mem_map.1 hm
      exact hpE e he h3.symm
/-- Another pointer, that is new. -/
theorem fit_swap {n : Nd} {A B : List (Int × Int)} {k o p : Int} (h : Fit n (A ++ (k, o) :: B)) (hp : p ≠ n.fi) (hpE : ∀ e ∈ A ++ B, p ≠ e.2) : Fit n (A ++ (k, p) :: B) := by
  refine ⟨h.lv, h.fi, ?_, ?_⟩
  · have := (riseB_iff _ _ _).1 h.rise
    refine (riseB_iff _ _ _).2 ⟨fun e he => ?_, ?_⟩
    · rcases List.mem_append.1 he with he | he
      · exact this.1 e (List.mem_append_left _ he)
      · rcases List.mem_cons.1 he with rfl | he
        · exact this.1 (k, o) (by simp)
        · exact this.1 e (by simp [he])
    · simpa using this.2
  · have := (unlB_iff _ _).1 (unlB_sub h.unl (show (A ++ B).Sublist (A ++ (k, o) :: B) from (List.Sublist.refl A).append (List.sublist_cons_self _ _)))
    refine (unlB_iff _ _).2 ?_
    have hperm : (n.fi :: (A ++ (k, p) :: B).map (·.2)).Perm (p :: n.fi :: (A ++ B).map (·.2)) := by
      rw [List.map_append, List.map_cons, List.map_append]
      exact (List.Perm.cons _ List.perm_middle).trans (List.Perm.swap _ _ _)
    rw [hperm.nodup_iff, List.nodup_cons]
    refine ⟨fun hm => ?_, this⟩
    rcases List.mem_cons.1 hm with hm | hm
    · exact hp hm
    · obtain ⟨e, he, h3⟩ := List.mem_map.1 hm
      exact hpE e he h3.symm
end Go.Proofs.Yteojhhfcfdkmdaa
