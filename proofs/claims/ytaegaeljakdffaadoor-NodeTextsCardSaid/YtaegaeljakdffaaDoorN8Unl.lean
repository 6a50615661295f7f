/- unlike: are a node's First and the pointers of entries all unlike; of any node, few entries; without conditions else. -/
import Derived.Test.YtaegaeljakdffaaDoorN8Rise
namespace Go.Proofs.YtaegaeljakdffaaDoor
open Go.RowKit
set_option linter.unusedVariables false
theorem infoAddr8 : (Tryd.prog.info? 23).map (fun i => (i.zero, i.size, i.bytes)) = some (some (.int .u64 0), 1, 8) := by kernel_rfl
def metL (f : Int) (l : List (Int × Int)) (k : Nat) : List Int := f :: (l.take k).map (·.2)
theorem metL_len (f : Int) (l : List (Int × Int)) {k : Nat} (hk : k ≤ l.length) : (metL f l k).length = k + 1 := by simp [metL]; omega
theorem metL_succ (f : Int) (l : List (Int × Int)) {k : Nat} (hk : k < l.length) : metL f l (k + 1) = metL f l k ++ [(l.getD k (0, 0)).2] := by
  have : l.take (k + 1) = l.take k ++ [l.getD k (0, 0)] := by
    rw [List.take_succ_eq_append_getElem hk, List.getD_eq_getElem?_getD, List.getElem?_eq_getElem hk]
    rfl
  unfold metL
  rw [this, List.map_append]
  rfl
set_option maxRecDepth 100000 in
set_option maxHeartbeats 4000000 in
theorem nUnlike_any (n : Nd) {w : World} {v : Value} {l : List (Int × Int)} (h : EntAt w v l) (hl : l.length ≤ 900) :
    Calls Tryd.prog 41 #[n.V, v] w fun e w' => e = .returned (.bool (unlB n.fi l)) ∧ Below w.heap.size w w' := by
  obtain ⟨i0, hi, hz0, hz1, hz2⟩ := info_parts infoAddr8
  obtain ⟨Wa, hWa⟩ : ∃ Wa, Wa = (w.alloc (.cells n.cl.toArray 27)).alloc (.cells #[.int .u64 n.fi] 23) := ⟨_, rfl⟩
  have hb0 : Below w.heap.size w Wa := by rw [hWa]; exact low_and (alloc_low _ _) (alloc_low _ _)
  obtain ⟨A, cap, rfl, hA⟩ := h
  have c4 : (w.alloc (.cells n.cl.toArray 27)).cell? ⟨w.heap.size, 4, none⟩ = some (.int .u64 n.fi) := ndAt_at (Row.new w 27 n.cl.toArray) 4
  have hsa : Wa.heap.size = w.heap.size + 2 := by rw [hWa]; simp
  have rm : Row Wa (w.heap.size + 1) 23 #[.int .u64 n.fi] := by
    rw [hWa]
    have := Row.new (w.alloc (.cells n.cl.toArray 27)) 23 #[.int .u64 n.fi]
    simpa only [World.size_alloc] using this
  have hown0 : Wa.ownsRow w.heap.size 23 1 (.slice (some ⟨w.heap.size + 1, 0, none⟩) 1 1) 1 ((metL n.fi l 0).map uw) := ⟨rfl, .inr ⟨_, 1, _, rfl, by omega, rm, by omega, by unfold maxLen; omega, by simp, rfl⟩⟩
  obtain ⟨m, hm⟩ : ∃ m, m = l.length := ⟨_, rfl⟩
  have HA := Lib.hid (fun (h0 : 0 < m) => (show ∃ g o, A = some ⟨g, o, none⟩ ∧ ∀ k, k < m → w.cell? ⟨g, o + k * 2, none⟩ = some (uw (l.getD k (0, 0)).1) ∧ w.cell? ⟨g, o + k * 2 + 1, none⟩ = some (uw (l.getD k (0, 0)).2) by
    obtain ⟨g, o, rfl, hc⟩ := hA (by omega)
    exact ⟨g, o, rfl, fun k hk => hc k _ (getD_ent (by omega))⟩))
  obtain ⟨R, hR⟩ : ∃ R, R = unlB n.fi l := ⟨_, rfl⟩
  rw [← hR, ← hm]
  rw [← hm] at hl
  have HR := Lib.hid hR
  have HMs := Lib.hid (fun k (hk : k < m) => metL_succ n.fi l (k := k) (by omega))
  have HMl := Lib.hid (fun k (hk : k ≤ m) => metL_len n.fi l (k := k) (by omega))
  have HUn := Lib.hid (fun k (hk : k < m) h => unl_no (f := n.fi) (l := l) (k := k) (by omega) h)
  have HUs := Lib.hid (fun k (hk : k < m) h0 h => unl_step (f := n.fi) (l := l) (k := k) (by omega) h0 h)
  have HUd := Lib.hid (fun (h0 : (metL n.fi l m).Nodup) => (show unlB n.fi l = true by
    unfold metL at h0
    rw [hm, List.take_length] at h0
    unfold unlB
    rw [decide_eq_true_iff]
    exact h0))
  have HB0 := Lib.hid hb0
  have HOW0 := Lib.hid hown0
  have HWa := Lib.hid hWa
  clear hA hm rm hR hb0 hown0 hWa
  go_enter Tryd.func41, Tryd.ntmps41
  go_wp2_with fail
  rw [← HWa.out]
  go_loopw [5, 13] (fun u i wr => ∃ k : Nat, k ≤ m ∧ i = .int .i64 (k : Int) ∧ wr.ownsRow w.heap.size 23 1 u (k + 1) ((metL n.fi l k).map uw) ∧ (metL n.fi l k).Nodup ∧ Below w.heap.size w wr) (fun _ i _ => m - (intOf i).toNat)
  case atStart => exact ⟨0, by omega, rfl, HOW0.out, by simp [metL], HB0.out⟩
  case round =>
    obtain ⟨k, hk, rfl, hown, hnd, hb⟩ := hrel
    have HBk := Lib.hid hb
    have HND := Lib.hid hnd
    by_cases hlt : k < m
    · obtain ⟨g, o, hAe, hc⟩ := HA.out (by omega)
      obtain ⟨q1, q2⟩ := hc k hlt
      obtain ⟨e, he⟩ : ∃ e, e = l.getD k (0, 0) := ⟨_, rfl⟩
      rw [← he] at q1 q2
      have hms := HMs.out k hlt
      have hun := HUn.out k hlt
      have hus := HUs.out k hlt hnd
      rw [← he] at hms hun hus
      obtain ⟨ek, ep⟩ := e
      dsimp only at q1 q2 hms hun hus
      have p1 := (hb.cell (p := ⟨g, o + k * 2, none⟩) (w.block_lt_of_cell? _ q1)).trans q1
      have p2 := (hb.cell (p := ⟨g, o + k * 2 + 1, none⟩) (w.block_lt_of_cell? _ q2)).trans q2
      have hkb : k < 900 := by omega
      subst hAe
      unfold uw at p1 p2
      obtain ⟨g', cap', rfl⟩ := ownsRow_succ hown
      rename World => wr
      obtain ⟨We, hWe⟩ : ∃ We, We = wr.alloc (.cells #[.int .u64 ek, .int .u64 ep] 39) := ⟨_, rfl⟩
      have hbe : Below wr.heap.size wr We := by rw [hWe]; exact alloc_low _ _
      have hownE := ownS_low hown hbe
      have hlm := HMl.out k hk
      have HC := contains_any (w := We) (g := g') (o := 0) (cap := cap') (l := metL n.fi l k) (fun i x hx => by
        have := hownE.cells (g := g') rfl i (uw x) (by rw [List.getElem?_map, hx]; rfl)
        rwa [Addr.add_mid] at this) (by rw [hlm]; omega) ep
      rw [hlm] at HC
      have HC := Lib.hid HC
      have HOWE := Lib.hid hownE
      have HMS := Lib.hid hms
      have HUN := Lib.hid hun
      have HUS := Lib.hid hus
      have hbw : Below w.heap.size w We := hb.trans (hbe.mono hb.size)
      have HBW := Lib.hid hbw
      have e0 : We.cell? ⟨wr.heap.size, 0, none⟩ = some (.int .u64 ek) := by rw [hWe]; exact (Row.new wr 39 _).cell 0
      have e1 : We.cell? ⟨wr.heap.size, 1, none⟩ = some (.int .u64 ep) := by rw [hWe]; exact (Row.new wr 39 _).cell 1
      have HWE := Lib.hid hWe
      have a1 : (k + 1) + 1 ≤ maxLen := by unfold maxLen; omega
      have a2 : ((k + 1) + 1) * 8 ≤ 140737488355328 := by omega
      have a3 : w.heap.size ≤ We.heap.size := hbw.size
      clear hc q1 q2 he hms hun hus hown hownE hnd hb hbe hbw hWe hlm
      by_cases hin : ep ∈ metL n.fi l k
      · have hf := HUN.out hin
        rw [decide_eq_true hin] at HC
        go_wp2_with (first | (rw [← HWE.out]; fail) | (go_at_call 48; rw [← HWE.out]; refine HC.out.mono ?_; rintro e w' ⟨rfl, rfl⟩))
        go_ret
        exact ⟨by rw [HR.out, hf]; rfl, HBW.out⟩
      · have hnd' := HUS.out hin
        have HND' := Lib.hid hnd'
        rw [decide_eq_false hin] at HC
        clear hnd'
        go_wp2_with (first
          | (go_at_call 48; rw [← HWE.out]; refine HC.out.mono ?_; rintro e w' ⟨rfl, rfl⟩)
          | (at_builtin; refine wpList_append_own _ rfl _ _ 81 rfl w.heap.size 23 i0 (.int .u64 0) 1 8 Tryd.underlying81 hi hz0 hz1 hz2 rfl (by decide) _ (k + 1) _ rfl (HOWE.out.alloc _) ⟨_, 0, none⟩ 1 1 [.int .u64 ep] rfl rfl (cell_one_new _ _ _) (by simp [Value.oneCell']) a1 a2 (by simp; omega) ?_; intro v' w1 hown' hgrow _))
        exact ⟨⟨k + 1, by omega, by go_num, by rw [HMS.out, List.map_append]; exact hown', HND'.out, (HBW.out.alloc a3 _).grown hgrow (by simp; omega) (fun b hb => (ownS_from HOWE.out b hb).1)⟩, by simp [intOf]; omega⟩
    · obtain rfl : k = m := by omega
      have hu := HUd.out hnd
      have HU := Lib.hid (HR.out.trans hu)
      clear hown hnd hb hu
      go_wp2
      go_ret
      exact ⟨by rw [HU.out]; rfl, HBk.out⟩
end Go.Proofs.YtaegaeljakdffaaDoor
