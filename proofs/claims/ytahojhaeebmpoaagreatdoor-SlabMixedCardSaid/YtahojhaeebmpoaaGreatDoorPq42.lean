/- Texts of this claim, packed: 6Beg, 6Do3a, 6Do3s, 6Do4a, 6Sj, 6Do5. -/
import Derived.Test.YtahojhaeebmpoaaGreatDoorPq39
import Derived.Test.YtahojhaeebmpoaaGreatDoorPq25
import Derived.Test.YtahojhaeebmpoaaGreatDoorPq28
import Derived.Test.YtahojhaeebmpoaaGreatDoorPq34
import Derived.Test.YtahojhaeebmpoaaGreatDoorPq40
import Derived.Test.YtahojhaeebmpoaaGreatDoorPq41
import Derived.Deep.QuietTactic
import Derived.Deep.DeepCutAuto
import Derived.Deep.CutBlock
/- The law's game begins: of an image that may be. -/
namespace Go.Proofs.YtahojhaeebmpoaaGreatDoor
open Go Go.RowKit Go.Sort
set_option linter.unusedVariables false
/-- What the game holds at first. -/
def ini6 (l : List Nat) (n : Nat) : S6 := ⟨St.ofBytes (16 * (n + 1)) l, hsK (hcW l) (hbW l) n n, clsK l n, LK l n, []⟩
theorem ini6_inv {l : List Nat} {n : Nat} (hb : ∀ x ∈ l, x < 256) (hn : n ≤ 4) (ok : okHeads l n) : Inv6 0 (ini6 l n) := by
  refine ⟨ini_is hb (by omega) ok, fun x hx => ?_, (fun t ht => by cases ht), List.Pairwise.nil, Nat.le_refl _, fun q hq => ?_, by have := LK_len l n; show (LK l n).length ≤ _; omega, Nat.le_refl _⟩
  · obtain ⟨q, hq⟩ := List.mem_iff_getElem?.1 hx
    have hq : (hsK (hcW l) (hbW l) n n)[q]? = some x := hq
    have hqn : q < n := by have := (List.getElem?_eq_some_iff.1 hq).1; rwa [hsK_len] at this
    rw [hsK_get hqn, if_pos hqn] at hq
    cases hq
    exact hbW_fit hb q
  · have hq : q ∈ List.replicate (16 * (n + 1)) ([] : List (Nat × Nat)) := hq
    rw [List.eq_of_mem_replicate hq]
    exact Nat.le_refl _
theorem W6At.less {w : World} {B C gw size : Nat} {cls : List Nat} {L : List (Nat × Nat)} {vc vl : Value} (h : W6At w C gw size cls L vc vl) (hB : B ≤ C) : W6At w B gw size cls L vc vl :=
  ⟨h.row, own_less h.cls hB, own_less h.bl hB, Nat.le_trans hB h.low⟩
set_option maxRecDepth 100000 in
set_option maxHeartbeats 1600000 in
theorem begin6_any {w : World} {gi cap n : Nat} {l : List Nat} (hl : l.length = 1024 * (n + 1)) (hr : Row w gi 5 (l.map bv).toArray) (hb : ∀ x ∈ l, x < 256) (h0 : 0 < n) (h4 : n ≤ 4) (R : Rms w) (hok : okHeads l n) :
    Calls Tryz.prog 17 #[.slice (some ⟨gi, 0, none⟩) (1024 * (n + 1)) cap] w fun e w' => ∃ gg mg gs gw, e = .returned (.pointer (some ⟨gg, 0, none⟩)) ∧ GD w (fun _ => False) w.heap.size l.length gg mg gs gw (RQ (ini6 l n)) w' := by
  have hrm : 0 < w.heap.size := by
    obtain ⟨tt, hR⟩ := R
    exact heap_lt hR
  have HM := pOf_yes (w := w) (A := some ⟨gi, 0, none⟩) (cap := cap) (nl := 16 * (n + 1)) (l := l) (by omega) (row_sl hr) hb (by omega) (by omega)
  rw [show 64 * (16 * (n + 1)) = 1024 * (n + 1) from by omega] at HM
  have HM := Lib.hid HM
  have HO := Lib.hid fun (W : World) (hW : Below w.heap.size w W) => slabOf_yes (w := W) (A := some ⟨gi, 0, none⟩) (cap := cap) (n := n) hl (row_sl (hr.below hW hr.lt)) hb h0 (by omega) (R.below hW)
  have HR6 := Lib.hid fun (W : World) (hW : Below w.heap.size w W) => r6Of_yes (w := W) (a := ⟨gi, 0, none⟩) (cap := cap) (n := n) hl (row_sl (hr.below hW hr.lt)) hb h0 (by omega)
  have HFIN := Lib.hid (show ∀ (w1 w2 w3 : World) (ym : Lay) (y : SLay) (gw : Nat) (vc vl : Value), MemAt w1 ym (St.ofBytes (16 * (n + 1)) l) → (∀ k, ym.fp k → w.heap.size ≤ k) → Below w.heap.size w w1 →
      SlabMem w2 y (hsK (hcW l) (hbW l) n n) (fsK (hcW l) (hbW l) n) → (∀ k, y.fp k → w1.heap.size ≤ k) → Below w1.heap.size w1 w2 → W6At w3 w2.heap.size gw l.length (clsK l n) (LK l n) vc vl → Below w2.heap.size w2 w3 →
      GD w (fun _ => False) w.heap.size l.length w3.heap.size ym.g y.gs gw (RQ (ini6 l n)) (w3.alloc (.cells #[fpt ym.g, fpt y.gs, fpt gw, .slice none 0 0] 51)) from by
    intro w1 w2 w3 ym y gw vc vl hm hmf hb1 hs hsf hb2 hw hb3
    have hal := alloc_below w3 (.cells #[fpt ym.g, fpt y.gs, fpt gw, .slice none 0 0] 51)
    have hB3 : Below w.heap.size w w3 := Below.and (Below.and hb1 hb2) hb3
    have hm3 := (hm.below hb2).below hb3
    have hs3 := hs.below hb3
    have hls : (hsK (hcW l) (hbW l) n n).length = n := hsK_len _ _ _ _
    refine ⟨⟨ym, y, w3.heap.size, gw, .slice none 0 0, vc, vl⟩, ini6 l n, 0, [], {
      row := Row.new _ _ _
      gm := ⟨_, ⟨hm3.below hal, ofBytes_Ok hb, hs3.below hal, hsK_ok _ _ _, fsK_ok _ _ _, ⟨R.below (Below.and hB3 hal), fun h => ?_⟩, fun h => ?_, ?_⟩⟩
      w6 := (hw.less (Nat.le_trans hb1.size hb2.size)).below hal
      tn := World.ownsRow_nil _ _ _ _
      ta := fun t ht => by cases ht
      gts := List.nodup_nil
      vcn := fun k hk h => ?_
      rb := hrm
      but := But.of_below (Below.and hB3 hal) _
      fp := fun k hk => ?_
      pb := fun k h => h.elim
      wb := Nat.le_refl _ }, rfl, rfl, rfl, rfl, rfl, rfl, rfl⟩
    · have := hsf _ h; have := hb1.size; omega
    · have := hmf _ h; omega
    · show 64 * (16 * (n + 1)) = 1024 * ((hsK (hcW l) (hbW l) n n).length + 1)
      rw [hls]; omega
    · have h1 : w2.heap.size ≤ k := own_base hw.cls hk
      have h2 := hs.lt h
      omega
    · right
      have hz := hB3.size
      rcases hk with h | h | h | h | h | h | ⟨t, ht, _⟩
      · exact hmf k h
      · have := hsf k h; have := hb1.size; omega
      · rw [h]; exact hz
      · rw [h]; have := hw.low; have := hb1.size; have := hb2.size; show w.heap.size ≤ gw; omega
      · cases h
      · have h1 : w2.heap.size ≤ k := own_base hw.cls h
        have := hb1.size; have := hb2.size; omega
      · cases ht)
  obtain ⟨Z, hZ⟩ : ∃ Z, Z = 1024 * (n + 1) := ⟨_, rfl⟩
  rw [← hZ] at HM HO HR6 ⊢
  have HOK := Lib.hid hok
  clear hl hr hb h0 h4 R hok hrm hZ
  go_enter Tryz.func17, Tryz.ntmps17
  go_wp2_with fail
  refine HM.out.mono ?_
  rintro e w1 ⟨ym, rfl, hm, hmf, hb1⟩
  have HO1 := Lib.hid (HO.out w1 hb1)
  have HF1 := Lib.hid (fun w2 w3 y gw vc vl => HFIN.out w1 w2 w3 ym y gw vc vl hm hmf hb1)
  have HB1 := Lib.hid hb1
  obtain ⟨mg, hmg⟩ : ∃ g, g = ym.g := ⟨_, rfl⟩
  rw [← hmg] at HF1 ⊢
  clear hm hmf hb1 HM HO HFIN hmg
  go_wp2_with fail
  refine HO1.out.mono ?_
  rintro e w2 (⟨_, y, rfl, hs, hsf, hb2⟩ | ⟨hno, _⟩)
  · have HR := Lib.hid (HR6.out w2 (Below.and HB1.out hb2))
    have HF2 := Lib.hid (fun w3 gw vc vl => HF1.out w2 w3 y gw vc vl hs hsf hb2)
    obtain ⟨gs, hgs⟩ : ∃ g, g = y.gs := ⟨_, rfl⟩
    rw [← hgs] at HF2
    unfold fpt at HF2 ⊢
    rw [← hgs]
    clear hs hsf hb2 HO1 HR6 HF1 hgs
    go_wp2_with fail
    refine HR.out.mono ?_
    rintro e w3 (⟨_, gw, vc, vl, rfl, hw, hb3⟩ | ⟨hno, _⟩)
    · have HE := Lib.hid (HF2.out w3 gw vc vl hw hb3)
      clear hw hb3 HF2 HR
      unfold fpt
      go_wp2
      go_ret
      exact ⟨_, _, _, _, rfl, HE.out⟩
    · exact absurd HOK.out hno
  · exact absurd HOK.out hno
end Go.Proofs.YtahojhaeebmpoaaGreatDoor
/- The law's game, an act: Publish. -/
namespace Go.Proofs.YtahojhaeebmpoaaGreatDoor
open Go Go.RowKit Go.Sort
set_option linter.unusedVariables false
end Go.Proofs.YtahojhaeebmpoaaGreatDoor
/- The law's game, an act: Publish. -/
namespace Go.Proofs.YtahojhaeebmpoaaGreatDoor
open Go Go.RowKit Go.Sort
set_option linter.unusedVariables false
end Go.Proofs.YtahojhaeebmpoaaGreatDoor
/- The law's game, an act: Free. -/
namespace Go.Proofs.YtahojhaeebmpoaaGreatDoor
open Go Go.RowKit Go.Sort
set_option linter.unusedVariables false
end Go.Proofs.YtahojhaeebmpoaaGreatDoor
/- A step of the law's game: any number, any turns. -/
namespace Go.Proofs.YtahojhaeebmpoaaGreatDoor
open Go Go.RowKit Go.Sort
set_option linter.unusedVariables false
theorem gstep_any {w0 w : World} {P0 : Nat → Prop} {B size gg mg gs gw N : Nat} {z : S6} (G : GD w0 P0 B size gg mg gs gw (RQ z) w) (hI : Inv6 N z) (hN : N ≤ 800) (n : Int) :
    Calls Tryz.prog 55 #[.pointer (some ⟨gg, 0, none⟩), .int .i64 n] w (StP w0 P0 B size gg mg gs gw z) := by
  by_cases h0 : z.T = []
  · exact gstep_none G h0 n
  · have hl : 0 < z.T.length := List.length_pos_iff.2 h0
    have hU : 0 ≤ IntKind.u64.wrap n := by rw [IntKind.wrap_u64]; omega
    obtain ⟨q, hq⟩ : ∃ q : Nat, (q : Int) = IntKind.u64.wrap n % (z.T.length : Int) := ⟨(IntKind.u64.wrap n % (z.T.length : Int)).toNat, by have := Int.emod_nonneg (IntKind.u64.wrap n) (show (z.T.length : Int) ≠ 0 by omega); omega⟩
    have hqm : q < z.T.length := by have := Int.emod_lt_of_pos (IntKind.u64.wrap n) (show (0 : Int) < (z.T.length : Int) by omega); omega
    have ht := List.getElem?_eq_getElem hqm
    have hq2 : (q : Int) = (IntKind.u64.wrap n).tmod (z.T.length : Int) := by rw [Int.tmod_eq_emod_of_nonneg hU]; exact hq
    obtain ⟨x, hx, _, _, _, hk, _⟩ := hI.tn _ (List.mem_of_getElem? ht)
    by_cases h3 : (z.T[q]).k = 3
    · exact gstep_done G hI hN n ht hx hq2 h3
    · exact gstep_on G hI hN n ht hx hq2 (by omega)
end Go.Proofs.YtahojhaeebmpoaaGreatDoor
/- The law's game, an act: a step. -/
namespace Go.Proofs.YtahojhaeebmpoaaGreatDoor
open Go Go.RowKit Go.Sort
set_option linter.unusedVariables false
set_option maxRecDepth 100000 in
set_option maxHeartbeats 4000000 in
theorem gdo6_5 {w0 w : World} {P0 : Nat → Prop} {B size gg mg gs gw N : Nat} {z : S6} (G : GD w0 P0 B size gg mg gs gw (RQ z) w) (hI : Inv6 N z) (hN : N ≤ 700) (n : Int) (c : Int) (a : Nat) :
    Calls Tryz.prog 18 #[.pointer (some ⟨gg, 0, none⟩), .agg #[.int .i64 5, .int .i64 n, .int .u64 (a : Int), .int .i64 c]] w (Do6P w0 P0 B size gg mg gs gw z (fun z' => (z.T = [] ∧ z' = z) ∨ ∃ q t x, z.T[q]? = some t ∧ z.hs[t.i]? = some x ∧ z' = finT z q t x)) := by
  have hL := hI.ll
  obtain ⟨W1, P, hg, hA, hback⟩ := G.start 5 n c a
  have H := Lib.hid hg
  have HA := Lib.hid hA
  have HBK := Lib.hid hback
  have HI0 := Lib.hid hI
  have HOK := Lib.hid G.ok
  have EGsame6 := Lib.hid (enters_of Tryz.func11 (by kernel_rfl) rfl)
  have mixed : Tryz.prog.follows .mixedOrders = true := by kernel_rfl
  clear G hg hA hback hI
  clear hL
  obtain ⟨s0, s1, s2, s3, s4, s5⟩ := H.out.sg HA.out
  go_enter Tryz.func18, Tryz.ntmps18
  go_wp2_with fail
  refine (gstep_any H.out HI0.out (by omega) n).mono ?_
  rintro e y1 ⟨rfl, z1, hz, hH⟩
  have hst : Step6 z z1 := by
    rcases hz with ⟨_, rfl⟩ | ⟨q, t, x, ht, hx, rfl⟩
    · exact .stay z1
    · exact finT_step HI0.out ht hx
  clear s0 s1 s2 s3 s4 s5 H
  have H := Lib.hid hH
  have HS := Lib.hid hst
  have HZ := Lib.hid hz
  have HI := Lib.hid (HI0.out.step HOK.out.1 HOK.out.2.1 hst)
  clear hH hst hz
  go_upto_region 26 with (fail)
  refine wp_region_noPanic ?_
  refine wp_region_held_drew (S := SG6 gg w.heap.size mg gs gw n a c) (by kernel_rfl) (H.out.drew.sg HA.out) (fun hHeld => ?_)
  have H2 := Lib.hid H.out.drew
  clear H
  have H := H2
  clear H2
  refine wpAnyH_take (i := 0) (oi := ⟨some 163, _, _, _, _, _⟩) (v := .bool true) rfl (by kernel_rfl) (by kernel_rfl) (by kernel_rfl) (fun _ _ _ h => h) (Or.inl ⟨by kernel_rfl, by intro WW hSw; obtain ⟨s0, s1, s2, s3, s4, s5⟩ := hSw; go_simp⟩) (by assumption) ?_
  (try simp only [Act.put, List.setIfInBounds_toArray, List.set_cons_zero, List.set_cons_succ])
  refine wpAnyH_take (i := 1) (oi := ⟨some 164, _, _, _, _, _⟩) (v := .bool true) rfl (by kernel_rfl) (by kernel_rfl) (by kernel_rfl) (fun _ _ _ h => h) (Or.inl ⟨by kernel_rfl, by intro WW hSw; obtain ⟨s0, s1, s2, s3, s4, s5⟩ := hSw; go_simp⟩) (by assumption) ?_
  (try simp only [Act.put, List.setIfInBounds_toArray, List.set_cons_zero, List.set_cons_succ])
  refine wpAnyH_take (i := 2) (oi := ⟨some 165, _, _, _, _, _⟩) (v := .pointer (some ⟨gg, 0, none⟩)) rfl (by kernel_rfl) (by kernel_rfl) (by kernel_rfl) (fun _ _ _ h => h) (Or.inl ⟨by kernel_rfl, by intro WW hSw; obtain ⟨s0, s1, s2, s3, s4, s5⟩ := hSw; go_simp⟩) (by assumption) ?_
  (try simp only [Act.put, List.setIfInBounds_toArray, List.set_cons_zero, List.set_cons_succ])
  refine wpAnyH_take (i := 3) (oi := ⟨some 166, _, _, _, _, _⟩) (v := .pointer (some ⟨gg, 0, none⟩)) rfl (by kernel_rfl) (by kernel_rfl) (by kernel_rfl) (fun _ _ _ h => h) (Or.inl ⟨by kernel_rfl, by intro WW hSw; obtain ⟨s0, s1, s2, s3, s4, s5⟩ := hSw; go_simp⟩) (by assumption) ?_
  (try simp only [Act.put, List.setIfInBounds_toArray, List.set_cons_zero, List.set_cons_succ])
  refine wpAnyH_take (i := 4) (oi := ⟨some 167, _, _, _, _, _⟩) (v := .pointer (some ⟨gg, 1, none⟩)) rfl (by kernel_rfl) (by kernel_rfl) (by kernel_rfl) (fun _ _ _ h => h) (Or.inl ⟨by kernel_rfl, by intro WW hSw; obtain ⟨s0, s1, s2, s3, s4, s5⟩ := hSw; go_simp⟩) (by assumption) ?_
  (try simp only [Act.put, List.setIfInBounds_toArray, List.set_cons_zero, List.set_cons_succ])
  refine wpAnyH_take (i := 5) (oi := ⟨some 168, _, _, _, _, _⟩) (v := .pointer (some ⟨gs, 0, none⟩)) rfl (by kernel_rfl) (by kernel_rfl) (by kernel_rfl) (fun _ _ _ h => h) (Or.inl ⟨by kernel_rfl, by intro WW hSw; obtain ⟨s0, s1, s2, s3, s4, s5⟩ := hSw; go_simp⟩) (by assumption) ?_
  (try simp only [Act.put, List.setIfInBounds_toArray, List.set_cons_zero, List.set_cons_succ])
  refine wpAnyH_take (i := 6) (oi := ⟨some 169, _, _, _, _, _⟩) (v := .pointer (some ⟨gg, 0, none⟩)) rfl (by kernel_rfl) (by kernel_rfl) (by kernel_rfl) (fun _ _ _ h => h) (Or.inl ⟨by kernel_rfl, by intro WW hSw; obtain ⟨s0, s1, s2, s3, s4, s5⟩ := hSw; go_simp⟩) (by assumption) ?_
  (try simp only [Act.put, List.setIfInBounds_toArray, List.set_cons_zero, List.set_cons_succ])
  refine wpAnyH_take (i := 7) (oi := ⟨some 170, _, _, _, _, _⟩) (v := .pointer (some ⟨gg, 0, none⟩)) rfl (by kernel_rfl) (by kernel_rfl) (by kernel_rfl) (fun _ _ _ h => h) (Or.inl ⟨by kernel_rfl, by intro WW hSw; obtain ⟨s0, s1, s2, s3, s4, s5⟩ := hSw; go_simp⟩) (by assumption) ?_
  (try simp only [Act.put, List.setIfInBounds_toArray, List.set_cons_zero, List.set_cons_succ])
  refine wpAnyH_take (i := 8) (oi := ⟨some 171, _, _, _, _, _⟩) (v := .pointer (some ⟨gg, 2, none⟩)) rfl (by kernel_rfl) (by kernel_rfl) (by kernel_rfl) (fun _ _ _ h => h) (Or.inl ⟨by kernel_rfl, by intro WW hSw; obtain ⟨s0, s1, s2, s3, s4, s5⟩ := hSw; go_simp⟩) (by assumption) ?_
  (try simp only [Act.put, List.setIfInBounds_toArray, List.set_cons_zero, List.set_cons_succ])
  refine wpAnyH_take (i := 9) (oi := ⟨some 172, _, _, _, _, _⟩) (v := .pointer (some ⟨gw, 0, none⟩)) rfl (by kernel_rfl) (by kernel_rfl) (by kernel_rfl) (fun _ _ _ h => h) (Or.inl ⟨by kernel_rfl, by intro WW hSw; obtain ⟨s0, s1, s2, s3, s4, s5⟩ := hSw; go_simp⟩) (by assumption) ?_
  (try simp only [Act.put, List.setIfInBounds_toArray, List.set_cons_zero, List.set_cons_succ])
  refine wpAnyH_one (i := 10) (oi := ⟨_, _, _, _, _, _⟩) rfl (by kernel_rfl) (fun K hK => ?_)
  refine step_calls (by rfl) 11 EGsame6.out [.tmp 168, .tmp 172] _ rfl [.pointer (some ⟨gs, 0, none⟩), .pointer (some ⟨gw, 0, none⟩)] rfl (H.out.same HI.out (by omega)) ?_
  rintro e x1 ⟨rfl, hH⟩
  refine ⟨_, rfl, hK _ _ (hH.sg HA.out) (fun _ => ?_)⟩
  have hHeld := hH.sg HA.out
  clear hK K H
  have H := Lib.hid hH
  clear hH
  (try simp only [Act.put, List.setIfInBounds_toArray, List.set_cons_zero, List.set_cons_succ])
  refine wpAnyH_take (i := 11) (oi := ⟨some 174, _, _, _, _, _⟩) (v := .bool true) rfl (by kernel_rfl) (by kernel_rfl) (by kernel_rfl) (fun _ _ _ h => h) (Or.inl ⟨by kernel_rfl, by intro WW hSw; obtain ⟨s0, s1, s2, s3, s4, s5⟩ := hSw; go_simp⟩) (by assumption) ?_
  (try simp only [Act.put, List.setIfInBounds_toArray, List.set_cons_zero, List.set_cons_succ])
  refine wpAnyH_take (i := 12) (oi := ⟨some 4, _, _, _, _, _⟩) (v := .bool true) rfl (by kernel_rfl) (by kernel_rfl) (by kernel_rfl) (fun _ _ _ h => h) (Or.inl ⟨by kernel_rfl, by intro WW hSw; obtain ⟨s0, s1, s2, s3, s4, s5⟩ := hSw; go_simp⟩) (by assumption) ?_
  (try simp only [Act.put, List.setIfInBounds_toArray, List.set_cons_zero, List.set_cons_succ])
  refine wpAnyH_done (by kernel_rfl) ?_ _
  unfold NoPanic
  clear hHeld
  have HE := Lib.hid (HBK.out _ _ H.out)
  clear H
  go_wp2
  go_ret
  exact ⟨rfl, _, HS.out, HZ.out, HE.out⟩
end Go.Proofs.YtahojhaeebmpoaaGreatDoor
