/- Texts of this claim, packed: 6St. -/
import Derived.Test.YtahojhaeebmpoaaGreatDoorPq40
import Derived.Test.YtahojhaeebmpoaaGreatDoorPq32
import Derived.Deep.QuietTactic
import Derived.Deep.DeepCutAuto
import Derived.Deep.CutBlock
/- A step of a turn in the law's game; of no turn; one that goes on; one that is done. -/
namespace Go.Proofs.YtahojhaeebmpoaaGreatDoor
open Go Go.RowKit Go.Sort
set_option linter.unusedVariables false
/-- What a step leaves. -/
def StP (w0 : World) (P0 : Nat → Prop) (B size gg mg gs gw : Nat) (z : S6) (e : Ending) (w' : World) : Prop :=
  e = .returned (.bool true) ∧ ∃ z', ((z.T = [] ∧ z' = z) ∨ ∃ q t x, z.T[q]? = some t ∧ z.hs[t.i]? = some x ∧ z' = finT z q t x) ∧ GD w0 P0 B size gg mg gs gw (RQ z') w'
theorem TD.drew {w0 w : World} {P0 : Nat → Prop} {B size gg mg gs gw n : Nat} {vt : Value} {z : S6} {xs : List Value} (G : TD w0 P0 B size gg mg gs gw vt z n xs w) : TD w0 P0 B size gg mg gs gw vt z n xs w.drew := G.below (drew_below w)
set_option maxRecDepth 100000 in
set_option maxHeartbeats 1600000 in
theorem gstep_none {w0 w : World} {P0 : Nat → Prop} {B size gg mg gs gw : Nat} {z : S6} (G : GD w0 P0 B size gg mg gs gw (RQ z) w) (h0 : z.T = []) (n : Int) :
    Calls Tryz.prog 55 #[.pointer (some ⟨gg, 0, none⟩), .int .i64 n] w (StP w0 P0 B size gg mg gs gw z) := by
  obtain ⟨vt, G1⟩ := G.open
  have HE := Lib.hid (show StP w0 P0 B size gg mg gs gw z (.returned (.bool true)) w from ⟨rfl, z, .inl ⟨h0, rfl⟩, G⟩)
  have c3 := G1.g3
  obtain ⟨A, c, rfl⟩ := own_at4 G1.own
  rw [h0, List.length_nil] at c3
  clear G G1 h0
  go_enter Tryz.func55, Tryz.ntmps55
  go_wp2
  go_ret
  exact HE.out
set_option maxRecDepth 100000 in
set_option maxHeartbeats 4000000 in
theorem gstep_on {w0 w : World} {P0 : Nat → Prop} {B size gg mg gs gw N : Nat} {z : S6} (G : GD w0 P0 B size gg mg gs gw (RQ z) w) (hI : Inv6 N z) (hN : N ≤ 800) (n : Int) {q : Nat} {t : Tu} {x : Hd} (ht : z.T[q]? = some t) (hx : z.hs[t.i]? = some x) (hq : (q : Int) = (IntKind.u64.wrap n).tmod (z.T.length : Int)) (hk : t.k < 3) :
    Calls Tryz.prog 55 #[.pointer (some ⟨gg, 0, none⟩), .int .i64 n] w (StP w0 P0 B size gg mg gs gw z) := by
  have mixed : Tryz.prog.follows .mixedOrders = true := by kernel_rfl
  have hL := hI.ll
  have hTl := hI.tl
  obtain ⟨_, _, _, _, _, hk3, _⟩ := hI.tn t (List.mem_of_getElem? ht)
  obtain ⟨vt, G1⟩ := G.open
  have hqm := (List.getElem?_eq_some_iff.1 ht).1
  obtain ⟨tb, cap, rfl, hcap⟩ := own_form4 G1.own (by omega)
  have HSTEP := Lib.hid (show ∀ W, TD w0 P0 B size gg mg gs gw (.slice (some ⟨tb, 0, none⟩) z.T.length cap) z z.T.length (flatT z.T) W → Calls Tryz.prog 73 #[.pointer (some ⟨mg, 0, none⟩), .pointer (some ⟨t.gt, 0, none⟩)] W fun e w' => e = .returned (.tuple #[.bool false, .bool true]) ∧ TD w0 P0 B size gg mg gs gw (.slice (some ⟨tb, 0, none⟩) z.T.length cap) (stepT z q t x) z.T.length (flatT z.T) w' from fun W hW => by
    have h := hW.stepq hI (by omega) ht hx
    rwa [show decide (t.k = 3) = false from by simp; omega] at h)
  have HST := Lib.hid (show ∀ W {z2 : S6}, TD w0 P0 B size gg mg gs gw (.slice (some ⟨tb, 0, none⟩) z.T.length cap) z2 z.T.length (flatT z.T) W → ST6 gg mg gw tb z.T.length cap q (.pointer (some ⟨t.gt, 0, none⟩)) (.int .u64 (t.a : Int)) (.int .i64 (settled t.v : Int)) (.int .i64 (t.k : Int)) W from fun W _ hW => hW.st ht)
  have HSK := Lib.hid (show ∀ W {z2 : S6}, TD w0 P0 B size gg mg gs gw (.slice (some ⟨tb, 0, none⟩) z.T.length cap) z2 z.T.length (flatT z.T) W → TD w0 P0 B size gg mg gs gw (.slice (some ⟨tb, 0, none⟩) z.T.length cap) z2 z.T.length (flatT (z.T.set q { t with k := t.k + 1 })) (W.setCell ⟨tb, q * 4 + 3, none⟩ (.int .i64 ((t.k + 1 : Nat) : Int))) from fun W _ hW => hW.setk ht (t.k + 1))
  have HFR := Lib.hid (show ∀ W {z2 : S6}, TD w0 P0 B size gg mg gs gw (.slice (some ⟨tb, 0, none⟩) z.T.length cap) z2 z.T.length (flatT z.T) W → W.frozen? ⟨tb, q * 4 + 3, none⟩ = false from fun W _ hW => hW.free _)
  have htk : (z.T.set q { t with k := t.k + 1 })[q]? = some { t with k := t.k + 1 } := by rw [List.getElem?_set, if_pos rfl, if_pos hqm]
  have HST2 := Lib.hid (show ∀ W {z2 : S6}, TD w0 P0 B size gg mg gs gw (.slice (some ⟨tb, 0, none⟩) z.T.length cap) z2 z.T.length (flatT (z.T.set q { t with k := t.k + 1 })) W → ST6 gg mg gw tb z.T.length cap q (.pointer (some ⟨t.gt, 0, none⟩)) (.int .u64 (t.a : Int)) (.int .i64 (settled t.v : Int)) (.int .i64 ((t.k + 1 : Nat) : Int)) W from fun W _ hW => hW.st htk)
  have HEND := Lib.hid (show ∀ W, TD w0 P0 B size gg mg gs gw (.slice (some ⟨tb, 0, none⟩) z.T.length cap) (stepT z q t x) z.T.length (flatT (z.T.set q { t with k := t.k + 1 })) W → StP w0 P0 B size gg mg gs gw z (.returned (.bool true)) W from fun W hW => ⟨rfl, stepT z q t x, .inr ⟨q, t, x, ht, hx, by unfold finT; rw [if_neg (by omega)]⟩, by
    refine TD.shut (vt := .slice (some ⟨tb, 0, none⟩) z.T.length cap) ?_
    rw [stepT_T hk, List.length_set]
    exact hW⟩)
  have H := Lib.hid G1
  obtain ⟨m, hm⟩ : ∃ m, m = z.T.length := ⟨_, rfl⟩
  rw [← hm] at H HSTEP HST HSK HFR HEND hq hqm hTl hcap HST2
  obtain ⟨X2, hX2⟩ : ∃ X, X = flatT (z.T.set q { t with k := t.k + 1 }) := ⟨_, rfl⟩
  rw [← hX2] at HSK HEND HST2
  obtain ⟨X1, hX1⟩ : ∃ X, X = flatT z.T := ⟨_, rfl⟩
  rw [← hX1] at H HSTEP HST HSK HFR
  obtain ⟨gt, hgt⟩ : ∃ g, g = t.gt := ⟨_, rfl⟩
  obtain ⟨a, ha⟩ : ∃ g, g = t.a := ⟨_, rfl⟩
  obtain ⟨tt, htt⟩ : ∃ g, g = settled t.v := ⟨_, rfl⟩
  obtain ⟨k, hkk⟩ : ∃ g, g = t.k := ⟨_, rfl⟩
  rw [← hgt, ← ha, ← htt, ← hkk] at HST
  rw [← hgt] at HSTEP
  rw [← hkk] at HSK hk3
  rw [← hgt, ← ha, ← htt, ← hkk] at HST2
  have t1 : ((k + 1 : Nat) : Int) = (k : Int) + 1 := rfl
  rw [t1] at HSK HST2
  have e0 : ((m : Int) == 0) = false := by simp; omega
  have t2 : IntKind.u64.wrap (m : Int) = (m : Int) := by rw [IntKind.wrap_u64]; omega
  have t3 : (IntKind.u64.wrap n).tmod (m : Int) = (q : Int) := hq.symm
  have t4 : IntKind.i64.wrap (q : Int) = (q : Int) := by rw [IntKind.wrap_i64]; omega
  have t5 : ¬ m = 0 := by omega
  have t6 : IntKind.i64.wrap ((k : Int) + 1) = (k : Int) + 1 := by rw [IntKind.wrap_i64]; omega
  have t7 : decide (20 < (k : Int) + 1) = false := by simp; omega
  have hqi : (q : Int) < (m : Int) := by omega
  have hm9 : m ≤ 900 := by omega
  have EGstep6 := Lib.hid (enters_of Tryz.func73 (by kernel_rfl) rfl)
  have EGr6Set := Lib.hid (enters_of Tryz.func52 (by kernel_rfl) rfl)
  clear G hI hN ht hx hq hk hL G1 hm hX2 hX1 hgt ha htt hkk htk
  obtain ⟨s0, s1, s2, s3, s4, s5, s6⟩ := HST.out _ H.out
  go_enter Tryz.func55, Tryz.ntmps55
  go_upto_region 4 with (fail)
  clear s0 s1 s2 s3 s4 s5 s6
  go_upto_region 4 with (fail)
  refine wp_region_noPanic ?_
  refine wp_region_held_drew (S := ST6 gg mg gw tb m cap q (.pointer (some ⟨gt, 0, none⟩)) (.int .u64 (a : Int)) (.int .i64 (tt : Int)) (.int .i64 (k : Int))) (by kernel_rfl) (HST.out _ H.out.drew) (fun hHeld => ?_)
  have H2 := Lib.hid H.out.drew
  clear H
  have H := H2
  clear H2
  refine wpAnyH_take (i := 0) (oi := ⟨some 25, _, _, _, _, _⟩) (v := .pointer (some ⟨gg, 0, none⟩)) rfl (by kernel_rfl) (by kernel_rfl) (by kernel_rfl) (fun _ _ _ h => h) (Or.inl ⟨by kernel_rfl, by intro WW hSw; obtain ⟨s0, s1, s2, s3, s4, s5, s6⟩ := hSw; go_simp⟩) (by assumption) ?_
  (try simp only [Act.put, List.setIfInBounds_toArray, List.set_cons_zero, List.set_cons_succ])
  refine wpAnyH_take (i := 1) (oi := ⟨some 26, _, _, _, _, _⟩) (v := .pointer (some ⟨gg, 0, none⟩)) rfl (by kernel_rfl) (by kernel_rfl) (by kernel_rfl) (fun _ _ _ h => h) (Or.inl ⟨by kernel_rfl, by intro WW hSw; obtain ⟨s0, s1, s2, s3, s4, s5, s6⟩ := hSw; go_simp⟩) (by assumption) ?_
  (try simp only [Act.put, List.setIfInBounds_toArray, List.set_cons_zero, List.set_cons_succ])
  refine wpAnyH_take (i := 2) (oi := ⟨some 27, _, _, _, _, _⟩) (v := .pointer (some ⟨gg, 0, none⟩)) rfl (by kernel_rfl) (by kernel_rfl) (by kernel_rfl) (fun _ _ _ h => h) (Or.inl ⟨by kernel_rfl, by intro WW hSw; obtain ⟨s0, s1, s2, s3, s4, s5, s6⟩ := hSw; go_simp⟩) (by assumption) ?_
  (try simp only [Act.put, List.setIfInBounds_toArray, List.set_cons_zero, List.set_cons_succ])
  refine wpAnyH_take (i := 3) (oi := ⟨some 28, _, _, _, _, _⟩) (v := .pointer (some ⟨mg, 0, none⟩)) rfl (by kernel_rfl) (by kernel_rfl) (by kernel_rfl) (fun _ _ _ h => h) (Or.inl ⟨by kernel_rfl, by intro WW hSw; obtain ⟨s0, s1, s2, s3, s4, s5, s6⟩ := hSw; go_simp⟩) (by assumption) ?_
  (try simp only [Act.put, List.setIfInBounds_toArray, List.set_cons_zero, List.set_cons_succ])
  refine wpAnyH_take (i := 4) (oi := ⟨some 29, _, _, _, _, _⟩) (v := .pointer (some ⟨gg, 0, none⟩)) rfl (by kernel_rfl) (by kernel_rfl) (by kernel_rfl) (fun _ _ _ h => h) (Or.inl ⟨by kernel_rfl, by intro WW hSw; obtain ⟨s0, s1, s2, s3, s4, s5, s6⟩ := hSw; go_simp⟩) (by assumption) ?_
  (try simp only [Act.put, List.setIfInBounds_toArray, List.set_cons_zero, List.set_cons_succ])
  refine wpAnyH_take (i := 5) (oi := ⟨some 30, _, _, _, _, _⟩) (v := .pointer (some ⟨gg, 0, none⟩)) rfl (by kernel_rfl) (by kernel_rfl) (by kernel_rfl) (fun _ _ _ h => h) (Or.inl ⟨by kernel_rfl, by intro WW hSw; obtain ⟨s0, s1, s2, s3, s4, s5, s6⟩ := hSw; go_simp⟩) (by assumption) ?_
  (try simp only [Act.put, List.setIfInBounds_toArray, List.set_cons_zero, List.set_cons_succ])
  refine wpAnyH_take (i := 6) (oi := ⟨some 31, _, _, _, _, _⟩) (v := .pointer (some ⟨gg, 3, none⟩)) rfl (by kernel_rfl) (by kernel_rfl) (by kernel_rfl) (fun _ _ _ h => h) (Or.inl ⟨by kernel_rfl, by intro WW hSw; obtain ⟨s0, s1, s2, s3, s4, s5, s6⟩ := hSw; go_simp⟩) (by assumption) ?_
  (try simp only [Act.put, List.setIfInBounds_toArray, List.set_cons_zero, List.set_cons_succ])
  refine wpAnyH_take (i := 7) (oi := ⟨some 32, _, _, _, _, _⟩) (v := .slice (some ⟨tb, 0, none⟩) m cap) rfl (by kernel_rfl) (by kernel_rfl) (by kernel_rfl) (fun _ _ _ h => h) (Or.inl ⟨by kernel_rfl, by intro WW hSw; obtain ⟨s0, s1, s2, s3, s4, s5, s6⟩ := hSw; go_simp⟩) (by assumption) ?_
  (try simp only [Act.put, List.setIfInBounds_toArray, List.set_cons_zero, List.set_cons_succ])
  refine wpAnyH_take (i := 8) (oi := ⟨some 33, _, _, _, _, _⟩) (v := .int .i64 (q : Int)) rfl (by kernel_rfl) (by kernel_rfl) (by kernel_rfl) (fun _ _ _ h => h) (Or.inl ⟨by kernel_rfl, by intro WW hSw; obtain ⟨s0, s1, s2, s3, s4, s5, s6⟩ := hSw; go_simp⟩) (by assumption) ?_
  (try simp only [Act.put, List.setIfInBounds_toArray, List.set_cons_zero, List.set_cons_succ])
  refine wpAnyH_take (i := 9) (oi := ⟨some 34, _, _, _, _, _⟩) (v := .pointer (some ⟨tb, q * 4, none⟩)) rfl (by kernel_rfl) (by kernel_rfl) (by kernel_rfl) (fun _ _ _ h => h) (Or.inl ⟨by kernel_rfl, by intro WW hSw; obtain ⟨s0, s1, s2, s3, s4, s5, s6⟩ := hSw; go_simp⟩) (by assumption) ?_
  (try simp only [Act.put, List.setIfInBounds_toArray, List.set_cons_zero, List.set_cons_succ])
  refine wpAnyH_take (i := 10) (oi := ⟨some 35, _, _, _, _, _⟩) (v := .pointer (some ⟨tb, q * 4, none⟩)) rfl (by kernel_rfl) (by kernel_rfl) (by kernel_rfl) (fun _ _ _ h => h) (Or.inl ⟨by kernel_rfl, by intro WW hSw; obtain ⟨s0, s1, s2, s3, s4, s5, s6⟩ := hSw; go_simp⟩) (by assumption) ?_
  (try simp only [Act.put, List.setIfInBounds_toArray, List.set_cons_zero, List.set_cons_succ])
  refine wpAnyH_take (i := 11) (oi := ⟨some 36, _, _, _, _, _⟩) (v := .pointer (some ⟨gt, 0, none⟩)) rfl (by kernel_rfl) (by kernel_rfl) (by kernel_rfl) (fun _ _ _ h => h) (Or.inl ⟨by kernel_rfl, by intro WW hSw; obtain ⟨s0, s1, s2, s3, s4, s5, s6⟩ := hSw; go_simp⟩) (by assumption) ?_
  (try simp only [Act.put, List.setIfInBounds_toArray, List.set_cons_zero, List.set_cons_succ])
  refine wpAnyH_one (i := 12) (oi := ⟨_, _, _, _, _, _⟩) rfl (by kernel_rfl) (fun K hK => ?_)
  refine step_calls (by rfl) 73 EGstep6.out [.tmp 28, .tmp 36] _ rfl [.pointer (some ⟨mg, 0, none⟩), .pointer (some ⟨gt, 0, none⟩)] rfl (HSTEP.out _ H.out) ?_
  rintro e x1 ⟨rfl, hH⟩
  refine ⟨_, rfl, hK _ _ (HST.out _ hH) (fun _ => ?_)⟩
  have hHeld := HST.out _ hH
  clear hK K H
  have H := Lib.hid hH
  clear hH
  (try simp only [Act.put, List.setIfInBounds_toArray, List.set_cons_zero, List.set_cons_succ])
  refine wpAnyH_take (i := 13) (oi := ⟨some 24, _, _, _, _, _⟩) (v := .tuple #[.bool false, .bool true]) rfl (by kernel_rfl) (by kernel_rfl) (by kernel_rfl) (fun _ _ _ h => h) (Or.inl ⟨by kernel_rfl, by intro WW hSw; obtain ⟨s0, s1, s2, s3, s4, s5, s6⟩ := hSw; go_simp⟩) (by assumption) ?_
  (try simp only [Act.put, List.setIfInBounds_toArray, List.set_cons_zero, List.set_cons_succ])
  refine wpAnyH_take (i := 14) (oi := ⟨some 38, _, _, _, _, _⟩) (v := .bool false) rfl (by kernel_rfl) (by kernel_rfl) (by kernel_rfl) (fun _ _ _ h => h) (Or.inl ⟨by kernel_rfl, by intro WW hSw; obtain ⟨s0, s1, s2, s3, s4, s5, s6⟩ := hSw; go_simp⟩) (by assumption) ?_
  (try simp only [Act.put, List.setIfInBounds_toArray, List.set_cons_zero, List.set_cons_succ])
  refine wpAnyH_take (i := 15) (oi := ⟨some 39, _, _, _, _, _⟩) (v := .bool true) rfl (by kernel_rfl) (by kernel_rfl) (by kernel_rfl) (fun _ _ _ h => h) (Or.inl ⟨by kernel_rfl, by intro WW hSw; obtain ⟨s0, s1, s2, s3, s4, s5, s6⟩ := hSw; go_simp⟩) (by assumption) ?_
  (try simp only [Act.put, List.setIfInBounds_toArray, List.set_cons_zero, List.set_cons_succ])
  refine wpAnyH_take (i := 16) (oi := ⟨some 6, _, _, _, _, _⟩) (v := .bool false) rfl (by kernel_rfl) (by kernel_rfl) (by kernel_rfl) (fun _ _ _ h => h) (Or.inl ⟨by kernel_rfl, by intro WW hSw; obtain ⟨s0, s1, s2, s3, s4, s5, s6⟩ := hSw; go_simp⟩) (by assumption) ?_
  (try simp only [Act.put, List.setIfInBounds_toArray, List.set_cons_zero, List.set_cons_succ])
  refine wpAnyH_take (i := 17) (oi := ⟨some 7, _, _, _, _, _⟩) (v := .bool true) rfl (by kernel_rfl) (by kernel_rfl) (by kernel_rfl) (fun _ _ _ h => h) (Or.inl ⟨by kernel_rfl, by intro WW hSw; obtain ⟨s0, s1, s2, s3, s4, s5, s6⟩ := hSw; go_simp⟩) (by assumption) ?_
  (try simp only [Act.put, List.setIfInBounds_toArray, List.set_cons_zero, List.set_cons_succ])
  refine wpAnyH_done (by kernel_rfl) ?_ _
  unfold NoPanic
  clear hHeld
  obtain ⟨s0, s1, s2, s3, s4, s5, s6⟩ := HST.out _ H.out
  have f6 := HFR.out _ H.out
  have HK := Lib.hid (HSK.out _ H.out)
  obtain ⟨W5, hW5⟩ : ∃ W5, W5 = x1.setCell ⟨tb, q * 4 + 3, none⟩ (.int .i64 ((k : Int) + 1)) := ⟨_, rfl⟩
  rw [← hW5] at HK
  have HST3 := Lib.hid (HST2.out _ HK.out)
  go_upto_region 6 with (fail)
  rw [← hW5]
  clear s0 s1 s2 s3 s4 s5 s6 f6 hW5 H HST HSK HFR HSTEP
  have H := HK
  clear HK
  have HST := HST2
  clear HST2
  obtain ⟨s0, s1, s2, s3, s4, s5, s6⟩ := HST3.out
  clear HST3
  have HE := Lib.hid (HEND.out _ H.out)
  go_wp2
  go_ret
  exact HE.out
set_option maxRecDepth 100000 in
set_option maxHeartbeats 4000000 in
theorem gstep_done {w0 w : World} {P0 : Nat → Prop} {B size gg mg gs gw N : Nat} {z : S6} (G : GD w0 P0 B size gg mg gs gw (RQ z) w) (hI : Inv6 N z) (hN : N ≤ 800) (n : Int) {q : Nat} {t : Tu} {x : Hd} (ht : z.T[q]? = some t) (hx : z.hs[t.i]? = some x) (hq : (q : Int) = (IntKind.u64.wrap n).tmod (z.T.length : Int)) (hk : t.k = 3) :
    Calls Tryz.prog 55 #[.pointer (some ⟨gg, 0, none⟩), .int .i64 n] w (StP w0 P0 B size gg mg gs gw z) := by
  have mixed : Tryz.prog.follows .mixedOrders = true := by kernel_rfl
  have hL := hI.ll
  have hTl := hI.tl
  obtain ⟨_, _, _, _, _, hk3, _⟩ := hI.tn t (List.mem_of_getElem? ht)
  obtain ⟨vt, G1⟩ := G.open
  have hqm := (List.getElem?_eq_some_iff.1 ht).1
  obtain ⟨tb, cap, rfl, hcap⟩ := own_form4 G1.own (by omega)
  have HSTEP := Lib.hid (show ∀ W, TD w0 P0 B size gg mg gs gw (.slice (some ⟨tb, 0, none⟩) z.T.length cap) z z.T.length (flatT z.T) W → Calls Tryz.prog 73 #[.pointer (some ⟨mg, 0, none⟩), .pointer (some ⟨t.gt, 0, none⟩)] W fun e w' => e = .returned (.tuple #[.bool true, .bool true]) ∧ TD w0 P0 B size gg mg gs gw (.slice (some ⟨tb, 0, none⟩) z.T.length cap) (stepT z q t x) z.T.length (flatT z.T) w' from fun W hW => by
    have h := hW.stepq hI (by omega) ht hx
    rwa [show decide (t.k = 3) = true from by simp; omega] at h)
  have HST := Lib.hid (show ∀ W {z2 : S6}, TD w0 P0 B size gg mg gs gw (.slice (some ⟨tb, 0, none⟩) z.T.length cap) z2 z.T.length (flatT z.T) W → ST6 gg mg gw tb z.T.length cap q (.pointer (some ⟨t.gt, 0, none⟩)) (.int .u64 (t.a : Int)) (.int .i64 (settled t.v : Int)) (.int .i64 (t.k : Int)) W from fun W _ hW => hW.st ht)
  have HSK := Lib.hid (show ∀ W {z2 : S6}, TD w0 P0 B size gg mg gs gw (.slice (some ⟨tb, 0, none⟩) z.T.length cap) z2 z.T.length (flatT z.T) W → TD w0 P0 B size gg mg gs gw (.slice (some ⟨tb, 0, none⟩) z.T.length cap) z2 z.T.length (flatT (z.T.set q { t with k := t.k + 1 })) (W.setCell ⟨tb, q * 4 + 3, none⟩ (.int .i64 ((t.k + 1 : Nat) : Int))) from fun W _ hW => hW.setk ht (t.k + 1))
  have HFR := Lib.hid (show ∀ W {z2 : S6}, TD w0 P0 B size gg mg gs gw (.slice (some ⟨tb, 0, none⟩) z.T.length cap) z2 z.T.length (flatT z.T) W → W.frozen? ⟨tb, q * 4 + 3, none⟩ = false from fun W _ hW => hW.free _)
  have htk : (z.T.set q { t with k := t.k + 1 })[q]? = some { t with k := t.k + 1 } := by rw [List.getElem?_set, if_pos rfl, if_pos hqm]
  have HST2 := Lib.hid (show ∀ W {z2 : S6}, TD w0 P0 B size gg mg gs gw (.slice (some ⟨tb, 0, none⟩) z.T.length cap) z2 z.T.length (flatT (z.T.set q { t with k := t.k + 1 })) W → ST6 gg mg gw tb z.T.length cap q (.pointer (some ⟨t.gt, 0, none⟩)) (.int .u64 (t.a : Int)) (.int .i64 (settled t.v : Int)) (.int .i64 ((t.k + 1 : Nat) : Int)) W from fun W _ hW => hW.st htk)
  have HSET := Lib.hid (show ∀ W, TD w0 P0 B size gg mg gs gw (.slice (some ⟨tb, 0, none⟩) z.T.length cap) (stepT z q t x) z.T.length (flatT (z.T.set q { t with k := t.k + 1 })) W → Calls Tryz.prog 52 #[.pointer (some ⟨gw, 0, none⟩), .int .u64 (t.a : Int), .int .i64 (settled t.v : Int)] W fun e w' => e = .returned (.tuple #[]) ∧ TD w0 P0 B size gg mg gs gw (.slice (some ⟨tb, 0, none⟩) z.T.length cap) (finT z q t x) z.T.length (flatT (z.T.set q { t with k := t.k + 1 })) w' from fun W hW => by
    have h := hW.set (by rw [stepT_L]; omega) t.a (settled t.v)
    have e : finT z q t x = ⟨(stepT z q t x).s, (stepT z q t x).hs, (stepT z q t x).cls, setL (stepT z q t x).L t.a (settled t.v), (stepT z q t x).T⟩ := by
      unfold finT stepT
      rw [if_pos hk, if_neg (by omega), if_neg (by omega), if_neg (by omega)]
    rw [e]
    exact h)
  have HEND := Lib.hid (show ∀ W v', TD w0 P0 B size gg mg gs gw v' (finT z q t x) (q + (z.T.length - (q + 1))) ((flatT (z.T.set q { t with k := t.k + 1 })).take (4 * q) ++ (flatT (z.T.set q { t with k := t.k + 1 })).drop (4 * (q + 1))) W → StP w0 P0 B size gg mg gs gw z (.returned (.bool true)) W from fun W v' hW => ⟨rfl, _, .inr ⟨q, t, x, ht, hx, rfl⟩, by
    refine TD.shut (vt := v') ?_
    have e1 : (finT z q t x).T = z.T.eraseIdx q := by unfold finT; rw [if_pos hk]
    have e2 : (z.T.set q { t with k := t.k + 1 }).take q = z.T.take q := by rw [List.take_set_of_le (Nat.le_refl _)]
    have e3 : (z.T.set q { t with k := t.k + 1 }).drop (q + 1) = z.T.drop (q + 1) := by rw [List.drop_set_of_lt (by omega)]
    rw [flatT_take, flatT_drop, e2, e3, ← flatT_append, ← List.eraseIdx_eq_take_drop_succ] at hW
    rw [e1, List.length_eraseIdx, if_pos hqm]
    rw [show q + (z.T.length - (q + 1)) = z.T.length - 1 from by omega] at hW
    exact hW⟩)
  have HOWN := Lib.hid (show ∀ W {z2 : S6}, TD w0 P0 B size gg mg gs gw (.slice (some ⟨tb, 0, none⟩) z.T.length cap) z2 z.T.length (flatT (z.T.set q { t with k := t.k + 1 })) W → W.ownsRow B 154 4 (.slice (some ⟨tb, 0, none⟩) z.T.length cap) z.T.length (flatT (z.T.set q { t with k := t.k + 1 })) from fun W _ hW => hW.own)
  have HGF := Lib.hid (show ∀ W {z2 : S6} {xs : List Value}, TD w0 P0 B size gg mg gs gw (.slice (some ⟨tb, 0, none⟩) z.T.length cap) z2 z.T.length xs W → W.frozen? ⟨gg, 3, none⟩ = false from fun W _ _ hW => hW.gfree 3)
  have hXl : (flatT (z.T.set q { t with k := t.k + 1 })).length = 4 * z.T.length := by rw [flatT_len, List.length_set]
  have HX1 := Lib.hid (flatT_ones (z.T.set q { t with k := t.k + 1 }))
  have H := Lib.hid G1
  obtain ⟨m, hm⟩ : ∃ m, m = z.T.length := ⟨_, rfl⟩
  rw [← hm] at H HSTEP HST HSK HFR HEND hq hqm hTl hcap HST2 HSET HOWN HGF hXl
  obtain ⟨X2, hX2⟩ : ∃ X, X = flatT (z.T.set q { t with k := t.k + 1 }) := ⟨_, rfl⟩
  rw [← hX2] at HSK HEND HST2 HSET HOWN hXl HX1
  obtain ⟨X1, hX1⟩ : ∃ X, X = flatT z.T := ⟨_, rfl⟩
  rw [← hX1] at H HSTEP HST HSK HFR
  obtain ⟨gt, hgt⟩ : ∃ g, g = t.gt := ⟨_, rfl⟩
  obtain ⟨a, ha⟩ : ∃ g, g = t.a := ⟨_, rfl⟩
  obtain ⟨tt, htt⟩ : ∃ g, g = settled t.v := ⟨_, rfl⟩
  obtain ⟨k, hkk⟩ : ∃ g, g = t.k := ⟨_, rfl⟩
  rw [← hgt, ← ha, ← htt, ← hkk] at HST
  rw [← hgt] at HSTEP
  rw [← hkk] at HSK hk3
  rw [← hgt, ← ha, ← htt, ← hkk] at HST2
  rw [← ha, ← htt] at HSET
  have t1 : ((k + 1 : Nat) : Int) = (k : Int) + 1 := rfl
  rw [t1] at HSK HST2
  have e0 : ((m : Int) == 0) = false := by simp; omega
  have t2 : IntKind.u64.wrap (m : Int) = (m : Int) := by rw [IntKind.wrap_u64]; omega
  have t3 : (IntKind.u64.wrap n).tmod (m : Int) = (q : Int) := hq.symm
  have t4 : IntKind.i64.wrap (q : Int) = (q : Int) := by rw [IntKind.wrap_i64]; omega
  have t5 : ¬ m = 0 := by omega
  have t6 : IntKind.i64.wrap ((k : Int) + 1) = (k : Int) + 1 := by rw [IntKind.wrap_i64]; omega
  have t7 : decide (20 < (k : Int) + 1) = false := by simp; omega
  have hqi : (q : Int) < (m : Int) := by omega
  have hm9 : m ≤ 900 := by omega
  have EGstep6 := Lib.hid (enters_of Tryz.func73 (by kernel_rfl) rfl)
  have EGr6Set := Lib.hid (enters_of Tryz.func52 (by kernel_rfl) rfl)
  clear G hI hN ht hx hq hk hL G1 hm hX2 hX1 hgt ha htt hkk htk
  obtain ⟨s0, s1, s2, s3, s4, s5, s6⟩ := HST.out _ H.out
  go_enter Tryz.func55, Tryz.ntmps55
  go_upto_region 4 with (fail)
  clear s0 s1 s2 s3 s4 s5 s6
  go_upto_region 4 with (fail)
  refine wp_region_noPanic ?_
  refine wp_region_held_drew (S := ST6 gg mg gw tb m cap q (.pointer (some ⟨gt, 0, none⟩)) (.int .u64 (a : Int)) (.int .i64 (tt : Int)) (.int .i64 (k : Int))) (by kernel_rfl) (HST.out _ H.out.drew) (fun hHeld => ?_)
  have H2 := Lib.hid H.out.drew
  clear H
  have H := H2
  clear H2
  refine wpAnyH_take (i := 0) (oi := ⟨some 25, _, _, _, _, _⟩) (v := .pointer (some ⟨gg, 0, none⟩)) rfl (by kernel_rfl) (by kernel_rfl) (by kernel_rfl) (fun _ _ _ h => h) (Or.inl ⟨by kernel_rfl, by intro WW hSw; obtain ⟨s0, s1, s2, s3, s4, s5, s6⟩ := hSw; go_simp⟩) (by assumption) ?_
  (try simp only [Act.put, List.setIfInBounds_toArray, List.set_cons_zero, List.set_cons_succ])
  refine wpAnyH_take (i := 1) (oi := ⟨some 26, _, _, _, _, _⟩) (v := .pointer (some ⟨gg, 0, none⟩)) rfl (by kernel_rfl) (by kernel_rfl) (by kernel_rfl) (fun _ _ _ h => h) (Or.inl ⟨by kernel_rfl, by intro WW hSw; obtain ⟨s0, s1, s2, s3, s4, s5, s6⟩ := hSw; go_simp⟩) (by assumption) ?_
  (try simp only [Act.put, List.setIfInBounds_toArray, List.set_cons_zero, List.set_cons_succ])
  refine wpAnyH_take (i := 2) (oi := ⟨some 27, _, _, _, _, _⟩) (v := .pointer (some ⟨gg, 0, none⟩)) rfl (by kernel_rfl) (by kernel_rfl) (by kernel_rfl) (fun _ _ _ h => h) (Or.inl ⟨by kernel_rfl, by intro WW hSw; obtain ⟨s0, s1, s2, s3, s4, s5, s6⟩ := hSw; go_simp⟩) (by assumption) ?_
  (try simp only [Act.put, List.setIfInBounds_toArray, List.set_cons_zero, List.set_cons_succ])
  refine wpAnyH_take (i := 3) (oi := ⟨some 28, _, _, _, _, _⟩) (v := .pointer (some ⟨mg, 0, none⟩)) rfl (by kernel_rfl) (by kernel_rfl) (by kernel_rfl) (fun _ _ _ h => h) (Or.inl ⟨by kernel_rfl, by intro WW hSw; obtain ⟨s0, s1, s2, s3, s4, s5, s6⟩ := hSw; go_simp⟩) (by assumption) ?_
  (try simp only [Act.put, List.setIfInBounds_toArray, List.set_cons_zero, List.set_cons_succ])
  refine wpAnyH_take (i := 4) (oi := ⟨some 29, _, _, _, _, _⟩) (v := .pointer (some ⟨gg, 0, none⟩)) rfl (by kernel_rfl) (by kernel_rfl) (by kernel_rfl) (fun _ _ _ h => h) (Or.inl ⟨by kernel_rfl, by intro WW hSw; obtain ⟨s0, s1, s2, s3, s4, s5, s6⟩ := hSw; go_simp⟩) (by assumption) ?_
  (try simp only [Act.put, List.setIfInBounds_toArray, List.set_cons_zero, List.set_cons_succ])
  refine wpAnyH_take (i := 5) (oi := ⟨some 30, _, _, _, _, _⟩) (v := .pointer (some ⟨gg, 0, none⟩)) rfl (by kernel_rfl) (by kernel_rfl) (by kernel_rfl) (fun _ _ _ h => h) (Or.inl ⟨by kernel_rfl, by intro WW hSw; obtain ⟨s0, s1, s2, s3, s4, s5, s6⟩ := hSw; go_simp⟩) (by assumption) ?_
  (try simp only [Act.put, List.setIfInBounds_toArray, List.set_cons_zero, List.set_cons_succ])
  refine wpAnyH_take (i := 6) (oi := ⟨some 31, _, _, _, _, _⟩) (v := .pointer (some ⟨gg, 3, none⟩)) rfl (by kernel_rfl) (by kernel_rfl) (by kernel_rfl) (fun _ _ _ h => h) (Or.inl ⟨by kernel_rfl, by intro WW hSw; obtain ⟨s0, s1, s2, s3, s4, s5, s6⟩ := hSw; go_simp⟩) (by assumption) ?_
  (try simp only [Act.put, List.setIfInBounds_toArray, List.set_cons_zero, List.set_cons_succ])
  refine wpAnyH_take (i := 7) (oi := ⟨some 32, _, _, _, _, _⟩) (v := .slice (some ⟨tb, 0, none⟩) m cap) rfl (by kernel_rfl) (by kernel_rfl) (by kernel_rfl) (fun _ _ _ h => h) (Or.inl ⟨by kernel_rfl, by intro WW hSw; obtain ⟨s0, s1, s2, s3, s4, s5, s6⟩ := hSw; go_simp⟩) (by assumption) ?_
  (try simp only [Act.put, List.setIfInBounds_toArray, List.set_cons_zero, List.set_cons_succ])
  refine wpAnyH_take (i := 8) (oi := ⟨some 33, _, _, _, _, _⟩) (v := .int .i64 (q : Int)) rfl (by kernel_rfl) (by kernel_rfl) (by kernel_rfl) (fun _ _ _ h => h) (Or.inl ⟨by kernel_rfl, by intro WW hSw; obtain ⟨s0, s1, s2, s3, s4, s5, s6⟩ := hSw; go_simp⟩) (by assumption) ?_
  (try simp only [Act.put, List.setIfInBounds_toArray, List.set_cons_zero, List.set_cons_succ])
  refine wpAnyH_take (i := 9) (oi := ⟨some 34, _, _, _, _, _⟩) (v := .pointer (some ⟨tb, q * 4, none⟩)) rfl (by kernel_rfl) (by kernel_rfl) (by kernel_rfl) (fun _ _ _ h => h) (Or.inl ⟨by kernel_rfl, by intro WW hSw; obtain ⟨s0, s1, s2, s3, s4, s5, s6⟩ := hSw; go_simp⟩) (by assumption) ?_
  (try simp only [Act.put, List.setIfInBounds_toArray, List.set_cons_zero, List.set_cons_succ])
  refine wpAnyH_take (i := 10) (oi := ⟨some 35, _, _, _, _, _⟩) (v := .pointer (some ⟨tb, q * 4, none⟩)) rfl (by kernel_rfl) (by kernel_rfl) (by kernel_rfl) (fun _ _ _ h => h) (Or.inl ⟨by kernel_rfl, by intro WW hSw; obtain ⟨s0, s1, s2, s3, s4, s5, s6⟩ := hSw; go_simp⟩) (by assumption) ?_
  (try simp only [Act.put, List.setIfInBounds_toArray, List.set_cons_zero, List.set_cons_succ])
  refine wpAnyH_take (i := 11) (oi := ⟨some 36, _, _, _, _, _⟩) (v := .pointer (some ⟨gt, 0, none⟩)) rfl (by kernel_rfl) (by kernel_rfl) (by kernel_rfl) (fun _ _ _ h => h) (Or.inl ⟨by kernel_rfl, by intro WW hSw; obtain ⟨s0, s1, s2, s3, s4, s5, s6⟩ := hSw; go_simp⟩) (by assumption) ?_
  (try simp only [Act.put, List.setIfInBounds_toArray, List.set_cons_zero, List.set_cons_succ])
  refine wpAnyH_one (i := 12) (oi := ⟨_, _, _, _, _, _⟩) rfl (by kernel_rfl) (fun K hK => ?_)
  refine step_calls (by rfl) 73 EGstep6.out [.tmp 28, .tmp 36] _ rfl [.pointer (some ⟨mg, 0, none⟩), .pointer (some ⟨gt, 0, none⟩)] rfl (HSTEP.out _ H.out) ?_
  rintro e x1 ⟨rfl, hH⟩
  refine ⟨_, rfl, hK _ _ (HST.out _ hH) (fun _ => ?_)⟩
  have hHeld := HST.out _ hH
  clear hK K H
  have H := Lib.hid hH
  clear hH
  (try simp only [Act.put, List.setIfInBounds_toArray, List.set_cons_zero, List.set_cons_succ])
  refine wpAnyH_take (i := 13) (oi := ⟨some 24, _, _, _, _, _⟩) (v := .tuple #[.bool true, .bool true]) rfl (by kernel_rfl) (by kernel_rfl) (by kernel_rfl) (fun _ _ _ h => h) (Or.inl ⟨by kernel_rfl, by intro WW hSw; obtain ⟨s0, s1, s2, s3, s4, s5, s6⟩ := hSw; go_simp⟩) (by assumption) ?_
  (try simp only [Act.put, List.setIfInBounds_toArray, List.set_cons_zero, List.set_cons_succ])
  refine wpAnyH_take (i := 14) (oi := ⟨some 38, _, _, _, _, _⟩) (v := .bool true) rfl (by kernel_rfl) (by kernel_rfl) (by kernel_rfl) (fun _ _ _ h => h) (Or.inl ⟨by kernel_rfl, by intro WW hSw; obtain ⟨s0, s1, s2, s3, s4, s5, s6⟩ := hSw; go_simp⟩) (by assumption) ?_
  (try simp only [Act.put, List.setIfInBounds_toArray, List.set_cons_zero, List.set_cons_succ])
  refine wpAnyH_take (i := 15) (oi := ⟨some 39, _, _, _, _, _⟩) (v := .bool true) rfl (by kernel_rfl) (by kernel_rfl) (by kernel_rfl) (fun _ _ _ h => h) (Or.inl ⟨by kernel_rfl, by intro WW hSw; obtain ⟨s0, s1, s2, s3, s4, s5, s6⟩ := hSw; go_simp⟩) (by assumption) ?_
  (try simp only [Act.put, List.setIfInBounds_toArray, List.set_cons_zero, List.set_cons_succ])
  refine wpAnyH_take (i := 16) (oi := ⟨some 6, _, _, _, _, _⟩) (v := .bool true) rfl (by kernel_rfl) (by kernel_rfl) (by kernel_rfl) (fun _ _ _ h => h) (Or.inl ⟨by kernel_rfl, by intro WW hSw; obtain ⟨s0, s1, s2, s3, s4, s5, s6⟩ := hSw; go_simp⟩) (by assumption) ?_
  (try simp only [Act.put, List.setIfInBounds_toArray, List.set_cons_zero, List.set_cons_succ])
  refine wpAnyH_take (i := 17) (oi := ⟨some 7, _, _, _, _, _⟩) (v := .bool true) rfl (by kernel_rfl) (by kernel_rfl) (by kernel_rfl) (fun _ _ _ h => h) (Or.inl ⟨by kernel_rfl, by intro WW hSw; obtain ⟨s0, s1, s2, s3, s4, s5, s6⟩ := hSw; go_simp⟩) (by assumption) ?_
  (try simp only [Act.put, List.setIfInBounds_toArray, List.set_cons_zero, List.set_cons_succ])
  refine wpAnyH_done (by kernel_rfl) ?_ _
  unfold NoPanic
  clear hHeld
  obtain ⟨s0, s1, s2, s3, s4, s5, s6⟩ := HST.out _ H.out
  have f6 := HFR.out _ H.out
  have HK := Lib.hid (HSK.out _ H.out)
  obtain ⟨W5, hW5⟩ : ∃ W5, W5 = x1.setCell ⟨tb, q * 4 + 3, none⟩ (.int .i64 ((k : Int) + 1)) := ⟨_, rfl⟩
  rw [← hW5] at HK
  have HST3 := Lib.hid (HST2.out _ HK.out)
  go_upto_region 6 with (fail)
  rw [← hW5]
  clear s0 s1 s2 s3 s4 s5 s6 f6 hW5 H HST HSK HFR HSTEP
  have H := HK
  clear HK
  have HST := HST2
  clear HST2
  obtain ⟨s0, s1, s2, s3, s4, s5, s6⟩ := HST3.out
  clear HST3
  go_upto_region 9 with (fail)
  clear s0 s1 s2 s3 s4 s5 s6
  go_upto_region 9 with (fail)
  refine wp_region_noPanic ?_
  refine wp_region_held_drew (S := ST6 gg mg gw tb m cap q (.pointer (some ⟨gt, 0, none⟩)) (.int .u64 (a : Int)) (.int .i64 (tt : Int)) (.int .i64 ((k : Int) + 1 : Int))) (by kernel_rfl) (HST.out _ H.out.drew) (fun hHeld => ?_)
  have H2 := Lib.hid H.out.drew
  clear H
  have H := H2
  clear H2
  refine wpAnyH_take (i := 0) (oi := ⟨some 65, _, _, _, _, _⟩) (v := .pointer (some ⟨gg, 0, none⟩)) rfl (by kernel_rfl) (by kernel_rfl) (by kernel_rfl) (fun _ _ _ h => h) (Or.inl ⟨by kernel_rfl, by intro WW hSw; obtain ⟨s0, s1, s2, s3, s4, s5, s6⟩ := hSw; go_simp⟩) (by assumption) ?_
  (try simp only [Act.put, List.setIfInBounds_toArray, List.set_cons_zero, List.set_cons_succ])
  refine wpAnyH_take (i := 1) (oi := ⟨some 66, _, _, _, _, _⟩) (v := .pointer (some ⟨gg, 0, none⟩)) rfl (by kernel_rfl) (by kernel_rfl) (by kernel_rfl) (fun _ _ _ h => h) (Or.inl ⟨by kernel_rfl, by intro WW hSw; obtain ⟨s0, s1, s2, s3, s4, s5, s6⟩ := hSw; go_simp⟩) (by assumption) ?_
  (try simp only [Act.put, List.setIfInBounds_toArray, List.set_cons_zero, List.set_cons_succ])
  refine wpAnyH_take (i := 2) (oi := ⟨some 67, _, _, _, _, _⟩) (v := .pointer (some ⟨gg, 2, none⟩)) rfl (by kernel_rfl) (by kernel_rfl) (by kernel_rfl) (fun _ _ _ h => h) (Or.inl ⟨by kernel_rfl, by intro WW hSw; obtain ⟨s0, s1, s2, s3, s4, s5, s6⟩ := hSw; go_simp⟩) (by assumption) ?_
  (try simp only [Act.put, List.setIfInBounds_toArray, List.set_cons_zero, List.set_cons_succ])
  refine wpAnyH_take (i := 3) (oi := ⟨some 68, _, _, _, _, _⟩) (v := .pointer (some ⟨gw, 0, none⟩)) rfl (by kernel_rfl) (by kernel_rfl) (by kernel_rfl) (fun _ _ _ h => h) (Or.inl ⟨by kernel_rfl, by intro WW hSw; obtain ⟨s0, s1, s2, s3, s4, s5, s6⟩ := hSw; go_simp⟩) (by assumption) ?_
  (try simp only [Act.put, List.setIfInBounds_toArray, List.set_cons_zero, List.set_cons_succ])
  refine wpAnyH_take (i := 4) (oi := ⟨some 69, _, _, _, _, _⟩) (v := .pointer (some ⟨gg, 0, none⟩)) rfl (by kernel_rfl) (by kernel_rfl) (by kernel_rfl) (fun _ _ _ h => h) (Or.inl ⟨by kernel_rfl, by intro WW hSw; obtain ⟨s0, s1, s2, s3, s4, s5, s6⟩ := hSw; go_simp⟩) (by assumption) ?_
  (try simp only [Act.put, List.setIfInBounds_toArray, List.set_cons_zero, List.set_cons_succ])
  refine wpAnyH_take (i := 5) (oi := ⟨some 70, _, _, _, _, _⟩) (v := .pointer (some ⟨gg, 0, none⟩)) rfl (by kernel_rfl) (by kernel_rfl) (by kernel_rfl) (fun _ _ _ h => h) (Or.inl ⟨by kernel_rfl, by intro WW hSw; obtain ⟨s0, s1, s2, s3, s4, s5, s6⟩ := hSw; go_simp⟩) (by assumption) ?_
  (try simp only [Act.put, List.setIfInBounds_toArray, List.set_cons_zero, List.set_cons_succ])
  refine wpAnyH_take (i := 6) (oi := ⟨some 71, _, _, _, _, _⟩) (v := .pointer (some ⟨gg, 3, none⟩)) rfl (by kernel_rfl) (by kernel_rfl) (by kernel_rfl) (fun _ _ _ h => h) (Or.inl ⟨by kernel_rfl, by intro WW hSw; obtain ⟨s0, s1, s2, s3, s4, s5, s6⟩ := hSw; go_simp⟩) (by assumption) ?_
  (try simp only [Act.put, List.setIfInBounds_toArray, List.set_cons_zero, List.set_cons_succ])
  refine wpAnyH_take (i := 7) (oi := ⟨some 72, _, _, _, _, _⟩) (v := .slice (some ⟨tb, 0, none⟩) m cap) rfl (by kernel_rfl) (by kernel_rfl) (by kernel_rfl) (fun _ _ _ h => h) (Or.inl ⟨by kernel_rfl, by intro WW hSw; obtain ⟨s0, s1, s2, s3, s4, s5, s6⟩ := hSw; go_simp⟩) (by assumption) ?_
  (try simp only [Act.put, List.setIfInBounds_toArray, List.set_cons_zero, List.set_cons_succ])
  refine wpAnyH_take (i := 8) (oi := ⟨some 73, _, _, _, _, _⟩) (v := .int .i64 (q : Int)) rfl (by kernel_rfl) (by kernel_rfl) (by kernel_rfl) (fun _ _ _ h => h) (Or.inl ⟨by kernel_rfl, by intro WW hSw; obtain ⟨s0, s1, s2, s3, s4, s5, s6⟩ := hSw; go_simp⟩) (by assumption) ?_
  (try simp only [Act.put, List.setIfInBounds_toArray, List.set_cons_zero, List.set_cons_succ])
  refine wpAnyH_take (i := 9) (oi := ⟨some 74, _, _, _, _, _⟩) (v := .pointer (some ⟨tb, q * 4, none⟩)) rfl (by kernel_rfl) (by kernel_rfl) (by kernel_rfl) (fun _ _ _ h => h) (Or.inl ⟨by kernel_rfl, by intro WW hSw; obtain ⟨s0, s1, s2, s3, s4, s5, s6⟩ := hSw; go_simp⟩) (by assumption) ?_
  (try simp only [Act.put, List.setIfInBounds_toArray, List.set_cons_zero, List.set_cons_succ])
  refine wpAnyH_take (i := 10) (oi := ⟨some 75, _, _, _, _, _⟩) (v := .pointer (some ⟨tb, q * 4 + 1, none⟩)) rfl (by kernel_rfl) (by kernel_rfl) (by kernel_rfl) (fun _ _ _ h => h) (Or.inl ⟨by kernel_rfl, by intro WW hSw; obtain ⟨s0, s1, s2, s3, s4, s5, s6⟩ := hSw; go_simp⟩) (by assumption) ?_
  (try simp only [Act.put, List.setIfInBounds_toArray, List.set_cons_zero, List.set_cons_succ])
  refine wpAnyH_take (i := 11) (oi := ⟨some 76, _, _, _, _, _⟩) (v := .int .u64 (a : Int)) rfl (by kernel_rfl) (by kernel_rfl) (by kernel_rfl) (fun _ _ _ h => h) (Or.inl ⟨by kernel_rfl, by intro WW hSw; obtain ⟨s0, s1, s2, s3, s4, s5, s6⟩ := hSw; go_simp⟩) (by assumption) ?_
  (try simp only [Act.put, List.setIfInBounds_toArray, List.set_cons_zero, List.set_cons_succ])
  refine wpAnyH_take (i := 12) (oi := ⟨some 77, _, _, _, _, _⟩) (v := .pointer (some ⟨gg, 0, none⟩)) rfl (by kernel_rfl) (by kernel_rfl) (by kernel_rfl) (fun _ _ _ h => h) (Or.inl ⟨by kernel_rfl, by intro WW hSw; obtain ⟨s0, s1, s2, s3, s4, s5, s6⟩ := hSw; go_simp⟩) (by assumption) ?_
  (try simp only [Act.put, List.setIfInBounds_toArray, List.set_cons_zero, List.set_cons_succ])
  refine wpAnyH_take (i := 13) (oi := ⟨some 78, _, _, _, _, _⟩) (v := .pointer (some ⟨gg, 0, none⟩)) rfl (by kernel_rfl) (by kernel_rfl) (by kernel_rfl) (fun _ _ _ h => h) (Or.inl ⟨by kernel_rfl, by intro WW hSw; obtain ⟨s0, s1, s2, s3, s4, s5, s6⟩ := hSw; go_simp⟩) (by assumption) ?_
  (try simp only [Act.put, List.setIfInBounds_toArray, List.set_cons_zero, List.set_cons_succ])
  refine wpAnyH_take (i := 14) (oi := ⟨some 79, _, _, _, _, _⟩) (v := .pointer (some ⟨gg, 3, none⟩)) rfl (by kernel_rfl) (by kernel_rfl) (by kernel_rfl) (fun _ _ _ h => h) (Or.inl ⟨by kernel_rfl, by intro WW hSw; obtain ⟨s0, s1, s2, s3, s4, s5, s6⟩ := hSw; go_simp⟩) (by assumption) ?_
  (try simp only [Act.put, List.setIfInBounds_toArray, List.set_cons_zero, List.set_cons_succ])
  refine wpAnyH_take (i := 15) (oi := ⟨some 80, _, _, _, _, _⟩) (v := .slice (some ⟨tb, 0, none⟩) m cap) rfl (by kernel_rfl) (by kernel_rfl) (by kernel_rfl) (fun _ _ _ h => h) (Or.inl ⟨by kernel_rfl, by intro WW hSw; obtain ⟨s0, s1, s2, s3, s4, s5, s6⟩ := hSw; go_simp⟩) (by assumption) ?_
  (try simp only [Act.put, List.setIfInBounds_toArray, List.set_cons_zero, List.set_cons_succ])
  refine wpAnyH_take (i := 16) (oi := ⟨some 81, _, _, _, _, _⟩) (v := .int .i64 (q : Int)) rfl (by kernel_rfl) (by kernel_rfl) (by kernel_rfl) (fun _ _ _ h => h) (Or.inl ⟨by kernel_rfl, by intro WW hSw; obtain ⟨s0, s1, s2, s3, s4, s5, s6⟩ := hSw; go_simp⟩) (by assumption) ?_
  (try simp only [Act.put, List.setIfInBounds_toArray, List.set_cons_zero, List.set_cons_succ])
  refine wpAnyH_take (i := 17) (oi := ⟨some 82, _, _, _, _, _⟩) (v := .pointer (some ⟨tb, q * 4, none⟩)) rfl (by kernel_rfl) (by kernel_rfl) (by kernel_rfl) (fun _ _ _ h => h) (Or.inl ⟨by kernel_rfl, by intro WW hSw; obtain ⟨s0, s1, s2, s3, s4, s5, s6⟩ := hSw; go_simp⟩) (by assumption) ?_
  (try simp only [Act.put, List.setIfInBounds_toArray, List.set_cons_zero, List.set_cons_succ])
  refine wpAnyH_take (i := 18) (oi := ⟨some 83, _, _, _, _, _⟩) (v := .pointer (some ⟨tb, q * 4 + 2, none⟩)) rfl (by kernel_rfl) (by kernel_rfl) (by kernel_rfl) (fun _ _ _ h => h) (Or.inl ⟨by kernel_rfl, by intro WW hSw; obtain ⟨s0, s1, s2, s3, s4, s5, s6⟩ := hSw; go_simp⟩) (by assumption) ?_
  (try simp only [Act.put, List.setIfInBounds_toArray, List.set_cons_zero, List.set_cons_succ])
  refine wpAnyH_take (i := 19) (oi := ⟨some 84, _, _, _, _, _⟩) (v := .int .i64 (tt : Int)) rfl (by kernel_rfl) (by kernel_rfl) (by kernel_rfl) (fun _ _ _ h => h) (Or.inl ⟨by kernel_rfl, by intro WW hSw; obtain ⟨s0, s1, s2, s3, s4, s5, s6⟩ := hSw; go_simp⟩) (by assumption) ?_
  (try simp only [Act.put, List.setIfInBounds_toArray, List.set_cons_zero, List.set_cons_succ])
  refine wpAnyH_one (i := 20) (oi := ⟨_, _, _, _, _, _⟩) rfl (by kernel_rfl) (fun K hK => ?_)
  refine step_calls (by rfl) 52 EGr6Set.out [.tmp 68, .tmp 76, .tmp 84] _ rfl [.pointer (some ⟨gw, 0, none⟩), .int .u64 (a : Int), .int .i64 (tt : Int)] rfl (HSET.out _ H.out) ?_
  rintro e x2 ⟨rfl, hH⟩
  refine ⟨_, rfl, hK _ _ (HST.out _ hH) (fun _ => ?_)⟩
  have hHeld := HST.out _ hH
  clear hK K H
  have H := Lib.hid hH
  clear hH
  (try simp only [Act.put, List.setIfInBounds_toArray, List.set_cons_zero, List.set_cons_succ])
  refine wpAnyH_done (by kernel_rfl) ?_ _
  unfold NoPanic
  clear hHeld
  go_wp2
  go_upto_region 10 with (fail)
  refine wp_region_noPanic ?_
  have H2 := Lib.hid H.out.drew
  clear H
  have H := H2
  clear H2
  have HSB := Lib.hid (show ∀ W, Below x2.drew.heap.size x2.drew W → ST6 gg mg gw tb m cap q (.pointer (some ⟨gt, 0, none⟩)) (.int .u64 (a : Int)) (.int .i64 (tt : Int)) (.int .i64 ((k : Int) + 1 : Int)) W from fun W hb => HST.out _ (H.out.below hb))
  have HCE := Lib.hid (show ∀ W, Below x2.drew.heap.size x2.drew W → ∀ j u, X2[j]? = some u → W.cell? ⟨tb, j, none⟩ = some u from fun W hb j u hj => own_cell4 (HOWN.out _ (H.out.below hb)) rfl hj)
  have b1 : ¬ cap < q := by omega
  have b2 : ¬ m < q + 1 := by omega
  have b3 : ¬ cap < m := by omega
  have b4 : ¬ cap < q + 1 := by omega
  have b5 : ¬ (m : Int) < (q : Int) + 1 := by omega
  have b6 : (0 : Int) ≤ (q : Int) + 1 := by omega
  have t10 : ((q : Int) + 1).toNat = q + 1 := by omega
  have t8 : IntKind.i64.wrap ((q : Int) + 1) = (q : Int) + 1 := by rw [IntKind.wrap_i64]; omega
  obtain ⟨ad, had, hadc⟩ : ∃ ad : Addr, (if cap = q + 1 then some (⟨tb, 0, none⟩ : Addr) else some ⟨tb, (q + 1) * 4, none⟩) = some ad ∧ ∀ W, Below x2.drew.heap.size x2.drew W → ∀ j u, (X2.drop (4 * (q + 1)))[j]? = some u → W.cell? (ad.add j) = some u := by
    by_cases hc : cap = q + 1
    · rw [if_pos hc]
      refine ⟨_, rfl, fun W hb j u hj => ?_⟩
      have := (List.getElem?_eq_some_iff.1 hj).1
      rw [List.length_drop] at this
      omega
    · rw [if_neg hc]
      refine ⟨_, rfl, fun W hb j u hj => ?_⟩
      rw [List.getElem?_drop] at hj
      rw [Addr.add_lit, show (q + 1) * 4 + j = 4 * (q + 1) + j from by omega]
      exact HCE.out W hb _ u hj
  have HAD := Lib.hid hadc
  clear hadc
  refine wp_region_heldx_drew (S := ST6 gg mg gw tb m cap q (.pointer (some ⟨gt, 0, none⟩)) (.int .u64 (a : Int)) (.int .i64 (tt : Int)) (.int .i64 ((k : Int) + 1 : Int))) 18 (by kernel_rfl) (HSB.out _ (Below.refl _ _)) (fun hHeld => ?_)
  refine wpAnyX_take (i := 0) (oi := ⟨some 86, _, _, _, _, _⟩) (v := .pointer (some ⟨gg, 0, none⟩)) rfl (by kernel_rfl) (by kernel_rfl) (by kernel_rfl) (by kernel_rfl) (fun _ _ _ h => h) (Or.inl ⟨by kernel_rfl, by intro WW hSw; obtain ⟨s0, s1, s2, s3, s4, s5, s6⟩ := hSw; go_simp⟩) (by assumption) ?_
  (try simp only [Act.put, List.setIfInBounds_toArray, List.set_cons_zero, List.set_cons_succ])
  refine wpAnyX_take (i := 1) (oi := ⟨some 87, _, _, _, _, _⟩) (v := .pointer (some ⟨gg, 0, none⟩)) rfl (by kernel_rfl) (by kernel_rfl) (by kernel_rfl) (by kernel_rfl) (fun _ _ _ h => h) (Or.inl ⟨by kernel_rfl, by intro WW hSw; obtain ⟨s0, s1, s2, s3, s4, s5, s6⟩ := hSw; go_simp⟩) (by assumption) ?_
  (try simp only [Act.put, List.setIfInBounds_toArray, List.set_cons_zero, List.set_cons_succ])
  refine wpAnyX_take (i := 2) (oi := ⟨some 88, _, _, _, _, _⟩) (v := .pointer (some ⟨gg, 0, none⟩)) rfl (by kernel_rfl) (by kernel_rfl) (by kernel_rfl) (by kernel_rfl) (fun _ _ _ h => h) (Or.inl ⟨by kernel_rfl, by intro WW hSw; obtain ⟨s0, s1, s2, s3, s4, s5, s6⟩ := hSw; go_simp⟩) (by assumption) ?_
  (try simp only [Act.put, List.setIfInBounds_toArray, List.set_cons_zero, List.set_cons_succ])
  refine wpAnyX_take (i := 3) (oi := ⟨some 89, _, _, _, _, _⟩) (v := .pointer (some ⟨gg, 3, none⟩)) rfl (by kernel_rfl) (by kernel_rfl) (by kernel_rfl) (by kernel_rfl) (fun _ _ _ h => h) (Or.inl ⟨by kernel_rfl, by intro WW hSw; obtain ⟨s0, s1, s2, s3, s4, s5, s6⟩ := hSw; go_simp⟩) (by assumption) ?_
  (try simp only [Act.put, List.setIfInBounds_toArray, List.set_cons_zero, List.set_cons_succ])
  refine wpAnyX_take (i := 4) (oi := ⟨some 90, _, _, _, _, _⟩) (v := .slice (some ⟨tb, 0, none⟩) m cap) rfl (by kernel_rfl) (by kernel_rfl) (by kernel_rfl) (by kernel_rfl) (fun _ _ _ h => h) (Or.inl ⟨by kernel_rfl, by intro WW hSw; obtain ⟨s0, s1, s2, s3, s4, s5, s6⟩ := hSw; go_simp⟩) (by assumption) ?_
  (try simp only [Act.put, List.setIfInBounds_toArray, List.set_cons_zero, List.set_cons_succ])
  refine wpAnyX_take (i := 5) (oi := ⟨some 91, _, _, _, _, _⟩) (v := .int .i64 (q : Int)) rfl (by kernel_rfl) (by kernel_rfl) (by kernel_rfl) (by kernel_rfl) (fun _ _ _ h => h) (Or.inl ⟨by kernel_rfl, by intro WW hSw; obtain ⟨s0, s1, s2, s3, s4, s5, s6⟩ := hSw; go_simp⟩) (by assumption) ?_
  (try simp only [Act.put, List.setIfInBounds_toArray, List.set_cons_zero, List.set_cons_succ])
  refine wpAnyX_take (i := 6) (oi := ⟨some 92, _, _, _, _, _⟩) (v := .slice (some ⟨tb, 0, none⟩) q cap) rfl (by kernel_rfl) (by kernel_rfl) (by kernel_rfl) (by kernel_rfl) (fun _ _ _ h => h) (Or.inl ⟨by kernel_rfl, by intro WW hSw; obtain ⟨s0, s1, s2, s3, s4, s5, s6⟩ := hSw; go_simp⟩) (by assumption) ?_
  (try simp only [Act.put, List.setIfInBounds_toArray, List.set_cons_zero, List.set_cons_succ])
  refine wpAnyX_take (i := 8) (oi := ⟨some 94, _, _, _, _, _⟩) (v := .pointer (some ⟨gg, 0, none⟩)) rfl (by kernel_rfl) (by kernel_rfl) (by kernel_rfl) (by kernel_rfl) (fun _ _ _ h => h) (Or.inl ⟨by kernel_rfl, by intro WW hSw; obtain ⟨s0, s1, s2, s3, s4, s5, s6⟩ := hSw; go_simp⟩) (by assumption) ?_
  (try simp only [Act.put, List.setIfInBounds_toArray, List.set_cons_zero, List.set_cons_succ])
  refine wpAnyX_take (i := 9) (oi := ⟨some 95, _, _, _, _, _⟩) (v := .pointer (some ⟨gg, 0, none⟩)) rfl (by kernel_rfl) (by kernel_rfl) (by kernel_rfl) (by kernel_rfl) (fun _ _ _ h => h) (Or.inl ⟨by kernel_rfl, by intro WW hSw; obtain ⟨s0, s1, s2, s3, s4, s5, s6⟩ := hSw; go_simp⟩) (by assumption) ?_
  (try simp only [Act.put, List.setIfInBounds_toArray, List.set_cons_zero, List.set_cons_succ])
  refine wpAnyX_take (i := 10) (oi := ⟨some 96, _, _, _, _, _⟩) (v := .pointer (some ⟨gg, 3, none⟩)) rfl (by kernel_rfl) (by kernel_rfl) (by kernel_rfl) (by kernel_rfl) (fun _ _ _ h => h) (Or.inl ⟨by kernel_rfl, by intro WW hSw; obtain ⟨s0, s1, s2, s3, s4, s5, s6⟩ := hSw; go_simp⟩) (by assumption) ?_
  (try simp only [Act.put, List.setIfInBounds_toArray, List.set_cons_zero, List.set_cons_succ])
  refine wpAnyX_take (i := 11) (oi := ⟨some 97, _, _, _, _, _⟩) (v := .slice (some ⟨tb, 0, none⟩) m cap) rfl (by kernel_rfl) (by kernel_rfl) (by kernel_rfl) (by kernel_rfl) (fun _ _ _ h => h) (Or.inl ⟨by kernel_rfl, by intro WW hSw; obtain ⟨s0, s1, s2, s3, s4, s5, s6⟩ := hSw; go_simp⟩) (by assumption) ?_
  (try simp only [Act.put, List.setIfInBounds_toArray, List.set_cons_zero, List.set_cons_succ])
  refine wpAnyX_take (i := 12) (oi := ⟨some 98, _, _, _, _, _⟩) (v := .int .i64 (q : Int)) rfl (by kernel_rfl) (by kernel_rfl) (by kernel_rfl) (by kernel_rfl) (fun _ _ _ h => h) (Or.inl ⟨by kernel_rfl, by intro WW hSw; obtain ⟨s0, s1, s2, s3, s4, s5, s6⟩ := hSw; go_simp⟩) (by assumption) ?_
  (try simp only [Act.put, List.setIfInBounds_toArray, List.set_cons_zero, List.set_cons_succ])
  refine wpAnyX_take (i := 13) (oi := ⟨some 99, _, _, _, _, _⟩) (v := .int .i64 ((q : Int) + 1)) rfl (by kernel_rfl) (by kernel_rfl) (by kernel_rfl) (by kernel_rfl) (fun _ _ _ h => h) (Or.inl ⟨by kernel_rfl, by intro WW hSw; obtain ⟨s0, s1, s2, s3, s4, s5, s6⟩ := hSw; go_simp⟩) (by assumption) ?_
  (try simp only [Act.put, List.setIfInBounds_toArray, List.set_cons_zero, List.set_cons_succ])
  refine wpAnyX_take (i := 14) (oi := ⟨some 100, _, _, _, _, _⟩) (v := .slice (some ad) (m - (q + 1)) (cap - (q + 1))) rfl (by kernel_rfl) (by kernel_rfl) (by kernel_rfl) (by kernel_rfl) (fun _ _ _ h => h) (Or.inl ⟨by kernel_rfl, by intro WW hSw; obtain ⟨s0, s1, s2, s3, s4, s5, s6⟩ := hSw; go_simp⟩) (by assumption) ?_
  (try simp only [Act.put, List.setIfInBounds_toArray, List.set_cons_zero, List.set_cons_succ])
  refine wpAnyX_ready (rs := [7]) (by kernel_rfl) (by simp) ?_
  refine AllReadyX.cons (o := ⟨some 93, _, _, _, _, _⟩) rfl (fun K hK => ?_) AllReadyX.nil
  refine step_app6 (by rfl) _ _ rfl x2.drew.heap.size (.slice none 0 0) 0 [] rfl (World.ownsRow_nil _ _ _ _) ⟨tb, 0, none⟩ q cap (X2.take (4 * q)) rfl (by rw [List.length_take]; omega) (fun j u hj => by rw [Addr.add_lit, Nat.zero_add]; exact HCE.out _ (Below.refl _ _) j u (List.getElem?_eq_some_iff.2 ((List.getElem?_eq_some_iff.1 hj).elim fun h1 h2 => ⟨by simp at h1; omega, by rw [← h2, List.getElem_take]⟩))) (fun u hu => HX1.out u (List.mem_of_mem_take hu)) (by omega) (Nat.le_refl _) ?_
  intro v7 w7 o7 g7
  have L7 : Below x2.drew.heap.size x2.drew w7 := (Below.refl _ _).grown g7 (Nat.le_refl _) (fun q hq => by cases hq)
  rw [Nat.zero_add, List.nil_append] at o7
  refine hK.out _ _ (HSB.out _ L7) (fun hHeld => ?_)
  clear hK K
  (try simp only [Act.put, List.setIfInBounds_toArray, List.set_cons_zero, List.set_cons_succ])
  refine wpAnyX_ready (rs := [15]) (by kernel_rfl) (by simp) ?_
  refine AllReadyX.cons (o := ⟨some 101, _, _, _, _, _⟩) rfl (fun K hK => ?_) AllReadyX.nil
  refine step_app6 (by rfl) _ _ rfl x2.drew.heap.size v7 q (X2.take (4 * q)) rfl o7 ad (m - (q + 1)) (cap - (q + 1)) (X2.drop (4 * (q + 1))) rfl (by rw [List.length_drop]; omega) (fun j u hj => HAD.out _ L7 j u hj) (fun u hu => HX1.out u (List.mem_of_mem_drop hu)) (by omega) L7.size ?_
  intro v15 w15 o15 g15
  have L15 : Below x2.drew.heap.size x2.drew w15 := L7.grown g15 L7.size (fun q hq => own_base o7 hq)
  obtain ⟨A15, c15, rfl⟩ := own_at4 o15
  have HE := Lib.hid (HEND.out _ _ (H.out.slice L15 o15))
  have HL15 := Lib.hid L15
  have fd := HGF.out _ (H.out.below L15)
  obtain ⟨_, _, cd, _⟩ := HSB.out _ L15
  refine hK.out _ _ (HSB.out _ L15) (fun hHeld => ?_)
  clear hK K L15 g15 o15 L7 g7 o7
  (try simp only [Act.put, List.setIfInBounds_toArray, List.set_cons_zero, List.set_cons_succ])
  refine wpAnyX_ready (rs := [16]) (by kernel_rfl) (by simp) ?_
  refine AllReadyX.cons (o := ⟨some 102, _, _, _, _, _⟩) rfl (fun K hK => ?_) AllReadyX.nil
  go_simp
  refine hK.out _ _ (HSB.out _ HL15.out) (fun hHeld => ?_)
  clear hK K
  (try simp only [Act.put, List.setIfInBounds_toArray, List.set_cons_zero, List.set_cons_succ])
  refine wpAnyX_ready (rs := [17]) (by kernel_rfl) (by simp) ?_
  refine AllReadyX.cons (o := ⟨some 103, _, _, _, _, _⟩) rfl (fun K hK => ?_) AllReadyX.nil
  go_simp
  refine hK.out _ _ (HSB.out _ HL15.out) (fun hHeld => ?_)
  clear hK K
  (try simp only [Act.put, List.setIfInBounds_toArray, List.set_cons_zero, List.set_cons_succ])
  refine wpAnyX_ready (rs := [18]) (by kernel_rfl) (by simp) ?_
  refine AllReadyX.last rfl (fun K hK => ?_)
  go_simp
  refine hK.out _ _ ?_
  clear hK K
  (try simp only [Act.put, List.setIfInBounds_toArray, List.set_cons_zero, List.set_cons_succ])
  refine wpAnyX_done (by kernel_rfl) ?_ _
  unfold NoPanic
  clear hHeld cd fd
  go_wp2
  go_ret
  exact HE.out
end Go.Proofs.YtahojhaeebmpoaaGreatDoor
