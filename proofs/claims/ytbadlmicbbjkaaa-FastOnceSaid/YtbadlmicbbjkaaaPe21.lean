/- Texts of this claim, packed: N9Known, N9Ref1, N9Ref3, N9Ref4, N9Ref2, N9App, N9RApp. -/
import Derived.Test.YtbadlmicbbjkaaaPe19
import Derived.Test.YtbadlmicbbjkaaaPe20
import Derived.Test.YtbadlmicbbjkaaaPe09
import Derived.Test.YtbadlmicbbjkaaaPe10
import Derived.Test.YtbadlmicbbjkaaaPe17
/- The chapter's rows: the program answers them as the document says; no conditions. -/
namespace Go.Proofs.Ytbadlmicbbjkaaa
open Go.RowKit
set_option linter.unusedVariables false
def k9Nd : Nd := ⟨0, 0, 0, 0, 1088, 5, 9, 0, 0, 0, 0, 0, 0, 2112, 2176, 0, 0, 0, 0, 0, 0⟩
def k9Nd4 : Nd := ⟨0, 0, 0, 4, 1088, 5, 9, 0, 0, 0, 0, 0, 0, 2112, 2176, 0, 0, 0, 0, 0, 0⟩
def k9I : List (Int × Int) := [(1112, 5), (1208, 0), (1192, 2176), (1184, 9), (1176, 2112), (1168, 7), (1176, 2240), (1112, 6)]
def k9D : List (Int × Int) := [(1112, 5), (1160, 1088), (1152, 9), (1160, 2176), (1176, 0), (1112, 6)]
theorem k9Make : makeR 1088 0 0 0 0 [(5, 2112), (9, 2176)] = (k9Nd, 0) := by kernel_rfl
theorem k9Ins : insP 1088 k9Nd4 7 2240 = (k9I, 0) := by kernel_rfl
theorem k9Del : delP 1088 k9Nd4 5 = (k9D, 0) := by kernel_rfl
theorem store_gen9 (w1 : World) (n : Nd) : ∃ W2, W2 = (w1.alloc (.cells #[.int .i64 0, .int .u64 0, .int .u64 0, .int .u64 0, .int .u64 0, .int .u64 0, .int .u64 0, .int .u64 0, .int .u64 0, .int .u64 0, .int .u64 0, .int .u64 0, .int .u64 0, .int .u64 0, .int .u64 0, .int .u64 0, .int .u64 0, .int .u64 0, .int .u64 0, .int .u64 0, .int .u64 0] 27)).setCells w1.heap.size 0 n.cl ∧ NdAt W2 w1.heap.size n ∧ Below w1.heap.size w1 W2 :=
  ⟨_, rfl, row_setCells (Row.new w1 27 zeroNd.cl.toArray) rfl, setCells_low _ (Nat.le_refl _) (alloc_low _ _)⟩
theorem ent_lit (w : World) (e : TypeId) (l : List (Int × Int)) (hl : l.length ≤ 1000) : EntAt (w.alloc (.cells (flatE l).toArray e)) (.slice (some ⟨w.heap.size, 0, none⟩) l.length l.length) l :=
  ent_ownG (own_made e (flatE l) (B := 0) (by rw [flatE_len]; omega) (Nat.zero_le _) (by unfold maxLen; omega))
theorem psame_yes {w : World} {v v' : Value} {l : List (Int × Int)} (h : EntAt w v l) (h' : EntAt w v' l) (hl : l.length ≤ 1000) : Calls Try.prog 11 #[v, v'] w fun e w' => e = .returned (.bool true) ∧ Below w.heap.size w w' :=
  (psame_any h h' (by omega) (by omega)).mono fun e w' hh => by rw [decide_eq_true rfl] at hh; exact hh
set_option maxRecDepth 100000 in
set_option maxHeartbeats 8000000 in
theorem n9known_any (w : World) : Calls Try.prog 12 #[] w fun e w' => e = .returned (.bool true) ∧ Below w.heap.size w w' := by
  have hm := nMake_any 1088 0 0 0 0 (ent_lit w 67 [(5, 2112), (9, 2176)] (by decide)) (by decide)
  rw [k9Make] at hm
  have HM := Lib.hid (show Calls Try.prog 35 #[.int .u64 1088, .int .i64 0, .int .u64 0, .int .u64 0, .int .u64 0, .slice (some ⟨w.heap.size, 0, none⟩) 2 2] (w.alloc (.cells #[.int .u64 5, .int .u64 2112, .int .u64 9, .int .u64 2176] 67)) _ from hm)
  have HI := Lib.hid (fun W' => ins_any (base := 1088) (by decide) k9Nd4 7 2240 W')
  rw [k9Ins] at HI
  have HD := Lib.hid (fun W' => del_any (base := 1088) (by decide) k9Nd4 5 W')
  rw [k9Del] at HD
  have hb0 := alloc_low w (.cells #[.int .u64 5, .int .u64 2112, .int .u64 9, .int .u64 2176] 67)
  clear hm
  go_enter Try.func12, Try.ntmps12
  go_wp2_with (first
    | (go_at_call 35; refine HM.out.mono ?_; rintro e w1 ⟨rfl, hb1⟩; have hw1 := low_and hb0 hb1)
    | (refine wpList_store_row rfl _ _ _ rfl w1.heap.size k9Nd.cl rfl rfl (Row.new w1 27 zeroNd.cl.toArray) rfl ndI (cl_one k9Nd) ?_; obtain ⟨W2, hW2, hn2, hb2⟩ := store_gen9 w1 k9Nd; rw [← hW2]; have f3 := hn2.free 3; have c3 := ndAt_at hn2 3; have HN4 := Lib.hid (fun W' (hb : Below (W2.setCell ⟨w1.heap.size, 3, none⟩ (.int .u64 4)).heap.size (W2.setCell ⟨w1.heap.size, 3, none⟩ (.int .u64 4)) W') => (show NdAt W' w1.heap.size k9Nd4 from Row.below (hn2.set 3 (.int .u64 4)) hb (Row.lt (hn2.set 3 (.int .u64 4))))); have HW3 := Lib.hid (show Below w.heap.size w (W2.setCell ⟨w1.heap.size, 3, none⟩ (.int .u64 4)) from (low_and hw1 hb2).setCell (p := ⟨w1.heap.size, 3, none⟩) hw1.size _); have hr3 := Below.refl (W2.setCell ⟨w1.heap.size, 3, none⟩ (.int .u64 4)).heap.size (W2.setCell ⟨w1.heap.size, 3, none⟩ (.int .u64 4)); clear hW2 hn2)
    | (refine wpList_load_mid rfl _ _ rfl w1.heap.size 0 rfl k9Nd4.cl _ (ndR (HN4.out _ (by assumption))) Try.underlying27 rfl ndI ?_)
    | (go_at_call 24; refine (HI.out _).mono ?_; rintro e w3 ⟨⟨v3, rfl, ho3⟩, hb3⟩; have HE3 := Lib.hid (ent_ownG ho3); have hb3 := low_and hr3 hb3; clear ho3)
    | (go_at_call 25; refine (HD.out _).mono ?_; rintro e w4 ⟨⟨v4, rfl, ho4⟩, hb4⟩; have HE4 := Lib.hid (ent_ownG ho4); have HE3b := Lib.hid (HE3.out.low hb4); have hb4 := low_and hb3 hb4; have HS1 := Lib.hid (show Calls Try.prog 11 #[v3, .slice (some ⟨w4.heap.size, 0, none⟩) 8 8] (w4.alloc (.cells #[.int .u64 1112, .int .u64 5, .int .u64 1208, .int .u64 0, .int .u64 1192, .int .u64 2176, .int .u64 1184, .int .u64 9, .int .u64 1176, .int .u64 2112, .int .u64 1168, .int .u64 7, .int .u64 1176, .int .u64 2240, .int .u64 1112, .int .u64 6] 45)) _ from psame_yes (HE3b.out.low (alloc_low _ _)) (ent_lit w4 45 k9I (by decide)) (by decide)); have HB4 := Lib.hid (low_and HW3.out (low_and hb4 (alloc_low w4 (.cells #[.int .u64 1112, .int .u64 5, .int .u64 1208, .int .u64 0, .int .u64 1192, .int .u64 2176, .int .u64 1184, .int .u64 9, .int .u64 1176, .int .u64 2112, .int .u64 1168, .int .u64 7, .int .u64 1176, .int .u64 2240, .int .u64 1112, .int .u64 6] 45)))); have HE4b := Lib.hid (HE4.out.low (alloc_low w4 (.cells #[.int .u64 1112, .int .u64 5, .int .u64 1208, .int .u64 0, .int .u64 1192, .int .u64 2176, .int .u64 1184, .int .u64 9, .int .u64 1176, .int .u64 2112, .int .u64 1168, .int .u64 7, .int .u64 1176, .int .u64 2240, .int .u64 1112, .int .u64 6] 45))); clear ho4)
    | (go_at_call 11; refine HS2.out.mono ?_; rintro e w6 ⟨rfl, hb6⟩; have HB6 := Lib.hid (low_and HB5.out hb6))
    | (go_at_call 11; refine HS1.out.mono ?_; rintro e w5 ⟨rfl, hb5⟩; have HS2 := Lib.hid (show Calls Try.prog 11 #[v4, .slice (some ⟨w5.heap.size, 0, none⟩) 6 6] (w5.alloc (.cells #[.int .u64 1112, .int .u64 5, .int .u64 1160, .int .u64 1088, .int .u64 1152, .int .u64 9, .int .u64 1160, .int .u64 2176, .int .u64 1176, .int .u64 0, .int .u64 1112, .int .u64 6] 45)) _ from psame_yes ((HE4b.out.low hb5).low (alloc_low _ _)) (ent_lit w5 45 k9D (by decide)) (by decide)); have HB5 := Lib.hid (low_and (low_and HB4.out hb5) (alloc_low w5 (.cells #[.int .u64 1112, .int .u64 5, .int .u64 1160, .int .u64 1088, .int .u64 1152, .int .u64 9, .int .u64 1160, .int .u64 2176, .int .u64 1176, .int .u64 0, .int .u64 1112, .int .u64 6] 45)))))
  go_ret
  exact ⟨rfl, HB6.out⟩
end Go.Proofs.Ytbadlmicbbjkaaa
/- The document's Delete, Repair, Swap, Cut, Link: of any node; conditions: numbers of the width. -/
namespace Go.Proofs.Ytbadlmicbbjkaaa
open Go.RowKit
set_option linter.unusedVariables false
theorem refE_had (b : Int) (n : Nd) (p : Int) : refE b n [p] = if refE b n [] = 2 ∨ n.had p = true then 2 else refE b n [] := by
  rw [refE_cases, refE_cases]
  generalize (bOk b && n.may 0 false) = c
  by_cases hi : 0 ≤ n.inv <;> cases c <;> cases h : n.had p <;> simp [h, hi]
theorem refE_vals (b : Int) (n : Nd) : refE b n [] = 0 ∨ refE b n [] = 2 ∨ refE b n [] = 7 := by
  rw [refE_cases]
  generalize (bOk b && n.may 0 false) = c
  by_cases hi : 0 ≤ n.inv <;> cases c <;> simp [hi]
theorem own_slice {w : World} {B n s : Nat} {e : TypeId} {v : Value} {xs : List Value} (h : w.ownsRow B e s v n xs) (hn : 0 < n) : ∃ g cap, v = .slice (some ⟨g, 0, none⟩) n cap ∧ ∀ j u, xs[j]? = some u → w.cell? ((⟨g, 0, none⟩ : Addr).add j) = some u := by
  rcases h.2 with ⟨rfl, h0⟩ | ⟨g, cap, cur, rfl, _⟩
  · omega
  · exact ⟨g, cap, rfl, h.cells (g := g) rfl⟩
set_option maxRecDepth 100000 in
set_option maxHeartbeats 8000000 in
theorem r9link_any {base : Int} (hb : 0 ≤ base) (n : Nd) (next : Int) (w : World) : Calls Try.prog 34 #[.int .u64 base, n.V, .int .u64 next] w (PutsOut w (linkP base n next)) := by
  obtain ⟨i0, hi, hz0, hz1, hz2⟩ := info_parts infoPut
  have r0 := Row.new w 27 n.cl.toArray
  obtain ⟨Wa, hWa⟩ : ∃ Wa, Wa = w.alloc (.cells n.cl.toArray 27) := ⟨_, rfl⟩
  rw [← hWa] at r0
  have hb0 : Below w.heap.size w Wa := by rw [hWa]; exact alloc_low _ _
  have HB0 := Lib.hid hb0
  have HRR := Lib.hid (fun W' (hb : Below Wa.heap.size Wa W') => (show NdAt W' w.heap.size n from r0.below hb r0.lt))
  have HWa := Lib.hid hWa
  have HWs := Lib.hid (show w.heap.size ≤ Wa.heap.size from hb0.size)
  have hl8 := n.len_le
  have hr0 := Below.refl Wa.heap.size Wa
  have HMy := Lib.hid (fun W' => r9may_any hb n W')
  have EGp := Lib.hid (enters_of Try.func38 (by kernel_rfl) rfl)
  have EGa := Lib.hid (enters_of Try.func64 (by kernel_rfl) rfl)
  have EGg := Lib.hid (enters_of Try.func66 (by kernel_rfl) rfl)
  have EGw := Lib.hid (enters_of Try.func65 (by kernel_rfl) rfl)
  have EGi := Lib.hid (enters_of Try.func18 (by kernel_rfl) rfl)
  have hP : linkP base n next = (if refE base n [] ≠ 0 then ([], refE base n []) else (wholeL base n [(base + 16, next)], 0)) := rfl
  have hbb := fun h => refE_base (b := base) (n := n) (l := []) h
  generalize hR : linkP base n next = R at hP ⊢
  generalize refE base n [] = E at HMy hP hbb
  clear r0 hWa hb0 hR
  obtain hE | hE : E ≠ 0 ∨ E = 0 := by omega
  · have HR := Lib.hid (show R = ([], E) by rw [hP, if_pos hE])
    have hEb : (E != 0) = true := by simpa using hE
    clear hP hbb
    go_enter Try.func34, Try.ntmps34
    go_wp2_with (first
      | (rw [← HWa.out]; (refine wpList_load_mid rfl _ _ rfl w.heap.size 0 rfl n.cl _ (ndR (HRR.out _ (by assumption))) Try.underlying27 rfl ndI ?_))
      | (refine wpList_load_mid rfl _ _ rfl w.heap.size 0 rfl n.cl _ (ndR (HRR.out _ (by assumption))) Try.underlying27 rfl ndI ?_)
      | (go_at_call 60; refine (HMy.out _).mono ?_; rintro e w1 ⟨rfl, h1⟩; have h1 := low_and hr0 h1))
    go_ret2
    rw [HR.out]
    exact ⟨⟨_, rfl, World.ownsRow_nil _ _ _ _⟩, low_and HB0.out h1⟩
  · subst hE
    rw [if_neg (by simp)] at hP
    have hbse := hbb rfl
    have HR := Lib.hid hP
    have hw16 : IntKind.u64.wrap (base + 16) = base + 16 := by rw [IntKind.wrap_u64]; omega
    have HWh := Lib.hid (fun W' v (h : EntAt W' v [(base + 16, next)]) => whole_any hbse n h (by simp) (by simp))
    have HLit := Lib.hid (fun W' => (show EntAt (W'.alloc (.cells #[.int .u64 (base + 16), .int .u64 next] 45)) (.slice (some ⟨W'.heap.size, 0, none⟩) 1 1) [(base + 16, next)] from ent_lit W' 45 [(base + 16, next)] (by simp)))
    clear hP hbb
    go_enter Try.func34, Try.ntmps34
    go_wp2_with (first
      | (rw [← HWa.out]; (refine wpList_load_mid rfl _ _ rfl w.heap.size 0 rfl n.cl _ (ndR (HRR.out _ (by assumption))) Try.underlying27 rfl ndI ?_))
      | (refine wpList_load_mid rfl _ _ rfl w.heap.size 0 rfl n.cl _ (ndR (HRR.out _ (by assumption))) Try.underlying27 rfl ndI ?_)
      | (go_at_call 60; refine (HMy.out _).mono ?_; rintro e w1 ⟨rfl, h1⟩; have h1 := low_and hr0 h1)
      | (go_at_call 65; refine (HWh.out _ _ (HLit.out w1)).mono ?_; rintro e w5 ⟨⟨v5, rfl, ho5⟩, h5⟩; have h5 := low_and h1 (low_and (alloc_low _ _) h5)))
    go_ret2
    rw [HR.out]
    have hs := (low_and HB0.out h1).size
    exact ⟨⟨_, rfl, ownS_mono ho5 (by simp; omega)⟩, low_and HB0.out h5⟩
set_option maxRecDepth 100000 in
set_option maxHeartbeats 8000000 in
theorem r9rep_any {base : Int} (hb : 0 ≤ base) (n : Nd) (w : World) : Calls Try.prog 31 #[.int .u64 base, n.V] w (PutsOut w (repP base n)) := by
  obtain ⟨i0, hi, hz0, hz1, hz2⟩ := info_parts infoPut
  have r0 := Row.new w 27 n.cl.toArray
  obtain ⟨Wa, hWa⟩ : ∃ Wa, Wa = w.alloc (.cells n.cl.toArray 27) := ⟨_, rfl⟩
  rw [← hWa] at r0
  have hb0 : Below w.heap.size w Wa := by rw [hWa]; exact alloc_low _ _
  have HB0 := Lib.hid hb0
  have HRR := Lib.hid (fun W' (hb : Below Wa.heap.size Wa W') => (show NdAt W' w.heap.size n from r0.below hb r0.lt))
  have HWa := Lib.hid hWa
  have HWs := Lib.hid (show w.heap.size ≤ Wa.heap.size from hb0.size)
  have hl8 := n.len_le
  have hr0 := Below.refl Wa.heap.size Wa
  have HMy := Lib.hid (fun W' => r9may_any hb n W')
  have EGp := Lib.hid (enters_of Try.func38 (by kernel_rfl) rfl)
  have EGa := Lib.hid (enters_of Try.func64 (by kernel_rfl) rfl)
  have EGg := Lib.hid (enters_of Try.func66 (by kernel_rfl) rfl)
  have EGw := Lib.hid (enters_of Try.func65 (by kernel_rfl) rfl)
  have EGi := Lib.hid (enters_of Try.func18 (by kernel_rfl) rfl)
  have HI := Lib.hid (fun W' => r8Inv_any n W')
  have hP : repP base n = (if (bOk base && n.may 0 false) = true then (if n.inv < 0 then ([], 7) else (wholeL base n (dnL base n n.inv.toNat (n.len - 1 - n.inv.toNat)), 0)) else ([], 2)) := rfl
  have hE : refE base n [] = if (bOk base && n.may 0 false) = true then (if 0 ≤ n.inv then 7 else 0) else 2 := by rw [refE_cases]; simp
  have hbo := bOk_iff base
  generalize hR : repP base n = R at hP ⊢
  obtain ⟨c, hc⟩ : ∃ c, c = (bOk base && n.may 0 false) := ⟨_, rfl⟩
  have hbs : c = true → 0 ≤ base ∧ base ≤ 1099511627776 := fun h => by
    rw [h] at hc
    have h2 : bOk base = true := by cases hq : bOk base <;> simp [hq] at hc ⊢
    have := hbo.1 h2
    omega
  rw [← hc] at hP hE
  generalize refE base n [] = E at HMy hE
  clear r0 hWa hb0 hR hbo hc
  cases c with
  | false =>
    have HR := Lib.hid (show R = ([], 2) by rw [hP]; rfl)
    have hE2 : E = 2 := hE
    subst hE2
    clear hP hE hbs
    go_enter Try.func31, Try.ntmps31
    go_wp2_with (first
      | (rw [← HWa.out]; (refine wpList_load_mid rfl _ _ rfl w.heap.size 0 rfl n.cl _ (ndR (HRR.out _ (by assumption))) Try.underlying27 rfl ndI ?_))
      | (refine wpList_load_mid rfl _ _ rfl w.heap.size 0 rfl n.cl _ (ndR (HRR.out _ (by assumption))) Try.underlying27 rfl ndI ?_)
      | (go_at_call 60; refine (HMy.out _).mono ?_; rintro e w1 ⟨rfl, h1⟩; have h1 := low_and hr0 h1))
    go_ret2
    rw [HR.out]
    exact ⟨⟨_, rfl, World.ownsRow_nil _ _ _ _⟩, low_and HB0.out h1⟩
  | true =>
    have hbse := hbs rfl
    rw [if_pos rfl] at hP hE
    clear hbs
    obtain hi2 | hi2 : n.inv < 0 ∨ ¬ n.inv < 0 := by omega
    · have HR := Lib.hid (show R = ([], 7) by rw [hP, if_pos hi2])
      rw [if_neg (by omega)] at hE
      subst hE
      clear hP
      go_enter Try.func31, Try.ntmps31
      go_wp2_with (first
      | (rw [← HWa.out]; (refine wpList_load_mid rfl _ _ rfl w.heap.size 0 rfl n.cl _ (ndR (HRR.out _ (by assumption))) Try.underlying27 rfl ndI ?_))
      | (refine wpList_load_mid rfl _ _ rfl w.heap.size 0 rfl n.cl _ (ndR (HRR.out _ (by assumption))) Try.underlying27 rfl ndI ?_)
      | (go_at_call 60; refine (HMy.out _).mono ?_; rintro e w1 ⟨rfl, h1⟩; have h1 := low_and hr0 h1))
      go_ret2
      rw [HR.out]
      exact ⟨⟨_, rfl, World.ownsRow_nil _ _ _ _⟩, low_and HB0.out h1⟩
    · rw [if_neg hi2] at hP
      rw [if_pos (by omega)] at hE
      subst hE
      obtain ⟨p, hp, hpl⟩ := inv_lt hi2
      rw [hp, Int.toNat_natCast] at hP
      rw [hp] at HI
      clear hi2 hp
      have HR := Lib.hid hP
      have HG := Lib.hid (fun W' => gap_any hbse n hpl W')
      have hdl := dnL_len base n (n.len - 1 - p) p
      generalize dnL base n p (n.len - 1 - p) = D at HR HG hdl
      have HWh := Lib.hid (fun W' v (h : EntAt W' v D) => whole_any hbse n h (by omega) (by omega))
      clear hP
      go_enter Try.func31, Try.ntmps31
      go_wp2_with (first
      | (rw [← HWa.out]; (refine wpList_load_mid rfl _ _ rfl w.heap.size 0 rfl n.cl _ (ndR (HRR.out _ (by assumption))) Try.underlying27 rfl ndI ?_))
      | (refine wpList_load_mid rfl _ _ rfl w.heap.size 0 rfl n.cl _ (ndR (HRR.out _ (by assumption))) Try.underlying27 rfl ndI ?_)
      | (go_at_call 60; refine (HMy.out _).mono ?_; rintro e w1 ⟨rfl, h1⟩; have h1 := low_and hr0 h1))
      refine wp_region_held_drew (S := fun W' => Below Wa.heap.size Wa W') (by kernel_rfl) (low_and h1 (drew_low9 _)) (fun hHeld => ?_)
      refine wpAnyH_take (i := 0) (oi := ⟨some 14, _, _, _, _, _⟩) (v := .int .u64 base) rfl (by kernel_rfl) (by kernel_rfl) (by kernel_rfl) (fun _ _ _ h => h) (Or.inl ⟨by rfl, by intro WW hSw; (try dsimp only at hSw); go_simp⟩) (by assumption) ?_
      (try simp only [Act.put, List.setIfInBounds_toArray, List.set_cons_zero, List.set_cons_succ])
      refine wpAnyH_take (i := 1) (oi := ⟨some 15, _, _, _, _, _⟩) (v := .agg n.cl.toArray) rfl (by kernel_rfl) (by kernel_rfl) (by kernel_rfl) (fun _ _ _ h => h) (yieldsIf_load_mid (by rfl) _ _ rfl w.heap.size 0 rfl n.cl _ (fun w' hw' => ndR (HRR.out _ hw')) Try.underlying27 rfl ndI) (by assumption) ?_
      (try simp only [Act.put, List.setIfInBounds_toArray, List.set_cons_zero, List.set_cons_succ])
      refine wpAnyH_take (i := 2) (oi := ⟨some 16, _, _, _, _, _⟩) (v := .int .u64 base) rfl (by kernel_rfl) (by kernel_rfl) (by kernel_rfl) (fun _ _ _ h => h) (Or.inl ⟨by rfl, by intro WW hSw; (try dsimp only at hSw); go_simp⟩) (by assumption) ?_
      (try simp only [Act.put, List.setIfInBounds_toArray, List.set_cons_zero, List.set_cons_succ])
      refine wpAnyH_take (i := 3) (oi := ⟨some 17, _, _, _, _, _⟩) (v := .agg n.cl.toArray) rfl (by kernel_rfl) (by kernel_rfl) (by kernel_rfl) (fun _ _ _ h => h) (yieldsIf_load_mid (by rfl) _ _ rfl w.heap.size 0 rfl n.cl _ (fun w' hw' => ndR (HRR.out _ hw')) Try.underlying27 rfl ndI) (by assumption) ?_
      (try simp only [Act.put, List.setIfInBounds_toArray, List.set_cons_zero, List.set_cons_succ])
      refine wpAnyH_take (i := 4) (oi := ⟨some 18, _, _, _, _, _⟩) (v := .agg n.cl.toArray) rfl (by kernel_rfl) (by kernel_rfl) (by kernel_rfl) (fun _ _ _ h => h) (yieldsIf_load_mid (by rfl) _ _ rfl w.heap.size 0 rfl n.cl _ (fun w' hw' => ndR (HRR.out _ hw')) Try.underlying27 rfl ndI) (by assumption) ?_
      (try simp only [Act.put, List.setIfInBounds_toArray, List.set_cons_zero, List.set_cons_succ])
      refine wpAnyH_one (i := 5) (oi := ⟨some 19, _, _, _, _, _⟩) rfl (by kernel_rfl) (fun K hK => ?_)
      refine step_calls (by rfl) 18 EGi.out [.tmp 18] _ rfl [n.V] rfl (HI.out _) ?_
      rintro e w2 ⟨rfl, h2⟩
      have g2 := low_and hHeld h2
      refine ⟨_, rfl, hK _ _ (low_and hHeld h2) (fun hSn => ?_)⟩
      clear hK K
      (try simp only [Act.put, List.setIfInBounds_toArray, List.set_cons_zero, List.set_cons_succ])
      refine wpAnyH_one (i := 6) (oi := ⟨some 20, _, _, _, _, _⟩) rfl (by kernel_rfl) (fun K hK => ?_)
      refine step_calls (by rfl) 66 EGg.out [.tmp 16, .tmp 17, .tmp 19] _ rfl [.int .u64 base, n.V, .int .i64 (p : Int)] rfl (HG.out _) ?_
      rintro e w3 ⟨⟨v3, rfl, ho3⟩, h3⟩
      have g3 := low_and g2 h3
      have HE3 := Lib.hid (ent_ownG ho3)
      clear ho3
      refine ⟨_, rfl, hK _ _ (low_and g2 h3) (fun hSn => ?_)⟩
      clear hK K
      (try simp only [Act.put, List.setIfInBounds_toArray, List.set_cons_zero, List.set_cons_succ])
      refine wpAnyH_one (i := 7) (oi := ⟨some 21, _, _, _, _, _⟩) rfl (by kernel_rfl) (fun K hK => ?_)
      refine step_calls (by rfl) 65 EGw.out [.tmp 14, .tmp 15, .tmp 20] _ rfl [.int .u64 base, n.V, v3] rfl (HWh.out _ _ HE3.out) ?_
      rintro e w4 ⟨⟨v4, rfl, ho4⟩, h4⟩
      have g4 := low_and g3 h4
      have HO4 := Lib.hid (ownS_mono ho4 (show w.heap.size ≤ w3.heap.size from Nat.le_trans HWs.out g3.size))
      clear ho4
      refine ⟨_, rfl, hK _ _ (low_and g3 h4) (fun hSn => ?_)⟩
      clear hK K
      (try simp only [Act.put, List.setIfInBounds_toArray, List.set_cons_zero, List.set_cons_succ])
      refine wpAnyH_take (i := 8) (oi := ⟨some 4, _, _, _, _, _⟩) (v := v4) rfl (by kernel_rfl) (by kernel_rfl) (by kernel_rfl) (fun _ _ _ h => h) (Or.inl ⟨by rfl, by intro WW hSw; (try dsimp only at hSw); go_simp⟩) (by assumption) ?_
      (try simp only [Act.put, List.setIfInBounds_toArray, List.set_cons_zero, List.set_cons_succ])
      refine wpAnyH_take (i := 9) (oi := ⟨some 5, _, _, _, _, _⟩) (v := .int .i64 0) rfl (by kernel_rfl) (by kernel_rfl) (by kernel_rfl) (fun _ _ _ h => h) (Or.inl ⟨by rfl, by intro WW hSw; (try dsimp only at hSw); go_simp⟩) (by assumption) ?_
      (try simp only [Act.put, List.setIfInBounds_toArray, List.set_cons_zero, List.set_cons_succ])
      refine wpAnyH_done (by kernel_rfl) ?_ _
      go_wp2
      go_ret2
      rw [HR.out]
      exact ⟨⟨_, rfl, HO4.out⟩, low_and HB0.out g4⟩
set_option maxRecDepth 100000 in
set_option maxHeartbeats 8000000 in
theorem r9swap_any {base : Int} (hb : 0 ≤ base) (n : Nd) (key ptr : Int) (w : World) : Calls Try.prog 32 #[.int .u64 base, n.V, .int .u64 key, .int .u64 ptr] w (PutsOut w (swapP base n key ptr)) := by
  obtain ⟨i0, hi, hz0, hz1, hz2⟩ := info_parts infoPut
  have r0 := Row.new w 27 n.cl.toArray
  obtain ⟨Wa, hWa⟩ : ∃ Wa, Wa = w.alloc (.cells n.cl.toArray 27) := ⟨_, rfl⟩
  rw [← hWa] at r0
  have hb0 : Below w.heap.size w Wa := by rw [hWa]; exact alloc_low _ _
  have HB0 := Lib.hid hb0
  have HRR := Lib.hid (fun W' (hb : Below Wa.heap.size Wa W') => (show NdAt W' w.heap.size n from r0.below hb r0.lt))
  have HWa := Lib.hid hWa
  have HWs := Lib.hid (show w.heap.size ≤ Wa.heap.size from hb0.size)
  have hl8 := n.len_le
  have hr0 := Below.refl Wa.heap.size Wa
  have HMy := Lib.hid (fun W' => r9may_any hb n W')
  have EGp := Lib.hid (enters_of Try.func38 (by kernel_rfl) rfl)
  have EGa := Lib.hid (enters_of Try.func64 (by kernel_rfl) rfl)
  have EGg := Lib.hid (enters_of Try.func66 (by kernel_rfl) rfl)
  have EGw := Lib.hid (enters_of Try.func65 (by kernel_rfl) rfl)
  have EGi := Lib.hid (enters_of Try.func18 (by kernel_rfl) rfl)
  have HHd := Lib.hid (fun W' => r9had_any n ptr W')
  have HFd0 := Lib.hid (fun W' => r8Find_any n key W')
  have hP : swapP base n key ptr = (if refE base n [ptr] ≠ 0 then ([], refE base n [ptr]) else match n.find key with | none => ([], 5) | some p => (wholeL base n [(pA base p, ptr)], 0)) := rfl
  rw [refE_had] at hP
  have hbb := fun h => refE_base (b := base) (n := n) (l := []) h
  have hvv := refE_vals base n
  have hfl := fun p h => find_lt (n := n) (key := key) (p := p) h
  have hfe : fndL n key n.vp = match n.find key with | some p => (p : Int) | none => -1 := rfl
  rw [hfe] at HFd0
  generalize n.find key = f at HFd0 hP hfl
  generalize hR : swapP base n key ptr = R at hP ⊢
  generalize refE base n [] = E at HMy hP hbb hvv
  generalize n.had ptr = hd at HHd hP
  clear r0 hWa hb0 hR hfe
  rcases hvv with rfl | rfl | rfl
  · cases hd with
    | true =>
      have HR := Lib.hid (show R = ([], 2) by rw [hP]; simp)
      clear hP hbb hfl
      go_enter Try.func32, Try.ntmps32
      go_wp2_with (first
      | (rw [← HWa.out]; (refine wpList_load_mid rfl _ _ rfl w.heap.size 0 rfl n.cl _ (ndR (HRR.out _ (by assumption))) Try.underlying27 rfl ndI ?_))
      | (refine wpList_load_mid rfl _ _ rfl w.heap.size 0 rfl n.cl _ (ndR (HRR.out _ (by assumption))) Try.underlying27 rfl ndI ?_)
      | (go_at_call 60; refine (HMy.out _).mono ?_; rintro e w1 ⟨rfl, h1⟩; have h1 := low_and hr0 h1)
      | (refine wpList_load_midg (by rfl) _ _ rfl w.heap.size 0 rfl n.cl _ (ndR (HRR.out _ (by assumption))) Try.underlying27 rfl ndI ?_)
      | (go_at_call 61; refine (HHd.out _).mono ?_; rintro e wh ⟨rfl, hh⟩; have h1 := low_and h1 hh))
      go_ret2
      rw [HR.out]
      exact ⟨⟨_, rfl, World.ownsRow_nil _ _ _ _⟩, low_and HB0.out h1⟩
    | false =>
      rw [if_neg (show ¬ ((0 : Int) = 2 ∨ false = true) by simp), if_neg (by simp)] at hP
      have hbse := hbb rfl
      clear hbb
      cases f with
      | none =>
        have HFd := Lib.hid (fun W' => (HFd0.out W').mono fun e w' h => (show e = .returned (.int .i64 (-1)) ∧ Below W'.heap.size W' w' from h))
        have HR := Lib.hid (show R = ([], 5) from hP)
        clear HFd0 hP hfl
        go_enter Try.func32, Try.ntmps32
        go_wp2_with (first
      | (rw [← HWa.out]; (refine wpList_load_mid rfl _ _ rfl w.heap.size 0 rfl n.cl _ (ndR (HRR.out _ (by assumption))) Try.underlying27 rfl ndI ?_))
      | (refine wpList_load_mid rfl _ _ rfl w.heap.size 0 rfl n.cl _ (ndR (HRR.out _ (by assumption))) Try.underlying27 rfl ndI ?_)
      | (go_at_call 60; refine (HMy.out _).mono ?_; rintro e w1 ⟨rfl, h1⟩; have h1 := low_and hr0 h1)
      | (refine wpList_load_midg (by rfl) _ _ rfl w.heap.size 0 rfl n.cl _ (ndR (HRR.out _ (by assumption))) Try.underlying27 rfl ndI ?_)
      | (go_at_call 61; refine (HHd.out _).mono ?_; rintro e wh ⟨rfl, hh⟩; have h1 := low_and h1 hh)
      | (go_at_call 62; refine (HFd.out _).mono ?_; rintro e w2 ⟨rfl, h2⟩; have h2 := low_and h1 h2))
        go_ret2
        rw [HR.out]
        exact ⟨⟨_, rfl, World.ownsRow_nil _ _ _ _⟩, low_and HB0.out h2⟩
      | some p =>
        have HFd := Lib.hid (fun W' => (HFd0.out W').mono fun e w' h => (show e = .returned (.int .i64 (p : Int)) ∧ Below W'.heap.size W' w' from h))
        have hpl := hfl p rfl
        have hp0 : ¬ (p : Int) < 0 := by omega
        have HR := Lib.hid (show R = (wholeL base n [(pA base p, ptr)], 0) from hP)
        have HPt := Lib.hid (fun W => pt_any hbse (i := p) (by omega) W)
        have HWh := Lib.hid (fun W' v (h : EntAt W' v [(pA base p, ptr)]) => whole_any hbse n h (by simp) (by simp))
        have HLit := Lib.hid (fun W' => (show EntAt (W'.alloc (.cells #[.int .u64 (pA base p), .int .u64 ptr] 45)) (.slice (some ⟨W'.heap.size, 0, none⟩) 1 1) [(pA base p, ptr)] from ent_lit W' 45 [(pA base p, ptr)] (by simp)))
        clear HFd0 hP hfl
        go_enter Try.func32, Try.ntmps32
        go_wp2_with (first
      | (rw [← HWa.out]; (refine wpList_load_mid rfl _ _ rfl w.heap.size 0 rfl n.cl _ (ndR (HRR.out _ (by assumption))) Try.underlying27 rfl ndI ?_))
      | (refine wpList_load_mid rfl _ _ rfl w.heap.size 0 rfl n.cl _ (ndR (HRR.out _ (by assumption))) Try.underlying27 rfl ndI ?_)
      | (go_at_call 60; refine (HMy.out _).mono ?_; rintro e w1 ⟨rfl, h1⟩; have h1 := low_and hr0 h1)
      | (refine wpList_load_midg (by rfl) _ _ rfl w.heap.size 0 rfl n.cl _ (ndR (HRR.out _ (by assumption))) Try.underlying27 rfl ndI ?_)
      | (go_at_call 61; refine (HHd.out _).mono ?_; rintro e wh ⟨rfl, hh⟩; have h1 := low_and h1 hh)
      | (go_at_call 62; refine (HFd.out _).mono ?_; rintro e w2 ⟨rfl, h2⟩; have h2 := low_and h1 h2))
        refine wp_region_held_drew (S := fun W' => Below Wa.heap.size Wa W') (by kernel_rfl) (low_and h2 (drew_low9 _)) (fun hHeld => ?_)
        refine wpAnyH_take (i := 0) (oi := ⟨some 30, _, _, _, _, _⟩) (v := .int .u64 base) rfl (by kernel_rfl) (by kernel_rfl) (by kernel_rfl) (fun _ _ _ h => h) (Or.inl ⟨by rfl, by intro WW hSw; (try dsimp only at hSw); go_simp⟩) (by assumption) ?_
        (try simp only [Act.put, List.setIfInBounds_toArray, List.set_cons_zero, List.set_cons_succ])
        refine wpAnyH_take (i := 1) (oi := ⟨some 31, _, _, _, _, _⟩) (v := .agg n.cl.toArray) rfl (by kernel_rfl) (by kernel_rfl) (by kernel_rfl) (fun _ _ _ h => h) (yieldsIf_load_mid (by rfl) _ _ rfl w.heap.size 0 rfl n.cl _ (fun w' hw' => ndR (HRR.out _ hw')) Try.underlying27 rfl ndI) (by assumption) ?_
        (try simp only [Act.put, List.setIfInBounds_toArray, List.set_cons_zero, List.set_cons_succ])
        refine wpAnyH_take (i := 2) (oi := ⟨some 32, _, _, _, _, _⟩) (v := .int .u64 base) rfl (by kernel_rfl) (by kernel_rfl) (by kernel_rfl) (fun _ _ _ h => h) (Or.inl ⟨by rfl, by intro WW hSw; (try dsimp only at hSw); go_simp⟩) (by assumption) ?_
        (try simp only [Act.put, List.setIfInBounds_toArray, List.set_cons_zero, List.set_cons_succ])
        refine wpAnyH_take (i := 3) (oi := ⟨some 33, _, _, _, _, _⟩) (v := .int .i64 (p : Int)) rfl (by kernel_rfl) (by kernel_rfl) (by kernel_rfl) (fun _ _ _ h => h) (Or.inl ⟨by rfl, by intro WW hSw; (try dsimp only at hSw); go_simp⟩) (by assumption) ?_
        (try simp only [Act.put, List.setIfInBounds_toArray, List.set_cons_zero, List.set_cons_succ])
        refine wpAnyH_take (i := 5) (oi := ⟨some 35, _, _, _, _, _⟩) (v := .int .u64 ptr) rfl (by kernel_rfl) (by kernel_rfl) (by kernel_rfl) (fun _ _ _ h => h) (Or.inl ⟨by rfl, by intro WW hSw; (try dsimp only at hSw); go_simp⟩) (by assumption) ?_
        (try simp only [Act.put, List.setIfInBounds_toArray, List.set_cons_zero, List.set_cons_succ])
        refine wpAnyH_one (i := 4) (oi := ⟨some 34, _, _, _, _, _⟩) rfl (by kernel_rfl) (fun K hK => ?_)
        refine step_calls (by rfl) 38 EGp.out [.tmp 32, .tmp 33] _ rfl [.int .u64 base, .int .i64 (p : Int)] rfl (HPt.out _) ?_
        rintro e w3 ⟨rfl, rfl⟩
        refine ⟨_, rfl, hK _ _ (hHeld) (fun hSn => ?_)⟩
        clear hK K
        (try simp only [Act.put, List.setIfInBounds_toArray, List.set_cons_zero, List.set_cons_succ])
        refine wpAnyH_take (i := 6) (oi := ⟨some 36, _, _, _, _, _⟩) (v := .agg #[.int .u64 (pA base p), .int .u64 ptr]) rfl (by kernel_rfl) (by kernel_rfl) (by kernel_rfl) (fun _ _ _ h => h) (Or.inl ⟨by rfl, by intro WW hSw; (try dsimp only at hSw); go_simp⟩) (by assumption) ?_
        (try simp only [Act.put, List.setIfInBounds_toArray, List.set_cons_zero, List.set_cons_succ])
        refine wpAnyH_one (i := 7) (oi := ⟨some 37, _, _, _, _, _⟩) rfl (by kernel_rfl) (fun K hK => ?_)
        rw [if_pos (by rfl)]
        unfold Oper.wp
        go_simp
        refine hK _ _ (low_and h2 (low_and (alloc_low _ _) (drew_low9 _))) (fun hSn => ?_)
        clear hK K
        (try simp only [Act.put, List.setIfInBounds_toArray, List.set_cons_zero, List.set_cons_succ])
        refine wpAnyH_one (i := 8) (oi := ⟨some 38, _, _, _, _, _⟩) rfl (by kernel_rfl) (fun K hK => ?_)
        refine step_calls (by rfl) 65 EGw.out [.tmp 30, .tmp 31, .tmp 37] _ rfl [.int .u64 base, n.V, .slice (some ⟨w2.heap.size, 0, none⟩) 1 1] rfl (HWh.out _ _ ((HLit.out w2).low (drew_low9 _))) ?_
        rintro e w4 ⟨⟨v4, rfl, ho4⟩, h4⟩
        have g4 := low_and h2 (low_and (low_and (alloc_low _ _) (drew_low9 _)) h4)
        have hs2 := h2.size
        have hsa := HWs.out
        have HO4 := Lib.hid (ownS_mono ho4 (show w.heap.size ≤ _ by simp; omega))
        clear ho4
        refine ⟨_, rfl, hK _ _ (low_and h2 (low_and (low_and (alloc_low _ _) (drew_low9 _)) h4)) (fun hSn => ?_)⟩
        clear hK K
        (try simp only [Act.put, List.setIfInBounds_toArray, List.set_cons_zero, List.set_cons_succ])
        refine wpAnyH_take (i := 9) (oi := ⟨some 8, _, _, _, _, _⟩) (v := v4) rfl (by kernel_rfl) (by kernel_rfl) (by kernel_rfl) (fun _ _ _ h => h) (Or.inl ⟨by rfl, by intro WW hSw; (try dsimp only at hSw); go_simp⟩) (by assumption) ?_
        (try simp only [Act.put, List.setIfInBounds_toArray, List.set_cons_zero, List.set_cons_succ])
        refine wpAnyH_take (i := 10) (oi := ⟨some 9, _, _, _, _, _⟩) (v := .int .i64 0) rfl (by kernel_rfl) (by kernel_rfl) (by kernel_rfl) (fun _ _ _ h => h) (Or.inl ⟨by rfl, by intro WW hSw; (try dsimp only at hSw); go_simp⟩) (by assumption) ?_
        (try simp only [Act.put, List.setIfInBounds_toArray, List.set_cons_zero, List.set_cons_succ])
        refine wpAnyH_done (by kernel_rfl) ?_ _
        go_wp2
        go_ret2
        rw [HR.out]
        exact ⟨⟨_, rfl, HO4.out⟩, low_and HB0.out g4⟩
  · have HR := Lib.hid (show R = ([], 2) by rw [hP]; simp)
    clear hP hbb hfl
    go_enter Try.func32, Try.ntmps32
    go_wp2_with (first
      | (rw [← HWa.out]; (refine wpList_load_mid rfl _ _ rfl w.heap.size 0 rfl n.cl _ (ndR (HRR.out _ (by assumption))) Try.underlying27 rfl ndI ?_))
      | (refine wpList_load_mid rfl _ _ rfl w.heap.size 0 rfl n.cl _ (ndR (HRR.out _ (by assumption))) Try.underlying27 rfl ndI ?_)
      | (go_at_call 60; refine (HMy.out _).mono ?_; rintro e w1 ⟨rfl, h1⟩; have h1 := low_and hr0 h1))
    go_ret2
    rw [HR.out]
    exact ⟨⟨_, rfl, World.ownsRow_nil _ _ _ _⟩, low_and HB0.out h1⟩
  · cases hd with
    | true =>
      have HR := Lib.hid (show R = ([], 2) by rw [hP]; simp)
      clear hP hbb hfl
      go_enter Try.func32, Try.ntmps32
      go_wp2_with (first
      | (rw [← HWa.out]; (refine wpList_load_mid rfl _ _ rfl w.heap.size 0 rfl n.cl _ (ndR (HRR.out _ (by assumption))) Try.underlying27 rfl ndI ?_))
      | (refine wpList_load_mid rfl _ _ rfl w.heap.size 0 rfl n.cl _ (ndR (HRR.out _ (by assumption))) Try.underlying27 rfl ndI ?_)
      | (go_at_call 60; refine (HMy.out _).mono ?_; rintro e w1 ⟨rfl, h1⟩; have h1 := low_and hr0 h1)
      | (refine wpList_load_midg (by rfl) _ _ rfl w.heap.size 0 rfl n.cl _ (ndR (HRR.out _ (by assumption))) Try.underlying27 rfl ndI ?_)
      | (go_at_call 61; refine (HHd.out _).mono ?_; rintro e wh ⟨rfl, hh⟩; have h1 := low_and h1 hh))
      go_ret2
      rw [HR.out]
      exact ⟨⟨_, rfl, World.ownsRow_nil _ _ _ _⟩, low_and HB0.out h1⟩
    | false =>
      have HR := Lib.hid (show R = ([], 7) by rw [hP]; simp)
      clear hP hbb hfl
      go_enter Try.func32, Try.ntmps32
      go_wp2_with (first
      | (rw [← HWa.out]; (refine wpList_load_mid rfl _ _ rfl w.heap.size 0 rfl n.cl _ (ndR (HRR.out _ (by assumption))) Try.underlying27 rfl ndI ?_))
      | (refine wpList_load_mid rfl _ _ rfl w.heap.size 0 rfl n.cl _ (ndR (HRR.out _ (by assumption))) Try.underlying27 rfl ndI ?_)
      | (go_at_call 60; refine (HMy.out _).mono ?_; rintro e w1 ⟨rfl, h1⟩; have h1 := low_and hr0 h1)
      | (refine wpList_load_midg (by rfl) _ _ rfl w.heap.size 0 rfl n.cl _ (ndR (HRR.out _ (by assumption))) Try.underlying27 rfl ndI ?_)
      | (go_at_call 61; refine (HHd.out _).mono ?_; rintro e wh ⟨rfl, hh⟩; have h1 := low_and h1 hh))
      go_ret2
      rw [HR.out]
      exact ⟨⟨_, rfl, World.ownsRow_nil _ _ _ _⟩, low_and HB0.out h1⟩
end Go.Proofs.Ytbadlmicbbjkaaa
/- The document's Cut: of any node; conditions: numbers of the width. -/
namespace Go.Proofs.Ytbadlmicbbjkaaa
open Go.RowKit
set_option linter.unusedVariables false
set_option linter.unusedSimpArgs false
theorem ok_vp (n : Nd) (h : n.inv = -1) : n.vp = List.range n.len := by
  unfold Nd.vp Nd.vpTo
  exact List.filter_eq_self.2 (fun i hi => n.inv_neg h i (List.mem_range.1 hi))
theorem keys_up9 {n : Nd} (h : n.may 0 false = true) : (n.vp.map n.key).Pairwise (· < ·) := by
  have := ((riseB_iff _ _ _).1 (may_fit h).1.rise).2
  unfold Nd.es at this
  rw [List.map_map] at this
  exact this
theorem cut_len {n : Nd} (hm : n.may 0 false = true) (hi : n.inv = -1) {high : Int} {k : Nat} (hk : k ≤ n.len) (h1 : ∀ i, i < k → n.key i < high) (h2 : k < n.len → high ≤ n.key k) : (n.act high true).length = k := by
  have hup := keys_up9 hm
  rw [ok_vp n hi] at hup
  unfold Nd.act actL
  rw [List.length_map, ok_vp n hi]
  have hlt : ∀ d, k + d < n.len → n.key k ≤ n.key (k + d) := fun d hd => by
    cases d with
    | zero => exact Int.le_refl _
    | succ d =>
      have := List.pairwise_iff_getElem.1 hup k (k + (d + 1)) (by simp; omega) (by simp; omega) (by omega)
      simp only [List.getElem_map, List.getElem_range] at this
      omega
  obtain ⟨c, hc⟩ : ∃ c, n.len = k + c := ⟨n.len - k, by omega⟩
  rw [hc] at hlt h2 ⊢
  rw [List.range_add, List.filter_append, List.length_append, List.filter_eq_self.2 (fun i hi => by simp [Nd.inB, h1 i (List.mem_range.1 hi)]), List.filter_eq_nil_iff.2 (fun j hj => by
    obtain ⟨d, hd, rfl⟩ := List.mem_map.1 hj
    have hd := List.mem_range.1 hd
    have := hlt d (by omega)
    have := h2 (by omega)
    simp [Nd.inB]
    omega)]
  simp
theorem refE_zero {b : Int} {n : Nd} (h : refE b n [] = 0) : n.may 0 false = true ∧ n.inv = -1 := by
  rw [refE_cases] at h
  have hneg : ¬ 0 ≤ n.inv → n.inv = -1 := fun hi => by
    unfold Nd.inv at hi ⊢
    split
    · rename_i j hj
      rw [hj] at hi
      simp at hi
    · rfl
  cases hb : bOk b <;> cases hm : n.may 0 false <;> simp [hb, hm] at h
  exact ⟨rfl, hneg (by omega)⟩
set_option maxRecDepth 100000 in
set_option maxHeartbeats 8000000 in
theorem r9cut_any {base : Int} (hb : 0 ≤ base) (n : Nd) (high : Int) (w : World) : Calls Try.prog 33 #[.int .u64 base, n.V, .int .u64 high] w (PutsOut w (cutP base n high)) := by
  obtain ⟨i0, hi, hz0, hz1, hz2⟩ := info_parts infoPut
  have r0 := Row.new w 27 n.cl.toArray
  obtain ⟨Wa, hWa⟩ : ∃ Wa, Wa = w.alloc (.cells n.cl.toArray 27) := ⟨_, rfl⟩
  rw [← hWa] at r0
  have hb0 : Below w.heap.size w Wa := by rw [hWa]; exact alloc_low _ _
  have HB0 := Lib.hid hb0
  have HRR := Lib.hid (fun W' (hb : Below Wa.heap.size Wa W') => (show NdAt W' w.heap.size n from r0.below hb r0.lt))
  have HWa := Lib.hid hWa
  have HWs := Lib.hid (show w.heap.size ≤ Wa.heap.size from hb0.size)
  have hl8 := n.len_le
  have hr0 := Below.refl Wa.heap.size Wa
  have HMy := Lib.hid (fun W' => r9may_any hb n W')
  have EGp := Lib.hid (enters_of Try.func38 (by kernel_rfl) rfl)
  have EGa := Lib.hid (enters_of Try.func64 (by kernel_rfl) rfl)
  have EGg := Lib.hid (enters_of Try.func66 (by kernel_rfl) rfl)
  have EGw := Lib.hid (enters_of Try.func65 (by kernel_rfl) rfl)
  have EGi := Lib.hid (enters_of Try.func18 (by kernel_rfl) rfl)
  have hP : cutP base n high = (if refE base n [] ≠ 0 then ([], refE base n []) else if (n.act high true).length = n.len then ([], 5) else (wholeL base n [(pA base (n.act high true).length, 0)], 0)) := rfl
  have hbb := fun h => refE_base (b := base) (n := n) (l := []) h
  have hzz := fun h => refE_zero (b := base) (n := n) h
  generalize hR : cutP base n high = R at hP ⊢
  generalize refE base n [] = E at HMy hP hbb hzz
  clear r0 hWa hb0 hR
  obtain hE | hE : E ≠ 0 ∨ E = 0 := by omega
  · have HR := Lib.hid (show R = ([], E) by rw [hP, if_pos hE])
    have hEb : (E != 0) = true := by simpa using hE
    clear hP hbb hzz
    go_enter Try.func33, Try.ntmps33
    go_wp2_with (first
      | (rw [← HWa.out]; (refine wpList_load_mid rfl _ _ rfl w.heap.size 0 rfl n.cl _ (ndR (HRR.out _ (by assumption))) Try.underlying27 rfl ndI ?_))
      | (refine wpList_load_mid rfl _ _ rfl w.heap.size 0 rfl n.cl _ (ndR (HRR.out _ (by assumption))) Try.underlying27 rfl ndI ?_)
      | (go_at_call 60; refine (HMy.out _).mono ?_; rintro e w1 ⟨rfl, h1⟩; have h1 := low_and hr0 h1))
    go_ret2
    rw [HR.out]
    exact ⟨⟨_, rfl, World.ownsRow_nil _ _ _ _⟩, low_and HB0.out h1⟩
  · subst hE
    rw [if_neg (by simp)] at hP
    have hbse := hbb rfl
    obtain ⟨hmay, hinv⟩ := hzz rfl
    have HC := Lib.hid (fun (k : Nat) (h0 : k ≤ n.len) h1 h2 => cut_len hmay hinv (high := high) h0 h1 h2)
    have HP := Lib.hid hP
    have HL := Lib.hid (fun W' => r8Len_any n W')
    clear hbb hzz hP hmay hinv
    go_enter Try.func33, Try.ntmps33
    go_wp2_with (first
      | (rw [← HWa.out]; (refine wpList_load_mid rfl _ _ rfl w.heap.size 0 rfl n.cl _ (ndR (HRR.out _ (by assumption))) Try.underlying27 rfl ndI ?_))
      | (refine wpList_load_mid rfl _ _ rfl w.heap.size 0 rfl n.cl _ (ndR (HRR.out _ (by assumption))) Try.underlying27 rfl ndI ?_)
      | (go_at_call 60; refine (HMy.out _).mono ?_; rintro e w1 ⟨rfl, h1⟩; have h1 := low_and hr0 h1))
    go_loopw [9] (fun i wr => ∃ k : Nat, k ≤ n.len ∧ i = .int .i64 (k : Int) ∧ (∀ i, i < k → n.key i < high) ∧ Below Wa.heap.size Wa wr) (fun i _ => n.len - (intOf i).toNat)
    case atStart => exact ⟨0, by omega, rfl, fun i h => absurd h (Nat.not_lt_zero i), h1⟩
    case round =>
      rename World => wr
      obtain ⟨k, hk, rfl, hne, hb⟩ := hrel
      have HNE := Lib.hid hne
      clear hne
      by_cases hlt : k < n.len
      · have hk8 : (k : Int) < 8 := by omega
        have HKy := Lib.hid (fun W' (hb : Below Wa.heap.size Wa W') => ndAt_key (HRR.out W' hb) (i := k) (by omega))
        obtain ⟨y, hy⟩ : ∃ y, y = n.key k := ⟨_, rfl⟩
        rw [← hy] at HKy
        have HY := Lib.hid hy
        clear hy
        by_cases hyk : high ≤ y
        · have hyk' : ¬ y < high := by omega
          have HR := Lib.hid (show R = (wholeL base n [(pA base k, 0)], 0) by
            have hc := HC.out k hk HNE.out (fun _ => by rw [← HY.out]; exact hyk)
            rw [HP.out, hc, if_neg (by omega)])
          have HPt := Lib.hid (fun W => pt_any hbse (i := k) (by omega) W)
          have HWh := Lib.hid (fun W' v (h : EntAt W' v [(pA base k, 0)]) => whole_any hbse n h (by simp) (by simp))
          have HLit := Lib.hid (fun W' => (show EntAt (W'.alloc (.cells #[.int .u64 (pA base k), .int .u64 0] 45)) (.slice (some ⟨W'.heap.size, 0, none⟩) 1 1) [(pA base k, 0)] from ent_lit W' 45 [(pA base k, 0)] (by simp)))
          go_wp2_with (first
            | (refine wpList_load_mid rfl _ _ rfl w.heap.size 0 rfl n.cl _ (ndR (HRR.out _ (by assumption))) Try.underlying27 rfl ndI ?_)
            | (go_at_call 39; refine (HL.out _).mono ?_; rintro e w2 ⟨rfl, h2⟩; have h2 := low_and hb h2; have ck := HKy.out _ h2))
          refine wp_region_held_drew (S := fun W' => Below Wa.heap.size Wa W') (by kernel_rfl) (low_and h2 (drew_low9 _)) (fun hHeld => ?_)
          refine wpAnyH_take (i := 0) (oi := ⟨some 28, _, _, _, _, _⟩) (v := .int .u64 base) rfl (by kernel_rfl) (by kernel_rfl) (by kernel_rfl) (fun _ _ _ h => h) (Or.inl ⟨by rfl, by intro WW hSw; (try dsimp only at hSw); go_simp⟩) (by assumption) ?_
          (try simp only [Act.put, List.setIfInBounds_toArray, List.set_cons_zero, List.set_cons_succ])
          refine wpAnyH_take (i := 1) (oi := ⟨some 29, _, _, _, _, _⟩) (v := .agg n.cl.toArray) rfl (by kernel_rfl) (by kernel_rfl) (by kernel_rfl) (fun _ _ _ h => h) (yieldsIf_load_mid (by rfl) _ _ rfl w.heap.size 0 rfl n.cl _ (fun w' hw' => ndR (HRR.out _ hw')) Try.underlying27 rfl ndI) (by assumption) ?_
          (try simp only [Act.put, List.setIfInBounds_toArray, List.set_cons_zero, List.set_cons_succ])
          refine wpAnyH_take (i := 2) (oi := ⟨some 30, _, _, _, _, _⟩) (v := .int .u64 base) rfl (by kernel_rfl) (by kernel_rfl) (by kernel_rfl) (fun _ _ _ h => h) (Or.inl ⟨by rfl, by intro WW hSw; (try dsimp only at hSw); go_simp⟩) (by assumption) ?_
          (try simp only [Act.put, List.setIfInBounds_toArray, List.set_cons_zero, List.set_cons_succ])
          refine wpAnyH_take (i := 3) (oi := ⟨some 31, _, _, _, _, _⟩) (v := .int .i64 (k : Int)) rfl (by kernel_rfl) (by kernel_rfl) (by kernel_rfl) (fun _ _ _ h => h) (Or.inl ⟨by rfl, by intro WW hSw; (try dsimp only at hSw); go_simp⟩) (by assumption) ?_
          (try simp only [Act.put, List.setIfInBounds_toArray, List.set_cons_zero, List.set_cons_succ])
          refine wpAnyH_one (i := 4) (oi := ⟨some 32, _, _, _, _, _⟩) rfl (by kernel_rfl) (fun K hK => ?_)
          refine step_calls (by rfl) 38 EGp.out [.tmp 30, .tmp 31] _ rfl [.int .u64 base, .int .i64 (k : Int)] rfl (HPt.out _) ?_
          rintro e w3 ⟨rfl, rfl⟩
          refine ⟨_, rfl, hK _ _ (hHeld) (fun hSn => ?_)⟩
          clear hK K
          (try simp only [Act.put, List.setIfInBounds_toArray, List.set_cons_zero, List.set_cons_succ])
          refine wpAnyH_take (i := 5) (oi := ⟨some 33, _, _, _, _, _⟩) (v := .agg #[.int .u64 (pA base k), .int .u64 0]) rfl (by kernel_rfl) (by kernel_rfl) (by kernel_rfl) (fun _ _ _ h => h) (Or.inl ⟨by rfl, by intro WW hSw; (try dsimp only at hSw); go_simp⟩) (by assumption) ?_
          (try simp only [Act.put, List.setIfInBounds_toArray, List.set_cons_zero, List.set_cons_succ])
          refine wpAnyH_one (i := 6) (oi := ⟨some 34, _, _, _, _, _⟩) rfl (by kernel_rfl) (fun K hK => ?_)
          rw [if_pos (by rfl)]
          unfold Oper.wp
          go_simp
          refine hK _ _ (low_and h2 (low_and (alloc_low _ _) (drew_low9 _))) (fun hSn => ?_)
          clear hK K
          (try simp only [Act.put, List.setIfInBounds_toArray, List.set_cons_zero, List.set_cons_succ])
          refine wpAnyH_one (i := 7) (oi := ⟨some 35, _, _, _, _, _⟩) rfl (by kernel_rfl) (fun K hK => ?_)
          refine step_calls (by rfl) 65 EGw.out [.tmp 28, .tmp 29, .tmp 34] _ rfl [.int .u64 base, n.V, .slice (some ⟨w2.heap.size, 0, none⟩) 1 1] rfl (HWh.out _ _ ((HLit.out w2).low (drew_low9 _))) ?_
          rintro e w4 ⟨⟨v4, rfl, ho4⟩, h4⟩
          have g4 := low_and h2 (low_and (low_and (alloc_low _ _) (drew_low9 _)) h4)
          have hs2 := h2.size
          have hsa := HWs.out
          have HO4 := Lib.hid (ownS_mono ho4 (show w.heap.size ≤ _ by simp; omega))
          clear ho4
          refine ⟨_, rfl, hK _ _ (low_and h2 (low_and (low_and (alloc_low _ _) (drew_low9 _)) h4)) (fun hSn => ?_)⟩
          clear hK K
          (try simp only [Act.put, List.setIfInBounds_toArray, List.set_cons_zero, List.set_cons_succ])
          refine wpAnyH_take (i := 8) (oi := ⟨some 6, _, _, _, _, _⟩) (v := v4) rfl (by kernel_rfl) (by kernel_rfl) (by kernel_rfl) (fun _ _ _ h => h) (Or.inl ⟨by rfl, by intro WW hSw; (try dsimp only at hSw); go_simp⟩) (by assumption) ?_
          (try simp only [Act.put, List.setIfInBounds_toArray, List.set_cons_zero, List.set_cons_succ])
          refine wpAnyH_take (i := 9) (oi := ⟨some 7, _, _, _, _, _⟩) (v := .int .i64 0) rfl (by kernel_rfl) (by kernel_rfl) (by kernel_rfl) (fun _ _ _ h => h) (Or.inl ⟨by rfl, by intro WW hSw; (try dsimp only at hSw); go_simp⟩) (by assumption) ?_
          (try simp only [Act.put, List.setIfInBounds_toArray, List.set_cons_zero, List.set_cons_succ])
          refine wpAnyH_done (by kernel_rfl) ?_ _
          go_wp2
          go_ret2
          rw [HR.out]
          exact ⟨⟨_, rfl, HO4.out⟩, low_and HB0.out g4⟩
        · have hyk' : y < high := by omega
          go_wp2_with (first
            | (refine wpList_load_mid rfl _ _ rfl w.heap.size 0 rfl n.cl _ (ndR (HRR.out _ (by assumption))) Try.underlying27 rfl ndI ?_)
            | (go_at_call 39; refine (HL.out _).mono ?_; rintro e w2 ⟨rfl, h2⟩; have h2 := low_and hb h2; have ck := HKy.out _ h2))
          refine ⟨⟨k + 1, by omega, by go_num, fun i hi => ?_, h2⟩, by simp [intOf]; omega⟩
          obtain h | rfl : i < k ∨ i = k := by omega
          · exact HNE.out i h
          · rw [← HY.out]; exact hyk'
      · have hke : ¬ (k : Int) < n.len := by omega
        have HR := Lib.hid (show R = ([], 5) by
          have hc := HC.out k hk HNE.out (fun h => absurd h hlt)
          rw [HP.out, hc, if_pos (by omega)])
        go_wp2_with (first
          | (refine wpList_load_mid rfl _ _ rfl w.heap.size 0 rfl n.cl _ (ndR (HRR.out _ (by assumption))) Try.underlying27 rfl ndI ?_)
          | (go_at_call 39; refine (HL.out _).mono ?_; rintro e w2 ⟨rfl, h2⟩; have h2 := low_and hb h2))
        go_ret2
        rw [HR.out]
        exact ⟨⟨_, rfl, World.ownsRow_nil _ _ _ _⟩, low_and HB0.out h2⟩
end Go.Proofs.Ytbadlmicbbjkaaa
/- The document's Insert: of any node; conditions: numbers of the width. -/
namespace Go.Proofs.Ytbadlmicbbjkaaa
open Go.RowKit
set_option linter.unusedVariables false
set_option linter.unusedSimpArgs false
theorem may_l {n : Nd} (h : n.may 0 false = true) : 0 ≤ n.l := by
  unfold Nd.may at h
  simp only [Bool.and_eq_true, decide_eq_true_eq] at h
  omega
theorem show_load {P : Program} {ops : Array Oper} {rest : List Oper} {Q : Exit → Act → World → Prop} {d : Option Nat} {ty t2 : TypeId} {x : Operand} {ps : String} {af : Array Edge} {a : Act} {w : World} (h : wpList P ops Q (⟨d, .load ty x, t2, ps, af, none⟩ :: rest) a w) : wpList P ops Q (⟨d, .load ty x, t2, ps, af, none⟩ :: rest) a w := h
theorem flatE_three (a b c : Int × Int) : flatE [a, b, c] = [uw a.1, uw a.2, uw b.1, uw b.2, uw c.1, uw c.2] := rfl
set_option maxRecDepth 100000 in
set_option maxHeartbeats 8000000 in
theorem r9ins_any {base : Int} (hb : 0 ≤ base) (n : Nd) (key ptr : Int) (w : World) : Calls Try.prog 29 #[.int .u64 base, n.V, .int .u64 key, .int .u64 ptr] w (PutsOut w (insP base n key ptr)) := by
  obtain ⟨i0, hi, hz0, hz1, hz2⟩ := info_parts infoPut
  have r0 := Row.new w 27 n.cl.toArray
  obtain ⟨Wa, hWa⟩ : ∃ Wa, Wa = w.alloc (.cells n.cl.toArray 27) := ⟨_, rfl⟩
  rw [← hWa] at r0
  have hb0 : Below w.heap.size w Wa := by rw [hWa]; exact alloc_low _ _
  have HB0 := Lib.hid hb0
  have HRR := Lib.hid (fun W' (hb : Below Wa.heap.size Wa W') => (show NdAt W' w.heap.size n from r0.below hb r0.lt))
  have HWa := Lib.hid hWa
  have HWs := Lib.hid (show w.heap.size ≤ Wa.heap.size from hb0.size)
  have hl8 := n.len_le
  have hr0 := Below.refl Wa.heap.size Wa
  have HMy := Lib.hid (fun W' => r9may_any hb n W')
  have EGp := Lib.hid (enters_of Try.func38 (by kernel_rfl) rfl)
  have EGa := Lib.hid (enters_of Try.func64 (by kernel_rfl) rfl)
  have EGg := Lib.hid (enters_of Try.func66 (by kernel_rfl) rfl)
  have EGw := Lib.hid (enters_of Try.func65 (by kernel_rfl) rfl)
  have EGi := Lib.hid (enters_of Try.func18 (by kernel_rfl) rfl)
  have EGk := Lib.hid (enters_of Try.func37 (by kernel_rfl) rfl)
  have HHd := Lib.hid (fun W' => r9had_any n ptr W')
  have HFd0 := Lib.hid (fun W' => r8Find_any n key W')
  have HC0 := Lib.hid (fun W' (hb : Below Wa.heap.size Wa W') => (show W'.cell? ⟨w.heap.size, 0, none⟩ = some (.int .i64 n.l) from ndAt_at (HRR.out W' hb) 0))
  have HC1 := Lib.hid (fun W' (hb : Below Wa.heap.size Wa W') => (show W'.cell? ⟨w.heap.size, 1, none⟩ = some (.int .u64 n.lo) from ndAt_at (HRR.out W' hb) 1))
  have HL := Lib.hid (fun W' => r8Len_any n W')
  have HLa0 := Lib.hid (fun W' => r8Last_any n key W')
  have hP : insP base n key ptr = if refE base n [ptr] ≠ 0 then ([], refE base n [ptr]) else if ((n.find key).isSome || !n.mayHave key) = true then ([], 2) else if n.len = 8 then ([], 4) else (insL base n key ptr, 0) := rfl
  rw [refE_had] at hP
  have hbb := fun h => refE_base (b := base) (n := n) (l := []) h
  have hzz := fun h => may_l (refE_zero (b := base) (n := n) h).1
  have hvv := refE_vals base n
  have hfe : fndL n key n.vp = match n.find key with | some p => (p : Int) | none => -1 := rfl
  rw [hfe] at HFd0
  have hal := at_len n key
  have HMk := Lib.hid (show insL base n key ptr = wholeL base n ((if n.len < 7 then [(pA base (n.len + 1), 0)] else []) ++ (upN base n (n.at key) (n.len - n.at key) ++ [(pA base (n.at key), n.ahd (n.at key))]) ++ [(kA base (n.at key), key), (pA base (n.at key), ptr)]) from rfl)
  have HUL := Lib.hid (fun p c => upN_len base n p c)
  have hmh : n.mayHave key = (decide (n.lo < key) || (decide (key = n.lo) && decide (n.l = 0))) := rfl
  rw [hmh] at hP
  generalize insL base n key ptr = IL at hP HMk
  generalize n.find key = f at HFd0 hP
  generalize hR : insP base n key ptr = R at hP ⊢
  generalize refE base n [] = E at HMy hP hbb hvv hzz
  generalize n.had ptr = hd at HHd hP
  obtain ⟨p, hp⟩ : ∃ p, p = n.at key := ⟨_, rfl⟩
  rw [← hp] at HLa0 HMk hal
  have hwp : IntKind.i64.wrap ((p : Int) - 1 + 1) = (p : Int) := by rw [IntKind.wrap_i64]; omega
  clear r0 hWa hb0 hR hfe hp hmh
  rcases hvv with rfl | rfl | rfl
  · cases hd with
    | true =>
      have HR := Lib.hid (show R = ([], 2) by rw [hP]; simp)
      clear hP hbb hzz
      go_enter Try.func29, Try.ntmps29
      go_wp2_with (first
            | (rw [← HWa.out]; (refine wpList_load_mid rfl 27 _ rfl w.heap.size 0 rfl n.cl _ (ndR (HRR.out _ (by assumption))) Try.underlying27 rfl ndI ?_))
            | (refine wpList_load_mid rfl 27 _ rfl w.heap.size 0 rfl n.cl _ (ndR (HRR.out _ (by assumption))) Try.underlying27 rfl ndI ?_)
            | (go_at_call 60; refine (HMy.out _).mono ?_; rintro e w1 ⟨rfl, h1⟩; have h1 := low_and hr0 h1)
            | (refine wpList_load_midg (by rfl) 27 _ rfl w.heap.size 0 rfl n.cl _ (ndR (HRR.out _ (by assumption))) Try.underlying27 rfl ndI ?_)
            | (go_at_call 61; refine (HHd.out _).mono ?_; rintro e wh ⟨rfl, hh⟩; have h1 := low_and h1 hh))
      go_ret2
      rw [HR.out]
      exact ⟨⟨_, rfl, World.ownsRow_nil _ _ _ _⟩, low_and HB0.out h1⟩
    | false =>
      rw [if_neg (show ¬ ((0 : Int) = 2 ∨ false = true) by simp), if_neg (by simp)] at hP
      have hbse := hbb rfl
      have hl0 := hzz rfl
      clear hbb hzz
      cases f with
      | some x =>
        have HFd := Lib.hid (fun W' => (HFd0.out W').mono fun e w' h => (show e = .returned (.int .i64 (x : Int)) ∧ Below W'.heap.size W' w' from h))
        clear HFd0
        have hx0 : 0 ≤ (x : Int) := by omega
        have HR := Lib.hid (show R = ([], 2) by rw [hP]; simp)
        clear hP
        go_enter Try.func29, Try.ntmps29
        go_wp2_with (first
              | (rw [← HWa.out]; (refine wpList_load_mid rfl 27 _ rfl w.heap.size 0 rfl n.cl _ (ndR (HRR.out _ (by assumption))) Try.underlying27 rfl ndI ?_))
              | (refine wpList_load_mid rfl 27 _ rfl w.heap.size 0 rfl n.cl _ (ndR (HRR.out _ (by assumption))) Try.underlying27 rfl ndI ?_)
              | (go_at_call 60; refine (HMy.out _).mono ?_; rintro e w1 ⟨rfl, h1⟩; have h1 := low_and hr0 h1)
              | (refine wpList_load_midg (by rfl) 27 _ rfl w.heap.size 0 rfl n.cl _ (ndR (HRR.out _ (by assumption))) Try.underlying27 rfl ndI ?_)
              | (go_at_call 61; refine (HHd.out _).mono ?_; rintro e wh ⟨rfl, hh⟩; have h1 := low_and h1 hh))
        go_at_call 62
        refine (HFd.out _).mono ?_
        rintro e w2 ⟨rfl, h2⟩
        have h2 := low_and h1 h2
        have c0 := HC0.out _ h2
        have c1 := HC1.out _ h2
        go_wp2_with ((with_reducible refine show_load ?_); refine wpList_load_mid rfl 27 _ rfl w.heap.size 0 rfl n.cl _ (ndR (HRR.out _ (by assumption))) Try.underlying27 rfl ndI ?_)
        go_ret2
        rw [HR.out]
        exact ⟨⟨_, rfl, World.ownsRow_nil _ _ _ _⟩, low_and HB0.out h2⟩
      | none =>
        have HFd := Lib.hid (fun W' => (HFd0.out W').mono fun e w' h => (show e = .returned (.int .i64 (-1)) ∧ Below W'.heap.size W' w' from h))
        clear HFd0
        rw [show (none : Option Nat).isSome = false from rfl, Bool.false_or] at hP
        obtain ⟨lo, hlo⟩ : ∃ lo, lo = n.lo := ⟨_, rfl⟩
        obtain ⟨lv, hlv⟩ : ∃ lv, lv = n.l := ⟨_, rfl⟩
        rw [← hlo] at hP HC1
        rw [← hlv] at hP HC0 hl0
        clear hlo hlv
        obtain hA | hA : key < lo ∨ ¬ key < lo := by omega
        · have hA1 : ¬ lo < key := by omega
          have hA2 : ¬ key = lo := by omega
          have HR := Lib.hid (show R = ([], 2) by rw [hP]; simp [hA1, hA2])
          clear hP
          go_enter Try.func29, Try.ntmps29
          go_wp2_with (first
                | (rw [← HWa.out]; (refine wpList_load_mid rfl 27 _ rfl w.heap.size 0 rfl n.cl _ (ndR (HRR.out _ (by assumption))) Try.underlying27 rfl ndI ?_))
                | (refine wpList_load_mid rfl 27 _ rfl w.heap.size 0 rfl n.cl _ (ndR (HRR.out _ (by assumption))) Try.underlying27 rfl ndI ?_)
                | (go_at_call 60; refine (HMy.out _).mono ?_; rintro e w1 ⟨rfl, h1⟩; have h1 := low_and hr0 h1)
                | (refine wpList_load_midg (by rfl) 27 _ rfl w.heap.size 0 rfl n.cl _ (ndR (HRR.out _ (by assumption))) Try.underlying27 rfl ndI ?_)
                | (go_at_call 61; refine (HHd.out _).mono ?_; rintro e wh ⟨rfl, hh⟩; have h1 := low_and h1 hh))
          go_at_call 62
          refine (HFd.out _).mono ?_
          rintro e w2 ⟨rfl, h2⟩
          have h2 := low_and h1 h2
          have c0 := HC0.out _ h2
          have c1 := HC1.out _ h2
          go_wp2_with ((with_reducible refine show_load ?_); refine wpList_load_mid rfl 27 _ rfl w.heap.size 0 rfl n.cl _ (ndR (HRR.out _ (by assumption))) Try.underlying27 rfl ndI ?_)
          go_ret2
          rw [HR.out]
          exact ⟨⟨_, rfl, World.ownsRow_nil _ _ _ _⟩, low_and HB0.out h2⟩
        · obtain ⟨hB, hB2⟩ | hB : (0 < lv ∧ key = lo) ∨ ¬ (0 < lv ∧ key = lo) := by omega
          · subst hB2
            have hB3 : ¬ lv = 0 := by omega
            have HR := Lib.hid (show R = ([], 2) by rw [hP]; simp [hB3])
            clear hP
            go_enter Try.func29, Try.ntmps29
            go_wp2_with (first
                  | (rw [← HWa.out]; (refine wpList_load_mid rfl 27 _ rfl w.heap.size 0 rfl n.cl _ (ndR (HRR.out _ (by assumption))) Try.underlying27 rfl ndI ?_))
                  | (refine wpList_load_mid rfl 27 _ rfl w.heap.size 0 rfl n.cl _ (ndR (HRR.out _ (by assumption))) Try.underlying27 rfl ndI ?_)
                  | (go_at_call 60; refine (HMy.out _).mono ?_; rintro e w1 ⟨rfl, h1⟩; have h1 := low_and hr0 h1)
                  | (refine wpList_load_midg (by rfl) 27 _ rfl w.heap.size 0 rfl n.cl _ (ndR (HRR.out _ (by assumption))) Try.underlying27 rfl ndI ?_)
                  | (go_at_call 61; refine (HHd.out _).mono ?_; rintro e wh ⟨rfl, hh⟩; have h1 := low_and h1 hh))
            go_at_call 62
            refine (HFd.out _).mono ?_
            rintro e w2 ⟨rfl, h2⟩
            have h2 := low_and h1 h2
            have c0 := HC0.out _ h2
            have c1 := HC1.out _ h2
            go_wp2_with ((with_reducible refine show_load ?_); refine wpList_load_mid rfl 27 _ rfl w.heap.size 0 rfl n.cl _ (ndR (HRR.out _ (by assumption))) Try.underlying27 rfl ndI ?_)
            go_ret2
            rw [HR.out]
            exact ⟨⟨_, rfl, World.ownsRow_nil _ _ _ _⟩, low_and HB0.out h2⟩
          · have hmt : (!(decide (lo < key) || (decide (key = lo) && decide (lv = 0)))) = false := by
              obtain h | ⟨h, h2⟩ : lo < key ∨ (key = lo ∧ lv = 0) := by omega
              · simp [h]
              · simp [h, h2]
            rw [hmt, if_neg (by simp)] at hP
            have HP0 := Lib.hid hP
            clear hP hmt
            obtain ⟨q, hq⟩ : ∃ q, q = n.len := ⟨_, rfl⟩
            rw [← hq] at HP0 HMk hal HL hl8
            clear hq
            obtain ⟨hV, hV2⟩ | hV : (0 < lv ∧ ¬ key = lo) ∨ ¬ 0 < lv := by omega
            · have hV3 : (key == lo) = false := by simpa using hV2
              obtain hq8 | hq8 : q = 8 ∨ q < 8 := by omega
              · subst hq8
                have HR := Lib.hid (show R = ([], 4) by rw [HP0.out]; rfl)
                go_enter Try.func29, Try.ntmps29
                go_wp2_with (first
                      | (rw [← HWa.out]; (refine wpList_load_mid rfl 27 _ rfl w.heap.size 0 rfl n.cl _ (ndR (HRR.out _ (by assumption))) Try.underlying27 rfl ndI ?_))
                      | (refine wpList_load_mid rfl 27 _ rfl w.heap.size 0 rfl n.cl _ (ndR (HRR.out _ (by assumption))) Try.underlying27 rfl ndI ?_)
                      | (go_at_call 60; refine (HMy.out _).mono ?_; rintro e w1 ⟨rfl, h1⟩; have h1 := low_and hr0 h1)
                      | (refine wpList_load_midg (by rfl) 27 _ rfl w.heap.size 0 rfl n.cl _ (ndR (HRR.out _ (by assumption))) Try.underlying27 rfl ndI ?_)
                      | (go_at_call 61; refine (HHd.out _).mono ?_; rintro e wh ⟨rfl, hh⟩; have h1 := low_and h1 hh))
                go_at_call 62
                refine (HFd.out _).mono ?_
                rintro e w2 ⟨rfl, h2⟩
                have h2 := low_and h1 h2
                have c0 := HC0.out _ h2
                have c1 := HC1.out _ h2
                go_wp2_with ((with_reducible refine show_load ?_); refine wpList_load_mid rfl 27 _ rfl w.heap.size 0 rfl n.cl _ (ndR (HRR.out _ (by assumption))) Try.underlying27 rfl ndI ?_)
                go_at_call 39
                refine (HL.out _).mono ?_
                rintro e w3 ⟨rfl, h3⟩
                have h3 := low_and h2 h3
                go_wp2_with ((with_reducible refine show_load ?_); refine wpList_load_mid rfl 27 _ rfl w.heap.size 0 rfl n.cl _ (ndR (HRR.out _ (by assumption))) Try.underlying27 rfl ndI ?_)
                go_ret2
                rw [HR.out]
                exact ⟨⟨_, rfl, World.ownsRow_nil _ _ _ _⟩, low_and HB0.out h3⟩
              · have HP := Lib.hid (show R = (IL, 0) by rw [HP0.out, if_neg (by omega)])
                have hpq : p ≤ q := hal
                have hq8n : ¬ (q : Int) = 8 := by omega
                have hq8b : ((q : Int) == 8) = false := by simpa using hq8n
                have HLa := HLa0
                obtain hq7n | hq7n : q < 7 ∨ ¬ q < 7 := by omega
                · skip
                  have HPt1 := Lib.hid (fun W => pt_any hbse (i := q + 1) (by omega) W)
                  have hwq : IntKind.i64.wrap ((q : Int) + 1) = ((q + 1 : Nat) : Int) := by rw [IntKind.wrap_i64]; omega
                  have hq7 : (q : Int) < 7 := by omega
                  have HR := Lib.hid (show R = (wholeL base n ([(pA base (q + 1), 0)] ++ (upN base n p (q - p) ++ [(pA base p, n.ahd p)]) ++ [(kA base p, key), (pA base p, ptr)]), 0) by rw [HP.out, HMk.out]; simp [hq7n])
                  go_enter Try.func29, Try.ntmps29
                  go_wp2_with (first
                        | (rw [← HWa.out]; (refine wpList_load_mid rfl 27 _ rfl w.heap.size 0 rfl n.cl _ (ndR (HRR.out _ (by assumption))) Try.underlying27 rfl ndI ?_))
                        | (refine wpList_load_mid rfl 27 _ rfl w.heap.size 0 rfl n.cl _ (ndR (HRR.out _ (by assumption))) Try.underlying27 rfl ndI ?_)
                        | (go_at_call 60; refine (HMy.out _).mono ?_; rintro e w1 ⟨rfl, h1⟩; have h1 := low_and hr0 h1)
                        | (refine wpList_load_midg (by rfl) 27 _ rfl w.heap.size 0 rfl n.cl _ (ndR (HRR.out _ (by assumption))) Try.underlying27 rfl ndI ?_)
                        | (go_at_call 61; refine (HHd.out _).mono ?_; rintro e wh ⟨rfl, hh⟩; have h1 := low_and h1 hh))
                  go_at_call 62
                  refine (HFd.out _).mono ?_
                  rintro e w2 ⟨rfl, h2⟩
                  have h2 := low_and h1 h2
                  have c0 := HC0.out _ h2
                  have c1 := HC1.out _ h2
                  go_wp2_with ((with_reducible refine show_load ?_); refine wpList_load_mid rfl 27 _ rfl w.heap.size 0 rfl n.cl _ (ndR (HRR.out _ (by assumption))) Try.underlying27 rfl ndI ?_)
                  go_at_call 39
                  refine (HL.out _).mono ?_
                  rintro e w3 ⟨rfl, h3⟩
                  have h3 := low_and h2 h3
                  go_wp2_with ((with_reducible refine show_load ?_); refine wpList_load_mid rfl 27 _ rfl w.heap.size 0 rfl n.cl _ (ndR (HRR.out _ (by assumption))) Try.underlying27 rfl ndI ?_)
                  go_at_call 38
                  refine (HPt1.out _).mono ?_
                  rintro e w5 ⟨rfl, rfl⟩
                  go_wp2_with (first
                    | ((with_reducible refine show_load ?_); refine wpList_load_mid rfl 27 _ rfl w.heap.size 0 rfl n.cl _ (ndR (HRR.out _ (by assumption))) Try.underlying27 rfl ndI ?_)
                    | (at_builtin; refine wpList_append_own _ rfl _ _ 30 rfl Wa.heap.size 45 i0 (.agg #[.int .u64 0, .int .u64 0]) 2 16 Try.underlying30 hi hz0 hz1 hz2 rfl (by decide) _ 0 _ rfl (World.ownsRow_nil _ _ _ _) ⟨w3.heap.size, 0, none⟩ 1 1 [.int .u64 (pA base (q + 1)), .int .u64 0] rfl rfl ?q1 ?q2 ?q3 ?q4 ?q5 ?_))
                  case q1 =>
                    have hr := Row.new w3 45 #[.int .u64 (pA base (q + 1)), .int .u64 0]
                    intro j u hj
                    rw [Addr.add_lit, hr.cell, Nat.zero_add]
                    simpa using hj
                  case q2 => simp [Value.oneCell']
                  case q3 => unfold maxLen; omega
                  case q4 => omega
                  case q5 => have := h3.size; simp; omega
                  intro v' w4 hown hgrow hnil
                  have HO4 := Lib.hid hown
                  have HHH : Below Wa.heap.size Wa w4 := (low_and h3 (alloc_low _ _)).grown hgrow (by have := h3.size; simp; omega) (fun j hj => by cases hj)
                  clear hown hgrow hnil
                  go_wp2_with ((with_reducible refine show_load ?_); refine wpList_load_mid rfl 27 _ rfl w.heap.size 0 rfl n.cl _ (ndR (HRR.out _ (by assumption))) Try.underlying27 rfl ndI ?_)
                  go_at_call 63
                  refine (HLa.out _).mono ?_
                  rintro e wl ⟨rfl, hl⟩
                  have HLW := hl
                  have hl := low_and HHH hl
                  go_wp2_with ((with_reducible refine show_load ?_); refine wpList_load_mid rfl 27 _ rfl w.heap.size 0 rfl n.cl _ (ndR (HRR.out _ (by assumption))) Try.underlying27 rfl ndI ?_)
                  go_loopw [12, 14] (fun o i wr => ∃ k : Nat, p ≤ k ∧ k ≤ q ∧ i = .int .i64 (k : Int) ∧ ∃ m : List (Int × Int), m ++ upN base n p (k - p) = [(pA base (q + 1), 0)] ++ upN base n p (q - p) ∧ wr.ownsRow Wa.heap.size 45 2 o m.length (flatE m) ∧ m.length ≤ 1 + 2 * (q - k) ∧ Below Wa.heap.size Wa wr) (fun _ i _ => (intOf i).toNat)
                  case atStart => exact ⟨q, hpq, Nat.le_refl _, rfl, [(pA base (q + 1), 0)], rfl, ownS_low HO4.out HLW, by simp, hl⟩
                  case round =>
                    rename World => wr
                    obtain ⟨k, hpk, hkq, rfl, m, hm, ho, hml, hb⟩ := hrel
                    have HM := Lib.hid hm
                    have HO := Lib.hid ho
                    clear hm ho
                    by_cases hlt : p < k
                    · obtain ⟨j, rfl⟩ : ∃ j, k = j + 1 := ⟨k - 1, by omega⟩
                      have hki : (p : Int) < ((j + 1 : Nat) : Int) := by omega
                      have hwk : IntKind.i64.wrap (((j + 1 : Nat) : Int) - 1) = (j : Int) := by rw [IntKind.wrap_i64]; omega
                      have hwj : IntKind.i64.wrap (j : Int) = (j : Int) := by rw [IntKind.wrap_i64]; omega
                      have hwj1 : IntKind.i64.wrap ((j : Int) + 1 - 1) = (j : Int) := by rw [IntKind.wrap_i64]; omega
                      have hj8 : (j : Int) < 8 := by omega
                      have hj0 : ¬ (j : Int) < 0 := by omega
                      have HK := Lib.hid (fun W => (show Calls Try.prog 37 #[.int .u64 base, .int .i64 ((j : Int) + 1)] W fun e w' => e = .returned (.int .u64 (kA base (j + 1))) ∧ W = w' from kt_any hbse (i := j + 1) (by omega) W))
                      have HPt := Lib.hid (fun W => (show Calls Try.prog 38 #[.int .u64 base, .int .i64 ((j : Int) + 1)] W fun e w' => e = .returned (.int .u64 (pA base (j + 1))) ∧ W = w' from pt_any hbse (i := j + 1) (by omega) W))
                      have HST := Lib.hid (show upN base n p (j + 1 - p) = [(pA base (j + 1), n.ptr j), (kA base (j + 1), n.key j)] ++ upN base n p (j - p) by rw [show j + 1 - p = (j - p) + 1 by omega, upN, show p + (j - p) = j by omega] <;> rfl)
                      have hN := fun W' (hb : Below Wa.heap.size Wa W') => And.intro (ndAt_key (HRR.out W' hb) (i := j) (by omega)) (ndAt_ptr (HRR.out W' hb) (i := j) (by omega))
                      obtain ⟨y, hy⟩ : ∃ y, y = n.key j := ⟨_, rfl⟩
                      obtain ⟨z, hz⟩ : ∃ z, z = n.ptr j := ⟨_, rfl⟩
                      rw [← hy, ← hz] at HST hN
                      have STAY := Lib.hid (fun W' (hb : Below Wa.heap.size Wa W') => And.intro (hN W' hb).1 (And.intro (hN W' hb).2 hb))
                      clear hy hz hN
                      go_wp2_with fail
                      refine wp_region_held_drew (S := fun W' => W'.cell? ⟨w.heap.size, 5 + j, none⟩ = some (.int .u64 y) ∧ W'.cell? ⟨w.heap.size, 13 + j, none⟩ = some (.int .u64 z) ∧ Below Wa.heap.size Wa W') (by kernel_rfl) (STAY.out _ (low_and hb (drew_low9 _))) (fun hHeld => ?_)
                      refine wpAnyH_take (i := 0) (oi := ⟨some 73, _, _, _, _, _⟩) (v := u12) rfl (by kernel_rfl) (by kernel_rfl) (by kernel_rfl) (fun _ _ _ h => h) (Or.inl ⟨by rfl, by intro WW hSw; (try dsimp only at hSw); go_simp⟩) (by assumption) ?_
                      (try simp only [Act.put, List.setIfInBounds_toArray, List.set_cons_zero, List.set_cons_succ])
                      refine wpAnyH_take (i := 1) (oi := ⟨some 74, _, _, _, _, _⟩) (v := .int .u64 base) rfl (by kernel_rfl) (by kernel_rfl) (by kernel_rfl) (fun _ _ _ h => h) (Or.inl ⟨by rfl, by intro WW hSw; (try dsimp only at hSw); go_simp⟩) (by assumption) ?_
                      (try simp only [Act.put, List.setIfInBounds_toArray, List.set_cons_zero, List.set_cons_succ])
                      refine wpAnyH_take (i := 2) (oi := ⟨some 75, _, _, _, _, _⟩) (v := .int .i64 ((j : Int) + 1)) rfl (by kernel_rfl) (by kernel_rfl) (by kernel_rfl) (fun _ _ _ h => h) (Or.inl ⟨by rfl, by intro WW hSw; (try dsimp only at hSw); go_simp⟩) (by assumption) ?_
                      (try simp only [Act.put, List.setIfInBounds_toArray, List.set_cons_zero, List.set_cons_succ])
                      refine wpAnyH_take (i := 4) (oi := ⟨some 77, _, _, _, _, _⟩) (v := .int .i64 ((j : Int) + 1)) rfl (by kernel_rfl) (by kernel_rfl) (by kernel_rfl) (fun _ _ _ h => h) (Or.inl ⟨by rfl, by intro WW hSw; (try dsimp only at hSw); go_simp⟩) (by assumption) ?_
                      (try simp only [Act.put, List.setIfInBounds_toArray, List.set_cons_zero, List.set_cons_succ])
                      refine wpAnyH_take (i := 5) (oi := ⟨some 78, _, _, _, _, _⟩) (v := .int .i64 (j : Int)) rfl (by kernel_rfl) (by kernel_rfl) (by kernel_rfl) (fun _ _ _ h => h) (Or.inl ⟨by rfl, by intro WW hSw; (try dsimp only at hSw); go_simp⟩) (by assumption) ?_
                      (try simp only [Act.put, List.setIfInBounds_toArray, List.set_cons_zero, List.set_cons_succ])
                      refine wpAnyH_take (i := 6) (oi := ⟨some 79, _, _, _, _, _⟩) (v := .pointer (some ⟨w.heap.size, 13, none⟩)) rfl (by kernel_rfl) (by kernel_rfl) (by kernel_rfl) (fun _ _ _ h => h) (Or.inl ⟨by rfl, by intro WW hSw; (try dsimp only at hSw); go_simp⟩) (by assumption) ?_
                      (try simp only [Act.put, List.setIfInBounds_toArray, List.set_cons_zero, List.set_cons_succ])
                      refine wpAnyH_take (i := 7) (oi := ⟨some 80, _, _, _, _, _⟩) (v := .pointer (some ⟨w.heap.size, 13 + j, none⟩)) rfl (by kernel_rfl) (by kernel_rfl) (by kernel_rfl) (fun _ _ _ h => h) (Or.inl ⟨by rfl, by intro WW hSw; (try dsimp only at hSw); go_simp⟩) (by assumption) ?_
                      (try simp only [Act.put, List.setIfInBounds_toArray, List.set_cons_zero, List.set_cons_succ])
                      refine wpAnyH_take (i := 8) (oi := ⟨some 81, _, _, _, _, _⟩) (v := .int .u64 z) rfl (by kernel_rfl) (by kernel_rfl) (by kernel_rfl) (fun _ _ _ h => h) (Or.inl ⟨by rfl, by intro WW hSw; (try dsimp only at hSw); go_simp⟩) (by assumption) ?_
                      (try simp only [Act.put, List.setIfInBounds_toArray, List.set_cons_zero, List.set_cons_succ])
                      refine wpAnyH_take (i := 10) (oi := ⟨some 83, _, _, _, _, _⟩) (v := .int .u64 base) rfl (by kernel_rfl) (by kernel_rfl) (by kernel_rfl) (fun _ _ _ h => h) (Or.inl ⟨by rfl, by intro WW hSw; (try dsimp only at hSw); go_simp⟩) (by assumption) ?_
                      (try simp only [Act.put, List.setIfInBounds_toArray, List.set_cons_zero, List.set_cons_succ])
                      refine wpAnyH_take (i := 11) (oi := ⟨some 84, _, _, _, _, _⟩) (v := .int .i64 ((j : Int) + 1)) rfl (by kernel_rfl) (by kernel_rfl) (by kernel_rfl) (fun _ _ _ h => h) (Or.inl ⟨by rfl, by intro WW hSw; (try dsimp only at hSw); go_simp⟩) (by assumption) ?_
                      (try simp only [Act.put, List.setIfInBounds_toArray, List.set_cons_zero, List.set_cons_succ])
                      refine wpAnyH_take (i := 13) (oi := ⟨some 86, _, _, _, _, _⟩) (v := .int .i64 ((j : Int) + 1)) rfl (by kernel_rfl) (by kernel_rfl) (by kernel_rfl) (fun _ _ _ h => h) (Or.inl ⟨by rfl, by intro WW hSw; (try dsimp only at hSw); go_simp⟩) (by assumption) ?_
                      (try simp only [Act.put, List.setIfInBounds_toArray, List.set_cons_zero, List.set_cons_succ])
                      refine wpAnyH_take (i := 14) (oi := ⟨some 87, _, _, _, _, _⟩) (v := .int .i64 (j : Int)) rfl (by kernel_rfl) (by kernel_rfl) (by kernel_rfl) (fun _ _ _ h => h) (Or.inl ⟨by rfl, by intro WW hSw; (try dsimp only at hSw); go_simp⟩) (by assumption) ?_
                      (try simp only [Act.put, List.setIfInBounds_toArray, List.set_cons_zero, List.set_cons_succ])
                      refine wpAnyH_take (i := 15) (oi := ⟨some 88, _, _, _, _, _⟩) (v := .pointer (some ⟨w.heap.size, 5, none⟩)) rfl (by kernel_rfl) (by kernel_rfl) (by kernel_rfl) (fun _ _ _ h => h) (Or.inl ⟨by rfl, by intro WW hSw; (try dsimp only at hSw); go_simp⟩) (by assumption) ?_
                      (try simp only [Act.put, List.setIfInBounds_toArray, List.set_cons_zero, List.set_cons_succ])
                      refine wpAnyH_take (i := 16) (oi := ⟨some 89, _, _, _, _, _⟩) (v := .pointer (some ⟨w.heap.size, 5 + j, none⟩)) rfl (by kernel_rfl) (by kernel_rfl) (by kernel_rfl) (fun _ _ _ h => h) (Or.inl ⟨by rfl, by intro WW hSw; (try dsimp only at hSw); go_simp⟩) (by assumption) ?_
                      (try simp only [Act.put, List.setIfInBounds_toArray, List.set_cons_zero, List.set_cons_succ])
                      refine wpAnyH_take (i := 17) (oi := ⟨some 90, _, _, _, _, _⟩) (v := .int .u64 y) rfl (by kernel_rfl) (by kernel_rfl) (by kernel_rfl) (fun _ _ _ h => h) (Or.inl ⟨by rfl, by intro WW hSw; (try dsimp only at hSw); go_simp⟩) (by assumption) ?_
                      (try simp only [Act.put, List.setIfInBounds_toArray, List.set_cons_zero, List.set_cons_succ])
                      refine wpAnyH_one (i := 3) (oi := ⟨some 76, _, _, _, _, _⟩) rfl (by kernel_rfl) (fun K hK => ?_)
                      refine step_calls (by rfl) 38 EGp.out [.tmp 74, .tmp 75] _ rfl [.int .u64 base, .int .i64 ((j : Int) + 1)] rfl (HPt.out _) ?_
                      rintro e w5 ⟨rfl, rfl⟩
                      refine ⟨_, rfl, hK _ _ (hHeld) (fun hSn => ?_)⟩
                      clear hK K
                      (try simp only [Act.put, List.setIfInBounds_toArray, List.set_cons_zero, List.set_cons_succ])
                      refine wpAnyH_take (i := 9) (oi := ⟨some 82, _, _, _, _, _⟩) (v := .agg #[.int .u64 (pA base (j + 1)), .int .u64 z]) rfl (by kernel_rfl) (by kernel_rfl) (by kernel_rfl) (fun _ _ _ h => h) (Or.inl ⟨by rfl, by intro WW hSw; (try dsimp only at hSw); go_simp⟩) (by assumption) ?_
                      (try simp only [Act.put, List.setIfInBounds_toArray, List.set_cons_zero, List.set_cons_succ])
                      refine wpAnyH_one (i := 12) (oi := ⟨some 85, _, _, _, _, _⟩) rfl (by kernel_rfl) (fun K hK => ?_)
                      refine step_calls (by rfl) 37 EGk.out [.tmp 83, .tmp 84] _ rfl [.int .u64 base, .int .i64 ((j : Int) + 1)] rfl (HK.out _) ?_
                      rintro e w6 ⟨rfl, rfl⟩
                      refine ⟨_, rfl, hK _ _ (hHeld) (fun hSn => ?_)⟩
                      clear hK K
                      (try simp only [Act.put, List.setIfInBounds_toArray, List.set_cons_zero, List.set_cons_succ])
                      refine wpAnyH_take (i := 18) (oi := ⟨some 91, _, _, _, _, _⟩) (v := .agg #[.int .u64 (kA base (j + 1)), .int .u64 y]) rfl (by kernel_rfl) (by kernel_rfl) (by kernel_rfl) (fun _ _ _ h => h) (Or.inl ⟨by rfl, by intro WW hSw; (try dsimp only at hSw); go_simp⟩) (by assumption) ?_
                      (try simp only [Act.put, List.setIfInBounds_toArray, List.set_cons_zero, List.set_cons_succ])
                      refine wpAnyH_one (i := 19) (oi := ⟨some 92, _, _, _, _, _⟩) rfl (by kernel_rfl) (fun K hK => ?_)
                      rw [if_pos (by rfl)]
                      unfold Oper.wp
                      go_simp
                      refine hK _ _ (STAY.out _ (low_and hb (low_and (alloc_low _ _) (drew_low9 _)))) (fun hSn => ?_)
                      clear hK K
                      (try simp only [Act.put, List.setIfInBounds_toArray, List.set_cons_zero, List.set_cons_succ])
                      refine wpAnyH_one (i := 20) (oi := ⟨some 93, _, _, _, _, _⟩) rfl (by kernel_rfl) (fun K hK => ?_)
                      refine step_append_lies _ (by rfl) (.tmp 73) (.tmp 92) _ (by rfl) Wa.heap.size 45 i0 (.agg #[.int .u64 0, .int .u64 0]) 2 16 rfl hi hz0 hz1 hz2 rfl (by decide) _ _ _ (by rfl) (ownS_low HO.out (low_and (alloc_low _ _) (drew_low9 _))) ⟨wr.heap.size, 0, none⟩ 2 2 [.int .u64 (pA base (j + 1)), .int .u64 z, .int .u64 (kA base (j + 1)), .int .u64 y] (by rfl) (by rfl) (World.news_of_block (cs := #[.int .u64 (pA base (j + 1)), .int .u64 z, .int .u64 (kA base (j + 1)), .int .u64 y]) (t := 45) (fr := (0, 0)) (heap_alloc_new9 _ _)) (by intro u hu; simp at hu; rcases hu with rfl | rfl | rfl | rfl <;> rfl) (by decide) (by unfold maxLen; omega) (by omega) (by simp; have := hb.size; omega) (wr.heap.size + 1) (by simp) ?_
                      intro g4 cap4 w4 hown hgrow hsm hlt4
                      have HO4 := Lib.hid hown
                      have HB4 := Lib.hid (show Below Wa.heap.size Wa w4 from (low_and hb (low_and (alloc_low _ _) (drew_low9 _))).grown hgrow (by have := hb.size; simp; omega) (fun j hj => (ownS_from HO.out j hj).1))
                      clear hown hgrow hsm hlt4
                      refine hK _ _ (STAY.out _ HB4.out) (fun hSn => ?_)
                      clear hK K
                      (try simp only [Act.put, List.setIfInBounds_toArray, List.set_cons_zero, List.set_cons_succ])
                      refine wpAnyH_take (i := 21) (oi := ⟨some 12, _, _, _, _, _⟩) (v := .slice (some ⟨g4, 0, none⟩) (m.length + 2) cap4) rfl (by kernel_rfl) (by kernel_rfl) (by kernel_rfl) (fun _ _ _ h => h) (Or.inl ⟨by rfl, by intro WW hSw; (try dsimp only at hSw); go_simp⟩) (by assumption) ?_
                      (try simp only [Act.put, List.setIfInBounds_toArray, List.set_cons_zero, List.set_cons_succ])
                      refine wpAnyH_done (by kernel_rfl) ?_ _
                      go_wp2
                      refine ⟨⟨j, by omega, by omega, by go_num, m ++ [(pA base (j + 1), z), (kA base (j + 1), y)], by rw [← HM.out, HST.out, List.append_assoc], ?_, by rw [List.length_append]; simp; omega, HB4.out⟩, by simp [intOf]⟩
                      rw [flatE_two, List.length_append]
                      exact HO4.out

                    · obtain rfl : k = p := by omega
                      have hki : ¬ (k : Int) < (k : Int) := by omega
                      have HK := Lib.hid (fun W => kt_any hbse (i := k) (by omega) W)
                      have HPt := Lib.hid (fun W => pt_any hbse (i := k) (by omega) W)
                      have HAh := Lib.hid (fun W' => r9ahead_any n (p := k) (by omega) W')
                      have HE := Lib.hid (show m = [(pA base (q + 1), 0)] ++ upN base n k (q - k) by rw [← HM.out, Nat.sub_self]; simp [upN])
                      generalize n.ahd k = ah at HAh HR
                      go_wp2_with fail
                      refine wp_region_held_drew (S := fun W' => Below Wa.heap.size Wa W') (by kernel_rfl) (low_and hb (drew_low9 _)) (fun hHeld => ?_)
                      refine wpAnyH_take (i := 0) (oi := ⟨some 94, _, _, _, _, _⟩) (v := u12) rfl (by kernel_rfl) (by kernel_rfl) (by kernel_rfl) (fun _ _ _ h => h) (Or.inl ⟨by rfl, by intro WW hSw; (try dsimp only at hSw); go_simp⟩) (by assumption) ?_
                      (try simp only [Act.put, List.setIfInBounds_toArray, List.set_cons_zero, List.set_cons_succ])
                      refine wpAnyH_take (i := 1) (oi := ⟨some 95, _, _, _, _, _⟩) (v := .int .u64 base) rfl (by kernel_rfl) (by kernel_rfl) (by kernel_rfl) (fun _ _ _ h => h) (Or.inl ⟨by rfl, by intro WW hSw; (try dsimp only at hSw); go_simp⟩) (by assumption) ?_
                      (try simp only [Act.put, List.setIfInBounds_toArray, List.set_cons_zero, List.set_cons_succ])
                      refine wpAnyH_take (i := 2) (oi := ⟨some 96, _, _, _, _, _⟩) (v := .int .i64 (k : Int)) rfl (by kernel_rfl) (by kernel_rfl) (by kernel_rfl) (fun _ _ _ h => h) (Or.inl ⟨by rfl, by intro WW hSw; (try dsimp only at hSw); go_simp⟩) (by assumption) ?_
                      (try simp only [Act.put, List.setIfInBounds_toArray, List.set_cons_zero, List.set_cons_succ])
                      refine wpAnyH_take (i := 4) (oi := ⟨some 98, _, _, _, _, _⟩) (v := .agg n.cl.toArray) rfl (by kernel_rfl) (by kernel_rfl) (by kernel_rfl) (fun _ _ _ h => h) (yieldsIf_load_mid (by rfl) _ _ rfl w.heap.size 0 rfl n.cl _ (fun w' hw' => ndR (HRR.out _ hw')) Try.underlying27 rfl ndI) (by assumption) ?_
                      (try simp only [Act.put, List.setIfInBounds_toArray, List.set_cons_zero, List.set_cons_succ])
                      refine wpAnyH_take (i := 5) (oi := ⟨some 99, _, _, _, _, _⟩) (v := .int .i64 (k : Int)) rfl (by kernel_rfl) (by kernel_rfl) (by kernel_rfl) (fun _ _ _ h => h) (Or.inl ⟨by rfl, by intro WW hSw; (try dsimp only at hSw); go_simp⟩) (by assumption) ?_
                      (try simp only [Act.put, List.setIfInBounds_toArray, List.set_cons_zero, List.set_cons_succ])
                      refine wpAnyH_take (i := 8) (oi := ⟨some 102, _, _, _, _, _⟩) (v := .int .u64 base) rfl (by kernel_rfl) (by kernel_rfl) (by kernel_rfl) (fun _ _ _ h => h) (Or.inl ⟨by rfl, by intro WW hSw; (try dsimp only at hSw); go_simp⟩) (by assumption) ?_
                      (try simp only [Act.put, List.setIfInBounds_toArray, List.set_cons_zero, List.set_cons_succ])
                      refine wpAnyH_take (i := 9) (oi := ⟨some 103, _, _, _, _, _⟩) (v := .int .i64 (k : Int)) rfl (by kernel_rfl) (by kernel_rfl) (by kernel_rfl) (fun _ _ _ h => h) (Or.inl ⟨by rfl, by intro WW hSw; (try dsimp only at hSw); go_simp⟩) (by assumption) ?_
                      (try simp only [Act.put, List.setIfInBounds_toArray, List.set_cons_zero, List.set_cons_succ])
                      refine wpAnyH_take (i := 11) (oi := ⟨some 105, _, _, _, _, _⟩) (v := .int .u64 key) rfl (by kernel_rfl) (by kernel_rfl) (by kernel_rfl) (fun _ _ _ h => h) (Or.inl ⟨by rfl, by intro WW hSw; (try dsimp only at hSw); go_simp⟩) (by assumption) ?_
                      (try simp only [Act.put, List.setIfInBounds_toArray, List.set_cons_zero, List.set_cons_succ])
                      refine wpAnyH_take (i := 13) (oi := ⟨some 107, _, _, _, _, _⟩) (v := .int .u64 base) rfl (by kernel_rfl) (by kernel_rfl) (by kernel_rfl) (fun _ _ _ h => h) (Or.inl ⟨by rfl, by intro WW hSw; (try dsimp only at hSw); go_simp⟩) (by assumption) ?_
                      (try simp only [Act.put, List.setIfInBounds_toArray, List.set_cons_zero, List.set_cons_succ])
                      refine wpAnyH_take (i := 14) (oi := ⟨some 108, _, _, _, _, _⟩) (v := .int .i64 (k : Int)) rfl (by kernel_rfl) (by kernel_rfl) (by kernel_rfl) (fun _ _ _ h => h) (Or.inl ⟨by rfl, by intro WW hSw; (try dsimp only at hSw); go_simp⟩) (by assumption) ?_
                      (try simp only [Act.put, List.setIfInBounds_toArray, List.set_cons_zero, List.set_cons_succ])
                      refine wpAnyH_take (i := 16) (oi := ⟨some 110, _, _, _, _, _⟩) (v := .int .u64 ptr) rfl (by kernel_rfl) (by kernel_rfl) (by kernel_rfl) (fun _ _ _ h => h) (Or.inl ⟨by rfl, by intro WW hSw; (try dsimp only at hSw); go_simp⟩) (by assumption) ?_
                      (try simp only [Act.put, List.setIfInBounds_toArray, List.set_cons_zero, List.set_cons_succ])
                      refine wpAnyH_one (i := 3) (oi := ⟨some 97, _, _, _, _, _⟩) rfl (by kernel_rfl) (fun K hK => ?_)
                      refine step_calls (by rfl) 38 EGp.out [.tmp 95, .tmp 96] _ rfl [.int .u64 base, .int .i64 (k : Int)] rfl (HPt.out _) ?_
                      rintro e w5 ⟨rfl, rfl⟩
                      refine ⟨_, rfl, hK _ _ (hHeld) (fun hSn => ?_)⟩
                      clear hK K
                      (try simp only [Act.put, List.setIfInBounds_toArray, List.set_cons_zero, List.set_cons_succ])
                      refine wpAnyH_one (i := 6) (oi := ⟨some 100, _, _, _, _, _⟩) rfl (by kernel_rfl) (fun K hK => ?_)
                      refine step_calls (by rfl) 64 EGa.out [.tmp 98, .tmp 99] _ rfl [n.V, .int .i64 (k : Int)] rfl (HAh.out _) ?_
                      rintro e w5 ⟨rfl, h5⟩
                      have g5 := low_and hHeld h5
                      have HO5 := Lib.hid (ownS_low HO.out (low_and (drew_low9 _) h5))
                      refine ⟨_, rfl, hK _ _ (g5) (fun hSn => ?_)⟩
                      clear hK K
                      (try simp only [Act.put, List.setIfInBounds_toArray, List.set_cons_zero, List.set_cons_succ])
                      refine wpAnyH_take (i := 7) (oi := ⟨some 101, _, _, _, _, _⟩) (v := .agg #[.int .u64 (pA base k), .int .u64 ah]) rfl (by kernel_rfl) (by kernel_rfl) (by kernel_rfl) (fun _ _ _ h => h) (Or.inl ⟨by rfl, by intro WW hSw; (try dsimp only at hSw); go_simp⟩) (by assumption) ?_
                      (try simp only [Act.put, List.setIfInBounds_toArray, List.set_cons_zero, List.set_cons_succ])
                      refine wpAnyH_one (i := 10) (oi := ⟨some 104, _, _, _, _, _⟩) rfl (by kernel_rfl) (fun K hK => ?_)
                      refine step_calls (by rfl) 37 EGk.out [.tmp 102, .tmp 103] _ rfl [.int .u64 base, .int .i64 (k : Int)] rfl (HK.out _) ?_
                      rintro e w6 ⟨rfl, rfl⟩
                      refine ⟨_, rfl, hK _ _ (g5) (fun hSn => ?_)⟩
                      clear hK K
                      (try simp only [Act.put, List.setIfInBounds_toArray, List.set_cons_zero, List.set_cons_succ])
                      refine wpAnyH_take (i := 12) (oi := ⟨some 106, _, _, _, _, _⟩) (v := .agg #[.int .u64 (kA base k), .int .u64 key]) rfl (by kernel_rfl) (by kernel_rfl) (by kernel_rfl) (fun _ _ _ h => h) (Or.inl ⟨by rfl, by intro WW hSw; (try dsimp only at hSw); go_simp⟩) (by assumption) ?_
                      (try simp only [Act.put, List.setIfInBounds_toArray, List.set_cons_zero, List.set_cons_succ])
                      refine wpAnyH_one (i := 15) (oi := ⟨some 109, _, _, _, _, _⟩) rfl (by kernel_rfl) (fun K hK => ?_)
                      refine step_calls (by rfl) 38 EGp.out [.tmp 107, .tmp 108] _ rfl [.int .u64 base, .int .i64 (k : Int)] rfl (HPt.out _) ?_
                      rintro e w6 ⟨rfl, rfl⟩
                      refine ⟨_, rfl, hK _ _ (g5) (fun hSn => ?_)⟩
                      clear hK K
                      (try simp only [Act.put, List.setIfInBounds_toArray, List.set_cons_zero, List.set_cons_succ])
                      refine wpAnyH_take (i := 17) (oi := ⟨some 111, _, _, _, _, _⟩) (v := .agg #[.int .u64 (pA base k), .int .u64 ptr]) rfl (by kernel_rfl) (by kernel_rfl) (by kernel_rfl) (fun _ _ _ h => h) (Or.inl ⟨by rfl, by intro WW hSw; (try dsimp only at hSw); go_simp⟩) (by assumption) ?_
                      (try simp only [Act.put, List.setIfInBounds_toArray, List.set_cons_zero, List.set_cons_succ])
                      refine wpAnyH_one (i := 18) (oi := ⟨some 112, _, _, _, _, _⟩) rfl (by kernel_rfl) (fun K hK => ?_)
                      rw [if_pos (by rfl)]
                      unfold Oper.wp
                      go_simp
                      refine hK _ _ (low_and g5 (alloc_low _ _)) (fun hSn => ?_)
                      clear hK K
                      (try simp only [Act.put, List.setIfInBounds_toArray, List.set_cons_zero, List.set_cons_succ])
                      refine wpAnyH_one (i := 19) (oi := ⟨some 113, _, _, _, _, _⟩) rfl (by kernel_rfl) (fun K hK => ?_)
                      refine step_append_lies _ (by rfl) (.tmp 94) (.tmp 112) _ (by rfl) Wa.heap.size 45 i0 (.agg #[.int .u64 0, .int .u64 0]) 2 16 rfl hi hz0 hz1 hz2 rfl (by decide) _ _ _ (by rfl) (ownS_low HO5.out (alloc_low _ _)) ⟨w5.heap.size, 0, none⟩ 3 3 [.int .u64 (pA base k), .int .u64 ah, .int .u64 (kA base k), .int .u64 key, .int .u64 (pA base k), .int .u64 ptr] (by rfl) (by rfl) (World.news_of_block (cs := #[.int .u64 (pA base k), .int .u64 ah, .int .u64 (kA base k), .int .u64 key, .int .u64 (pA base k), .int .u64 ptr]) (t := 45) (fr := (0, 0)) (heap_alloc_new9 _ _)) (by intro u hu; simp at hu; rcases hu with rfl | rfl | rfl | rfl | rfl | rfl <;> rfl) (by decide) (by unfold maxLen; omega) (by omega) (by simp; have := g5.size; omega) (w5.heap.size + 1) (by simp) ?_
                      intro g4 cap4 w4 hown hgrow hsm hlt4
                      have HB4 := Lib.hid (show Below Wa.heap.size Wa w4 from (low_and g5 (alloc_low _ _)).grown hgrow (by have := g5.size; simp; omega) (fun j hj => (ownS_from HO5.out j hj).1))
                      have h6 : w4.ownsRow Wa.heap.size 45 2 (.slice (some ⟨g4, 0, none⟩) (m.length + 3) cap4) (m ++ [(pA base k, ah), (kA base k, key), (pA base k, ptr)]).length (flatE (m ++ [(pA base k, ah), (kA base k, key), (pA base k, ptr)])) := by
                        rw [List.length_append, flatE_app]
                        exact hown
                      have HE6 := Lib.hid (ent_ownG h6)
                      clear hown hgrow hsm hlt4 h6
                      refine hK _ _ (HB4.out) (fun hSn => ?_)
                      clear hK K
                      (try simp only [Act.put, List.setIfInBounds_toArray, List.set_cons_zero, List.set_cons_succ])
                      refine wpAnyH_take (i := 20) (oi := ⟨some 12, _, _, _, _, _⟩) (v := .slice (some ⟨g4, 0, none⟩) (m.length + 3) cap4) rfl (by kernel_rfl) (by kernel_rfl) (by kernel_rfl) (fun _ _ _ h => h) (Or.inl ⟨by rfl, by intro WW hSw; (try dsimp only at hSw); go_simp⟩) (by assumption) ?_
                      (try simp only [Act.put, List.setIfInBounds_toArray, List.set_cons_zero, List.set_cons_succ])
                      refine wpAnyH_done (by kernel_rfl) ?_ _
                      have hb4 := HB4.out
                      have HWh := Lib.hid (whole_any hbse n HE6.out (by simp) (by simp; omega))
                      go_wp2_with ((with_reducible refine show_load ?_); refine wpList_load_mid rfl 27 _ rfl w.heap.size 0 rfl n.cl _ (ndR (HRR.out _ (by assumption))) Try.underlying27 rfl ndI ?_)
                      go_at_call 65
                      refine HWh.out.mono ?_
                      rintro e w7 ⟨⟨v7, rfl, ho7⟩, h7⟩
                      have g7 := low_and hb4 h7
                      have HO7 := Lib.hid (ownS_mono ho7 (show w.heap.size ≤ w4.heap.size from Nat.le_trans HWs.out hb4.size))
                      clear ho7
                      go_wp2
                      go_ret2
                      rw [HR.out, show ([(pA base (q + 1), 0)] ++ (upN base n k (q - k) ++ [(pA base k, ah)]) ++ [(kA base k, key), (pA base k, ptr)]) = m ++ [(pA base k, ah), (kA base k, key), (pA base k, ptr)] by rw [HE.out]; simp]
                      exact ⟨⟨_, rfl, HO7.out⟩, low_and HB0.out g7⟩
                · skip
                  have HPt1 := Lib.hid (fun W => pt_any hbse (i := q + 1) (by omega) W)
                  have hwq : IntKind.i64.wrap ((q : Int) + 1) = ((q + 1 : Nat) : Int) := by rw [IntKind.wrap_i64]; omega
                  have hq7 : ¬ (q : Int) < 7 := by omega
                  have HR := Lib.hid (show R = (wholeL base n (([] : List (Int × Int)) ++ (upN base n p (q - p) ++ [(pA base p, n.ahd p)]) ++ [(kA base p, key), (pA base p, ptr)]), 0) by rw [HP.out, HMk.out]; simp [hq7n])
                  go_enter Try.func29, Try.ntmps29
                  go_wp2_with (first
                        | (rw [← HWa.out]; (refine wpList_load_mid rfl 27 _ rfl w.heap.size 0 rfl n.cl _ (ndR (HRR.out _ (by assumption))) Try.underlying27 rfl ndI ?_))
                        | (refine wpList_load_mid rfl 27 _ rfl w.heap.size 0 rfl n.cl _ (ndR (HRR.out _ (by assumption))) Try.underlying27 rfl ndI ?_)
                        | (go_at_call 60; refine (HMy.out _).mono ?_; rintro e w1 ⟨rfl, h1⟩; have h1 := low_and hr0 h1)
                        | (refine wpList_load_midg (by rfl) 27 _ rfl w.heap.size 0 rfl n.cl _ (ndR (HRR.out _ (by assumption))) Try.underlying27 rfl ndI ?_)
                        | (go_at_call 61; refine (HHd.out _).mono ?_; rintro e wh ⟨rfl, hh⟩; have h1 := low_and h1 hh))
                  go_at_call 62
                  refine (HFd.out _).mono ?_
                  rintro e w2 ⟨rfl, h2⟩
                  have h2 := low_and h1 h2
                  have c0 := HC0.out _ h2
                  have c1 := HC1.out _ h2
                  go_wp2_with ((with_reducible refine show_load ?_); refine wpList_load_mid rfl 27 _ rfl w.heap.size 0 rfl n.cl _ (ndR (HRR.out _ (by assumption))) Try.underlying27 rfl ndI ?_)
                  go_at_call 39
                  refine (HL.out _).mono ?_
                  rintro e w3 ⟨rfl, h3⟩
                  have h3 := low_and h2 h3
                  go_wp2_with ((with_reducible refine show_load ?_); refine wpList_load_mid rfl 27 _ rfl w.heap.size 0 rfl n.cl _ (ndR (HRR.out _ (by assumption))) Try.underlying27 rfl ndI ?_)
                  go_at_call 63
                  refine (HLa.out _).mono ?_
                  rintro e wl ⟨rfl, hl⟩
                  have HLW := hl
                  have hl := low_and h3 hl
                  go_wp2_with ((with_reducible refine show_load ?_); refine wpList_load_mid rfl 27 _ rfl w.heap.size 0 rfl n.cl _ (ndR (HRR.out _ (by assumption))) Try.underlying27 rfl ndI ?_)
                  go_loopw [12, 14] (fun o i wr => ∃ k : Nat, p ≤ k ∧ k ≤ q ∧ i = .int .i64 (k : Int) ∧ ∃ m : List (Int × Int), m ++ upN base n p (k - p) = ([] : List (Int × Int)) ++ upN base n p (q - p) ∧ wr.ownsRow Wa.heap.size 45 2 o m.length (flatE m) ∧ m.length ≤ 1 + 2 * (q - k) ∧ Below Wa.heap.size Wa wr) (fun _ i _ => (intOf i).toNat)
                  case atStart => exact ⟨q, hpq, Nat.le_refl _, rfl, [], rfl, World.ownsRow_nil _ _ _ _, by simp, hl⟩
                  case round =>
                    rename World => wr
                    obtain ⟨k, hpk, hkq, rfl, m, hm, ho, hml, hb⟩ := hrel
                    have HM := Lib.hid hm
                    have HO := Lib.hid ho
                    clear hm ho
                    by_cases hlt : p < k
                    · obtain ⟨j, rfl⟩ : ∃ j, k = j + 1 := ⟨k - 1, by omega⟩
                      have hki : (p : Int) < ((j + 1 : Nat) : Int) := by omega
                      have hwk : IntKind.i64.wrap (((j + 1 : Nat) : Int) - 1) = (j : Int) := by rw [IntKind.wrap_i64]; omega
                      have hwj : IntKind.i64.wrap (j : Int) = (j : Int) := by rw [IntKind.wrap_i64]; omega
                      have hwj1 : IntKind.i64.wrap ((j : Int) + 1 - 1) = (j : Int) := by rw [IntKind.wrap_i64]; omega
                      have hj8 : (j : Int) < 8 := by omega
                      have hj0 : ¬ (j : Int) < 0 := by omega
                      have HK := Lib.hid (fun W => (show Calls Try.prog 37 #[.int .u64 base, .int .i64 ((j : Int) + 1)] W fun e w' => e = .returned (.int .u64 (kA base (j + 1))) ∧ W = w' from kt_any hbse (i := j + 1) (by omega) W))
                      have HPt := Lib.hid (fun W => (show Calls Try.prog 38 #[.int .u64 base, .int .i64 ((j : Int) + 1)] W fun e w' => e = .returned (.int .u64 (pA base (j + 1))) ∧ W = w' from pt_any hbse (i := j + 1) (by omega) W))
                      have HST := Lib.hid (show upN base n p (j + 1 - p) = [(pA base (j + 1), n.ptr j), (kA base (j + 1), n.key j)] ++ upN base n p (j - p) by rw [show j + 1 - p = (j - p) + 1 by omega, upN, show p + (j - p) = j by omega] <;> rfl)
                      have hN := fun W' (hb : Below Wa.heap.size Wa W') => And.intro (ndAt_key (HRR.out W' hb) (i := j) (by omega)) (ndAt_ptr (HRR.out W' hb) (i := j) (by omega))
                      obtain ⟨y, hy⟩ : ∃ y, y = n.key j := ⟨_, rfl⟩
                      obtain ⟨z, hz⟩ : ∃ z, z = n.ptr j := ⟨_, rfl⟩
                      rw [← hy, ← hz] at HST hN
                      have STAY := Lib.hid (fun W' (hb : Below Wa.heap.size Wa W') => And.intro (hN W' hb).1 (And.intro (hN W' hb).2 hb))
                      clear hy hz hN
                      go_wp2_with fail
                      refine wp_region_held_drew (S := fun W' => W'.cell? ⟨w.heap.size, 5 + j, none⟩ = some (.int .u64 y) ∧ W'.cell? ⟨w.heap.size, 13 + j, none⟩ = some (.int .u64 z) ∧ Below Wa.heap.size Wa W') (by kernel_rfl) (STAY.out _ (low_and hb (drew_low9 _))) (fun hHeld => ?_)
                      refine wpAnyH_take (i := 0) (oi := ⟨some 73, _, _, _, _, _⟩) (v := u12) rfl (by kernel_rfl) (by kernel_rfl) (by kernel_rfl) (fun _ _ _ h => h) (Or.inl ⟨by rfl, by intro WW hSw; (try dsimp only at hSw); go_simp⟩) (by assumption) ?_
                      (try simp only [Act.put, List.setIfInBounds_toArray, List.set_cons_zero, List.set_cons_succ])
                      refine wpAnyH_take (i := 1) (oi := ⟨some 74, _, _, _, _, _⟩) (v := .int .u64 base) rfl (by kernel_rfl) (by kernel_rfl) (by kernel_rfl) (fun _ _ _ h => h) (Or.inl ⟨by rfl, by intro WW hSw; (try dsimp only at hSw); go_simp⟩) (by assumption) ?_
                      (try simp only [Act.put, List.setIfInBounds_toArray, List.set_cons_zero, List.set_cons_succ])
                      refine wpAnyH_take (i := 2) (oi := ⟨some 75, _, _, _, _, _⟩) (v := .int .i64 ((j : Int) + 1)) rfl (by kernel_rfl) (by kernel_rfl) (by kernel_rfl) (fun _ _ _ h => h) (Or.inl ⟨by rfl, by intro WW hSw; (try dsimp only at hSw); go_simp⟩) (by assumption) ?_
                      (try simp only [Act.put, List.setIfInBounds_toArray, List.set_cons_zero, List.set_cons_succ])
                      refine wpAnyH_take (i := 4) (oi := ⟨some 77, _, _, _, _, _⟩) (v := .int .i64 ((j : Int) + 1)) rfl (by kernel_rfl) (by kernel_rfl) (by kernel_rfl) (fun _ _ _ h => h) (Or.inl ⟨by rfl, by intro WW hSw; (try dsimp only at hSw); go_simp⟩) (by assumption) ?_
                      (try simp only [Act.put, List.setIfInBounds_toArray, List.set_cons_zero, List.set_cons_succ])
                      refine wpAnyH_take (i := 5) (oi := ⟨some 78, _, _, _, _, _⟩) (v := .int .i64 (j : Int)) rfl (by kernel_rfl) (by kernel_rfl) (by kernel_rfl) (fun _ _ _ h => h) (Or.inl ⟨by rfl, by intro WW hSw; (try dsimp only at hSw); go_simp⟩) (by assumption) ?_
                      (try simp only [Act.put, List.setIfInBounds_toArray, List.set_cons_zero, List.set_cons_succ])
                      refine wpAnyH_take (i := 6) (oi := ⟨some 79, _, _, _, _, _⟩) (v := .pointer (some ⟨w.heap.size, 13, none⟩)) rfl (by kernel_rfl) (by kernel_rfl) (by kernel_rfl) (fun _ _ _ h => h) (Or.inl ⟨by rfl, by intro WW hSw; (try dsimp only at hSw); go_simp⟩) (by assumption) ?_
                      (try simp only [Act.put, List.setIfInBounds_toArray, List.set_cons_zero, List.set_cons_succ])
                      refine wpAnyH_take (i := 7) (oi := ⟨some 80, _, _, _, _, _⟩) (v := .pointer (some ⟨w.heap.size, 13 + j, none⟩)) rfl (by kernel_rfl) (by kernel_rfl) (by kernel_rfl) (fun _ _ _ h => h) (Or.inl ⟨by rfl, by intro WW hSw; (try dsimp only at hSw); go_simp⟩) (by assumption) ?_
                      (try simp only [Act.put, List.setIfInBounds_toArray, List.set_cons_zero, List.set_cons_succ])
                      refine wpAnyH_take (i := 8) (oi := ⟨some 81, _, _, _, _, _⟩) (v := .int .u64 z) rfl (by kernel_rfl) (by kernel_rfl) (by kernel_rfl) (fun _ _ _ h => h) (Or.inl ⟨by rfl, by intro WW hSw; (try dsimp only at hSw); go_simp⟩) (by assumption) ?_
                      (try simp only [Act.put, List.setIfInBounds_toArray, List.set_cons_zero, List.set_cons_succ])
                      refine wpAnyH_take (i := 10) (oi := ⟨some 83, _, _, _, _, _⟩) (v := .int .u64 base) rfl (by kernel_rfl) (by kernel_rfl) (by kernel_rfl) (fun _ _ _ h => h) (Or.inl ⟨by rfl, by intro WW hSw; (try dsimp only at hSw); go_simp⟩) (by assumption) ?_
                      (try simp only [Act.put, List.setIfInBounds_toArray, List.set_cons_zero, List.set_cons_succ])
                      refine wpAnyH_take (i := 11) (oi := ⟨some 84, _, _, _, _, _⟩) (v := .int .i64 ((j : Int) + 1)) rfl (by kernel_rfl) (by kernel_rfl) (by kernel_rfl) (fun _ _ _ h => h) (Or.inl ⟨by rfl, by intro WW hSw; (try dsimp only at hSw); go_simp⟩) (by assumption) ?_
                      (try simp only [Act.put, List.setIfInBounds_toArray, List.set_cons_zero, List.set_cons_succ])
                      refine wpAnyH_take (i := 13) (oi := ⟨some 86, _, _, _, _, _⟩) (v := .int .i64 ((j : Int) + 1)) rfl (by kernel_rfl) (by kernel_rfl) (by kernel_rfl) (fun _ _ _ h => h) (Or.inl ⟨by rfl, by intro WW hSw; (try dsimp only at hSw); go_simp⟩) (by assumption) ?_
                      (try simp only [Act.put, List.setIfInBounds_toArray, List.set_cons_zero, List.set_cons_succ])
                      refine wpAnyH_take (i := 14) (oi := ⟨some 87, _, _, _, _, _⟩) (v := .int .i64 (j : Int)) rfl (by kernel_rfl) (by kernel_rfl) (by kernel_rfl) (fun _ _ _ h => h) (Or.inl ⟨by rfl, by intro WW hSw; (try dsimp only at hSw); go_simp⟩) (by assumption) ?_
                      (try simp only [Act.put, List.setIfInBounds_toArray, List.set_cons_zero, List.set_cons_succ])
                      refine wpAnyH_take (i := 15) (oi := ⟨some 88, _, _, _, _, _⟩) (v := .pointer (some ⟨w.heap.size, 5, none⟩)) rfl (by kernel_rfl) (by kernel_rfl) (by kernel_rfl) (fun _ _ _ h => h) (Or.inl ⟨by rfl, by intro WW hSw; (try dsimp only at hSw); go_simp⟩) (by assumption) ?_
                      (try simp only [Act.put, List.setIfInBounds_toArray, List.set_cons_zero, List.set_cons_succ])
                      refine wpAnyH_take (i := 16) (oi := ⟨some 89, _, _, _, _, _⟩) (v := .pointer (some ⟨w.heap.size, 5 + j, none⟩)) rfl (by kernel_rfl) (by kernel_rfl) (by kernel_rfl) (fun _ _ _ h => h) (Or.inl ⟨by rfl, by intro WW hSw; (try dsimp only at hSw); go_simp⟩) (by assumption) ?_
                      (try simp only [Act.put, List.setIfInBounds_toArray, List.set_cons_zero, List.set_cons_succ])
                      refine wpAnyH_take (i := 17) (oi := ⟨some 90, _, _, _, _, _⟩) (v := .int .u64 y) rfl (by kernel_rfl) (by kernel_rfl) (by kernel_rfl) (fun _ _ _ h => h) (Or.inl ⟨by rfl, by intro WW hSw; (try dsimp only at hSw); go_simp⟩) (by assumption) ?_
                      (try simp only [Act.put, List.setIfInBounds_toArray, List.set_cons_zero, List.set_cons_succ])
                      refine wpAnyH_one (i := 3) (oi := ⟨some 76, _, _, _, _, _⟩) rfl (by kernel_rfl) (fun K hK => ?_)
                      refine step_calls (by rfl) 38 EGp.out [.tmp 74, .tmp 75] _ rfl [.int .u64 base, .int .i64 ((j : Int) + 1)] rfl (HPt.out _) ?_
                      rintro e w5 ⟨rfl, rfl⟩
                      refine ⟨_, rfl, hK _ _ (hHeld) (fun hSn => ?_)⟩
                      clear hK K
                      (try simp only [Act.put, List.setIfInBounds_toArray, List.set_cons_zero, List.set_cons_succ])
                      refine wpAnyH_take (i := 9) (oi := ⟨some 82, _, _, _, _, _⟩) (v := .agg #[.int .u64 (pA base (j + 1)), .int .u64 z]) rfl (by kernel_rfl) (by kernel_rfl) (by kernel_rfl) (fun _ _ _ h => h) (Or.inl ⟨by rfl, by intro WW hSw; (try dsimp only at hSw); go_simp⟩) (by assumption) ?_
                      (try simp only [Act.put, List.setIfInBounds_toArray, List.set_cons_zero, List.set_cons_succ])
                      refine wpAnyH_one (i := 12) (oi := ⟨some 85, _, _, _, _, _⟩) rfl (by kernel_rfl) (fun K hK => ?_)
                      refine step_calls (by rfl) 37 EGk.out [.tmp 83, .tmp 84] _ rfl [.int .u64 base, .int .i64 ((j : Int) + 1)] rfl (HK.out _) ?_
                      rintro e w6 ⟨rfl, rfl⟩
                      refine ⟨_, rfl, hK _ _ (hHeld) (fun hSn => ?_)⟩
                      clear hK K
                      (try simp only [Act.put, List.setIfInBounds_toArray, List.set_cons_zero, List.set_cons_succ])
                      refine wpAnyH_take (i := 18) (oi := ⟨some 91, _, _, _, _, _⟩) (v := .agg #[.int .u64 (kA base (j + 1)), .int .u64 y]) rfl (by kernel_rfl) (by kernel_rfl) (by kernel_rfl) (fun _ _ _ h => h) (Or.inl ⟨by rfl, by intro WW hSw; (try dsimp only at hSw); go_simp⟩) (by assumption) ?_
                      (try simp only [Act.put, List.setIfInBounds_toArray, List.set_cons_zero, List.set_cons_succ])
                      refine wpAnyH_one (i := 19) (oi := ⟨some 92, _, _, _, _, _⟩) rfl (by kernel_rfl) (fun K hK => ?_)
                      rw [if_pos (by rfl)]
                      unfold Oper.wp
                      go_simp
                      refine hK _ _ (STAY.out _ (low_and hb (low_and (alloc_low _ _) (drew_low9 _)))) (fun hSn => ?_)
                      clear hK K
                      (try simp only [Act.put, List.setIfInBounds_toArray, List.set_cons_zero, List.set_cons_succ])
                      refine wpAnyH_one (i := 20) (oi := ⟨some 93, _, _, _, _, _⟩) rfl (by kernel_rfl) (fun K hK => ?_)
                      refine step_append_lies _ (by rfl) (.tmp 73) (.tmp 92) _ (by rfl) Wa.heap.size 45 i0 (.agg #[.int .u64 0, .int .u64 0]) 2 16 rfl hi hz0 hz1 hz2 rfl (by decide) _ _ _ (by rfl) (ownS_low HO.out (low_and (alloc_low _ _) (drew_low9 _))) ⟨wr.heap.size, 0, none⟩ 2 2 [.int .u64 (pA base (j + 1)), .int .u64 z, .int .u64 (kA base (j + 1)), .int .u64 y] (by rfl) (by rfl) (World.news_of_block (cs := #[.int .u64 (pA base (j + 1)), .int .u64 z, .int .u64 (kA base (j + 1)), .int .u64 y]) (t := 45) (fr := (0, 0)) (heap_alloc_new9 _ _)) (by intro u hu; simp at hu; rcases hu with rfl | rfl | rfl | rfl <;> rfl) (by decide) (by unfold maxLen; omega) (by omega) (by simp; have := hb.size; omega) (wr.heap.size + 1) (by simp) ?_
                      intro g4 cap4 w4 hown hgrow hsm hlt4
                      have HO4 := Lib.hid hown
                      have HB4 := Lib.hid (show Below Wa.heap.size Wa w4 from (low_and hb (low_and (alloc_low _ _) (drew_low9 _))).grown hgrow (by have := hb.size; simp; omega) (fun j hj => (ownS_from HO.out j hj).1))
                      clear hown hgrow hsm hlt4
                      refine hK _ _ (STAY.out _ HB4.out) (fun hSn => ?_)
                      clear hK K
                      (try simp only [Act.put, List.setIfInBounds_toArray, List.set_cons_zero, List.set_cons_succ])
                      refine wpAnyH_take (i := 21) (oi := ⟨some 12, _, _, _, _, _⟩) (v := .slice (some ⟨g4, 0, none⟩) (m.length + 2) cap4) rfl (by kernel_rfl) (by kernel_rfl) (by kernel_rfl) (fun _ _ _ h => h) (Or.inl ⟨by rfl, by intro WW hSw; (try dsimp only at hSw); go_simp⟩) (by assumption) ?_
                      (try simp only [Act.put, List.setIfInBounds_toArray, List.set_cons_zero, List.set_cons_succ])
                      refine wpAnyH_done (by kernel_rfl) ?_ _
                      go_wp2
                      refine ⟨⟨j, by omega, by omega, by go_num, m ++ [(pA base (j + 1), z), (kA base (j + 1), y)], by rw [← HM.out, HST.out, List.append_assoc], ?_, by rw [List.length_append]; simp; omega, HB4.out⟩, by simp [intOf]⟩
                      rw [flatE_two, List.length_append]
                      exact HO4.out

                    · obtain rfl : k = p := by omega
                      have hki : ¬ (k : Int) < (k : Int) := by omega
                      have HK := Lib.hid (fun W => kt_any hbse (i := k) (by omega) W)
                      have HPt := Lib.hid (fun W => pt_any hbse (i := k) (by omega) W)
                      have HAh := Lib.hid (fun W' => r9ahead_any n (p := k) (by omega) W')
                      have HE := Lib.hid (show m = ([] : List (Int × Int)) ++ upN base n k (q - k) by rw [← HM.out, Nat.sub_self]; simp [upN])
                      generalize n.ahd k = ah at HAh HR
                      go_wp2_with fail
                      refine wp_region_held_drew (S := fun W' => Below Wa.heap.size Wa W') (by kernel_rfl) (low_and hb (drew_low9 _)) (fun hHeld => ?_)
                      refine wpAnyH_take (i := 0) (oi := ⟨some 94, _, _, _, _, _⟩) (v := u12) rfl (by kernel_rfl) (by kernel_rfl) (by kernel_rfl) (fun _ _ _ h => h) (Or.inl ⟨by rfl, by intro WW hSw; (try dsimp only at hSw); go_simp⟩) (by assumption) ?_
                      (try simp only [Act.put, List.setIfInBounds_toArray, List.set_cons_zero, List.set_cons_succ])
                      refine wpAnyH_take (i := 1) (oi := ⟨some 95, _, _, _, _, _⟩) (v := .int .u64 base) rfl (by kernel_rfl) (by kernel_rfl) (by kernel_rfl) (fun _ _ _ h => h) (Or.inl ⟨by rfl, by intro WW hSw; (try dsimp only at hSw); go_simp⟩) (by assumption) ?_
                      (try simp only [Act.put, List.setIfInBounds_toArray, List.set_cons_zero, List.set_cons_succ])
                      refine wpAnyH_take (i := 2) (oi := ⟨some 96, _, _, _, _, _⟩) (v := .int .i64 (k : Int)) rfl (by kernel_rfl) (by kernel_rfl) (by kernel_rfl) (fun _ _ _ h => h) (Or.inl ⟨by rfl, by intro WW hSw; (try dsimp only at hSw); go_simp⟩) (by assumption) ?_
                      (try simp only [Act.put, List.setIfInBounds_toArray, List.set_cons_zero, List.set_cons_succ])
                      refine wpAnyH_take (i := 4) (oi := ⟨some 98, _, _, _, _, _⟩) (v := .agg n.cl.toArray) rfl (by kernel_rfl) (by kernel_rfl) (by kernel_rfl) (fun _ _ _ h => h) (yieldsIf_load_mid (by rfl) _ _ rfl w.heap.size 0 rfl n.cl _ (fun w' hw' => ndR (HRR.out _ hw')) Try.underlying27 rfl ndI) (by assumption) ?_
                      (try simp only [Act.put, List.setIfInBounds_toArray, List.set_cons_zero, List.set_cons_succ])
                      refine wpAnyH_take (i := 5) (oi := ⟨some 99, _, _, _, _, _⟩) (v := .int .i64 (k : Int)) rfl (by kernel_rfl) (by kernel_rfl) (by kernel_rfl) (fun _ _ _ h => h) (Or.inl ⟨by rfl, by intro WW hSw; (try dsimp only at hSw); go_simp⟩) (by assumption) ?_
                      (try simp only [Act.put, List.setIfInBounds_toArray, List.set_cons_zero, List.set_cons_succ])
                      refine wpAnyH_take (i := 8) (oi := ⟨some 102, _, _, _, _, _⟩) (v := .int .u64 base) rfl (by kernel_rfl) (by kernel_rfl) (by kernel_rfl) (fun _ _ _ h => h) (Or.inl ⟨by rfl, by intro WW hSw; (try dsimp only at hSw); go_simp⟩) (by assumption) ?_
                      (try simp only [Act.put, List.setIfInBounds_toArray, List.set_cons_zero, List.set_cons_succ])
                      refine wpAnyH_take (i := 9) (oi := ⟨some 103, _, _, _, _, _⟩) (v := .int .i64 (k : Int)) rfl (by kernel_rfl) (by kernel_rfl) (by kernel_rfl) (fun _ _ _ h => h) (Or.inl ⟨by rfl, by intro WW hSw; (try dsimp only at hSw); go_simp⟩) (by assumption) ?_
                      (try simp only [Act.put, List.setIfInBounds_toArray, List.set_cons_zero, List.set_cons_succ])
                      refine wpAnyH_take (i := 11) (oi := ⟨some 105, _, _, _, _, _⟩) (v := .int .u64 key) rfl (by kernel_rfl) (by kernel_rfl) (by kernel_rfl) (fun _ _ _ h => h) (Or.inl ⟨by rfl, by intro WW hSw; (try dsimp only at hSw); go_simp⟩) (by assumption) ?_
                      (try simp only [Act.put, List.setIfInBounds_toArray, List.set_cons_zero, List.set_cons_succ])
                      refine wpAnyH_take (i := 13) (oi := ⟨some 107, _, _, _, _, _⟩) (v := .int .u64 base) rfl (by kernel_rfl) (by kernel_rfl) (by kernel_rfl) (fun _ _ _ h => h) (Or.inl ⟨by rfl, by intro WW hSw; (try dsimp only at hSw); go_simp⟩) (by assumption) ?_
                      (try simp only [Act.put, List.setIfInBounds_toArray, List.set_cons_zero, List.set_cons_succ])
                      refine wpAnyH_take (i := 14) (oi := ⟨some 108, _, _, _, _, _⟩) (v := .int .i64 (k : Int)) rfl (by kernel_rfl) (by kernel_rfl) (by kernel_rfl) (fun _ _ _ h => h) (Or.inl ⟨by rfl, by intro WW hSw; (try dsimp only at hSw); go_simp⟩) (by assumption) ?_
                      (try simp only [Act.put, List.setIfInBounds_toArray, List.set_cons_zero, List.set_cons_succ])
                      refine wpAnyH_take (i := 16) (oi := ⟨some 110, _, _, _, _, _⟩) (v := .int .u64 ptr) rfl (by kernel_rfl) (by kernel_rfl) (by kernel_rfl) (fun _ _ _ h => h) (Or.inl ⟨by rfl, by intro WW hSw; (try dsimp only at hSw); go_simp⟩) (by assumption) ?_
                      (try simp only [Act.put, List.setIfInBounds_toArray, List.set_cons_zero, List.set_cons_succ])
                      refine wpAnyH_one (i := 3) (oi := ⟨some 97, _, _, _, _, _⟩) rfl (by kernel_rfl) (fun K hK => ?_)
                      refine step_calls (by rfl) 38 EGp.out [.tmp 95, .tmp 96] _ rfl [.int .u64 base, .int .i64 (k : Int)] rfl (HPt.out _) ?_
                      rintro e w5 ⟨rfl, rfl⟩
                      refine ⟨_, rfl, hK _ _ (hHeld) (fun hSn => ?_)⟩
                      clear hK K
                      (try simp only [Act.put, List.setIfInBounds_toArray, List.set_cons_zero, List.set_cons_succ])
                      refine wpAnyH_one (i := 6) (oi := ⟨some 100, _, _, _, _, _⟩) rfl (by kernel_rfl) (fun K hK => ?_)
                      refine step_calls (by rfl) 64 EGa.out [.tmp 98, .tmp 99] _ rfl [n.V, .int .i64 (k : Int)] rfl (HAh.out _) ?_
                      rintro e w5 ⟨rfl, h5⟩
                      have g5 := low_and hHeld h5
                      have HO5 := Lib.hid (ownS_low HO.out (low_and (drew_low9 _) h5))
                      refine ⟨_, rfl, hK _ _ (g5) (fun hSn => ?_)⟩
                      clear hK K
                      (try simp only [Act.put, List.setIfInBounds_toArray, List.set_cons_zero, List.set_cons_succ])
                      refine wpAnyH_take (i := 7) (oi := ⟨some 101, _, _, _, _, _⟩) (v := .agg #[.int .u64 (pA base k), .int .u64 ah]) rfl (by kernel_rfl) (by kernel_rfl) (by kernel_rfl) (fun _ _ _ h => h) (Or.inl ⟨by rfl, by intro WW hSw; (try dsimp only at hSw); go_simp⟩) (by assumption) ?_
                      (try simp only [Act.put, List.setIfInBounds_toArray, List.set_cons_zero, List.set_cons_succ])
                      refine wpAnyH_one (i := 10) (oi := ⟨some 104, _, _, _, _, _⟩) rfl (by kernel_rfl) (fun K hK => ?_)
                      refine step_calls (by rfl) 37 EGk.out [.tmp 102, .tmp 103] _ rfl [.int .u64 base, .int .i64 (k : Int)] rfl (HK.out _) ?_
                      rintro e w6 ⟨rfl, rfl⟩
                      refine ⟨_, rfl, hK _ _ (g5) (fun hSn => ?_)⟩
                      clear hK K
                      (try simp only [Act.put, List.setIfInBounds_toArray, List.set_cons_zero, List.set_cons_succ])
                      refine wpAnyH_take (i := 12) (oi := ⟨some 106, _, _, _, _, _⟩) (v := .agg #[.int .u64 (kA base k), .int .u64 key]) rfl (by kernel_rfl) (by kernel_rfl) (by kernel_rfl) (fun _ _ _ h => h) (Or.inl ⟨by rfl, by intro WW hSw; (try dsimp only at hSw); go_simp⟩) (by assumption) ?_
                      (try simp only [Act.put, List.setIfInBounds_toArray, List.set_cons_zero, List.set_cons_succ])
                      refine wpAnyH_one (i := 15) (oi := ⟨some 109, _, _, _, _, _⟩) rfl (by kernel_rfl) (fun K hK => ?_)
                      refine step_calls (by rfl) 38 EGp.out [.tmp 107, .tmp 108] _ rfl [.int .u64 base, .int .i64 (k : Int)] rfl (HPt.out _) ?_
                      rintro e w6 ⟨rfl, rfl⟩
                      refine ⟨_, rfl, hK _ _ (g5) (fun hSn => ?_)⟩
                      clear hK K
                      (try simp only [Act.put, List.setIfInBounds_toArray, List.set_cons_zero, List.set_cons_succ])
                      refine wpAnyH_take (i := 17) (oi := ⟨some 111, _, _, _, _, _⟩) (v := .agg #[.int .u64 (pA base k), .int .u64 ptr]) rfl (by kernel_rfl) (by kernel_rfl) (by kernel_rfl) (fun _ _ _ h => h) (Or.inl ⟨by rfl, by intro WW hSw; (try dsimp only at hSw); go_simp⟩) (by assumption) ?_
                      (try simp only [Act.put, List.setIfInBounds_toArray, List.set_cons_zero, List.set_cons_succ])
                      refine wpAnyH_one (i := 18) (oi := ⟨some 112, _, _, _, _, _⟩) rfl (by kernel_rfl) (fun K hK => ?_)
                      rw [if_pos (by rfl)]
                      unfold Oper.wp
                      go_simp
                      refine hK _ _ (low_and g5 (alloc_low _ _)) (fun hSn => ?_)
                      clear hK K
                      (try simp only [Act.put, List.setIfInBounds_toArray, List.set_cons_zero, List.set_cons_succ])
                      refine wpAnyH_one (i := 19) (oi := ⟨some 113, _, _, _, _, _⟩) rfl (by kernel_rfl) (fun K hK => ?_)
                      refine step_append_lies _ (by rfl) (.tmp 94) (.tmp 112) _ (by rfl) Wa.heap.size 45 i0 (.agg #[.int .u64 0, .int .u64 0]) 2 16 rfl hi hz0 hz1 hz2 rfl (by decide) _ _ _ (by rfl) (ownS_low HO5.out (alloc_low _ _)) ⟨w5.heap.size, 0, none⟩ 3 3 [.int .u64 (pA base k), .int .u64 ah, .int .u64 (kA base k), .int .u64 key, .int .u64 (pA base k), .int .u64 ptr] (by rfl) (by rfl) (World.news_of_block (cs := #[.int .u64 (pA base k), .int .u64 ah, .int .u64 (kA base k), .int .u64 key, .int .u64 (pA base k), .int .u64 ptr]) (t := 45) (fr := (0, 0)) (heap_alloc_new9 _ _)) (by intro u hu; simp at hu; rcases hu with rfl | rfl | rfl | rfl | rfl | rfl <;> rfl) (by decide) (by unfold maxLen; omega) (by omega) (by simp; have := g5.size; omega) (w5.heap.size + 1) (by simp) ?_
                      intro g4 cap4 w4 hown hgrow hsm hlt4
                      have HB4 := Lib.hid (show Below Wa.heap.size Wa w4 from (low_and g5 (alloc_low _ _)).grown hgrow (by have := g5.size; simp; omega) (fun j hj => (ownS_from HO5.out j hj).1))
                      have h6 : w4.ownsRow Wa.heap.size 45 2 (.slice (some ⟨g4, 0, none⟩) (m.length + 3) cap4) (m ++ [(pA base k, ah), (kA base k, key), (pA base k, ptr)]).length (flatE (m ++ [(pA base k, ah), (kA base k, key), (pA base k, ptr)])) := by
                        rw [List.length_append, flatE_app]
                        exact hown
                      have HE6 := Lib.hid (ent_ownG h6)
                      clear hown hgrow hsm hlt4 h6
                      refine hK _ _ (HB4.out) (fun hSn => ?_)
                      clear hK K
                      (try simp only [Act.put, List.setIfInBounds_toArray, List.set_cons_zero, List.set_cons_succ])
                      refine wpAnyH_take (i := 20) (oi := ⟨some 12, _, _, _, _, _⟩) (v := .slice (some ⟨g4, 0, none⟩) (m.length + 3) cap4) rfl (by kernel_rfl) (by kernel_rfl) (by kernel_rfl) (fun _ _ _ h => h) (Or.inl ⟨by rfl, by intro WW hSw; (try dsimp only at hSw); go_simp⟩) (by assumption) ?_
                      (try simp only [Act.put, List.setIfInBounds_toArray, List.set_cons_zero, List.set_cons_succ])
                      refine wpAnyH_done (by kernel_rfl) ?_ _
                      have hb4 := HB4.out
                      have HWh := Lib.hid (whole_any hbse n HE6.out (by simp) (by simp; omega))
                      go_wp2_with ((with_reducible refine show_load ?_); refine wpList_load_mid rfl 27 _ rfl w.heap.size 0 rfl n.cl _ (ndR (HRR.out _ (by assumption))) Try.underlying27 rfl ndI ?_)
                      go_at_call 65
                      refine HWh.out.mono ?_
                      rintro e w7 ⟨⟨v7, rfl, ho7⟩, h7⟩
                      have g7 := low_and hb4 h7
                      have HO7 := Lib.hid (ownS_mono ho7 (show w.heap.size ≤ w4.heap.size from Nat.le_trans HWs.out hb4.size))
                      clear ho7
                      go_wp2
                      go_ret2
                      rw [HR.out, show (([] : List (Int × Int)) ++ (upN base n k (q - k) ++ [(pA base k, ah)]) ++ [(kA base k, key), (pA base k, ptr)]) = m ++ [(pA base k, ah), (kA base k, key), (pA base k, ptr)] by rw [HE.out]; simp]
                      exact ⟨⟨_, rfl, HO7.out⟩, low_and HB0.out g7⟩
            · have hV3 := hV
              obtain hq8 | hq8 : q = 8 ∨ q < 8 := by omega
              · subst hq8
                have HR := Lib.hid (show R = ([], 4) by rw [HP0.out]; rfl)
                go_enter Try.func29, Try.ntmps29
                go_wp2_with (first
                      | (rw [← HWa.out]; (refine wpList_load_mid rfl 27 _ rfl w.heap.size 0 rfl n.cl _ (ndR (HRR.out _ (by assumption))) Try.underlying27 rfl ndI ?_))
                      | (refine wpList_load_mid rfl 27 _ rfl w.heap.size 0 rfl n.cl _ (ndR (HRR.out _ (by assumption))) Try.underlying27 rfl ndI ?_)
                      | (go_at_call 60; refine (HMy.out _).mono ?_; rintro e w1 ⟨rfl, h1⟩; have h1 := low_and hr0 h1)
                      | (refine wpList_load_midg (by rfl) 27 _ rfl w.heap.size 0 rfl n.cl _ (ndR (HRR.out _ (by assumption))) Try.underlying27 rfl ndI ?_)
                      | (go_at_call 61; refine (HHd.out _).mono ?_; rintro e wh ⟨rfl, hh⟩; have h1 := low_and h1 hh))
                go_at_call 62
                refine (HFd.out _).mono ?_
                rintro e w2 ⟨rfl, h2⟩
                have h2 := low_and h1 h2
                have c0 := HC0.out _ h2
                have c1 := HC1.out _ h2
                go_wp2_with ((with_reducible refine show_load ?_); refine wpList_load_mid rfl 27 _ rfl w.heap.size 0 rfl n.cl _ (ndR (HRR.out _ (by assumption))) Try.underlying27 rfl ndI ?_)
                go_at_call 39
                refine (HL.out _).mono ?_
                rintro e w3 ⟨rfl, h3⟩
                have h3 := low_and h2 h3
                go_wp2_with ((with_reducible refine show_load ?_); refine wpList_load_mid rfl 27 _ rfl w.heap.size 0 rfl n.cl _ (ndR (HRR.out _ (by assumption))) Try.underlying27 rfl ndI ?_)
                go_ret2
                rw [HR.out]
                exact ⟨⟨_, rfl, World.ownsRow_nil _ _ _ _⟩, low_and HB0.out h3⟩
              · have HP := Lib.hid (show R = (IL, 0) by rw [HP0.out, if_neg (by omega)])
                have hpq : p ≤ q := hal
                have hq8n : ¬ (q : Int) = 8 := by omega
                have hq8b : ((q : Int) == 8) = false := by simpa using hq8n
                have HLa := HLa0
                obtain hq7n | hq7n : q < 7 ∨ ¬ q < 7 := by omega
                · skip
                  have HPt1 := Lib.hid (fun W => pt_any hbse (i := q + 1) (by omega) W)
                  have hwq : IntKind.i64.wrap ((q : Int) + 1) = ((q + 1 : Nat) : Int) := by rw [IntKind.wrap_i64]; omega
                  have hq7 : (q : Int) < 7 := by omega
                  have HR := Lib.hid (show R = (wholeL base n ([(pA base (q + 1), 0)] ++ (upN base n p (q - p) ++ [(pA base p, n.ahd p)]) ++ [(kA base p, key), (pA base p, ptr)]), 0) by rw [HP.out, HMk.out]; simp [hq7n])
                  go_enter Try.func29, Try.ntmps29
                  go_wp2_with (first
                        | (rw [← HWa.out]; (refine wpList_load_mid rfl 27 _ rfl w.heap.size 0 rfl n.cl _ (ndR (HRR.out _ (by assumption))) Try.underlying27 rfl ndI ?_))
                        | (refine wpList_load_mid rfl 27 _ rfl w.heap.size 0 rfl n.cl _ (ndR (HRR.out _ (by assumption))) Try.underlying27 rfl ndI ?_)
                        | (go_at_call 60; refine (HMy.out _).mono ?_; rintro e w1 ⟨rfl, h1⟩; have h1 := low_and hr0 h1)
                        | (refine wpList_load_midg (by rfl) 27 _ rfl w.heap.size 0 rfl n.cl _ (ndR (HRR.out _ (by assumption))) Try.underlying27 rfl ndI ?_)
                        | (go_at_call 61; refine (HHd.out _).mono ?_; rintro e wh ⟨rfl, hh⟩; have h1 := low_and h1 hh))
                  go_at_call 62
                  refine (HFd.out _).mono ?_
                  rintro e w2 ⟨rfl, h2⟩
                  have h2 := low_and h1 h2
                  have c0 := HC0.out _ h2
                  have c1 := HC1.out _ h2
                  go_wp2_with ((with_reducible refine show_load ?_); refine wpList_load_mid rfl 27 _ rfl w.heap.size 0 rfl n.cl _ (ndR (HRR.out _ (by assumption))) Try.underlying27 rfl ndI ?_)
                  go_at_call 39
                  refine (HL.out _).mono ?_
                  rintro e w3 ⟨rfl, h3⟩
                  have h3 := low_and h2 h3
                  go_wp2_with ((with_reducible refine show_load ?_); refine wpList_load_mid rfl 27 _ rfl w.heap.size 0 rfl n.cl _ (ndR (HRR.out _ (by assumption))) Try.underlying27 rfl ndI ?_)
                  go_at_call 38
                  refine (HPt1.out _).mono ?_
                  rintro e w5 ⟨rfl, rfl⟩
                  go_wp2_with (first
                    | ((with_reducible refine show_load ?_); refine wpList_load_mid rfl 27 _ rfl w.heap.size 0 rfl n.cl _ (ndR (HRR.out _ (by assumption))) Try.underlying27 rfl ndI ?_)
                    | (at_builtin; refine wpList_append_own _ rfl _ _ 30 rfl Wa.heap.size 45 i0 (.agg #[.int .u64 0, .int .u64 0]) 2 16 Try.underlying30 hi hz0 hz1 hz2 rfl (by decide) _ 0 _ rfl (World.ownsRow_nil _ _ _ _) ⟨w3.heap.size, 0, none⟩ 1 1 [.int .u64 (pA base (q + 1)), .int .u64 0] rfl rfl ?q1 ?q2 ?q3 ?q4 ?q5 ?_))
                  case q1 =>
                    have hr := Row.new w3 45 #[.int .u64 (pA base (q + 1)), .int .u64 0]
                    intro j u hj
                    rw [Addr.add_lit, hr.cell, Nat.zero_add]
                    simpa using hj
                  case q2 => simp [Value.oneCell']
                  case q3 => unfold maxLen; omega
                  case q4 => omega
                  case q5 => have := h3.size; simp; omega
                  intro v' w4 hown hgrow hnil
                  have HO4 := Lib.hid hown
                  have HHH : Below Wa.heap.size Wa w4 := (low_and h3 (alloc_low _ _)).grown hgrow (by have := h3.size; simp; omega) (fun j hj => by cases hj)
                  clear hown hgrow hnil
                  go_wp2_with ((with_reducible refine show_load ?_); refine wpList_load_mid rfl 27 _ rfl w.heap.size 0 rfl n.cl _ (ndR (HRR.out _ (by assumption))) Try.underlying27 rfl ndI ?_)
                  go_at_call 63
                  refine (HLa.out _).mono ?_
                  rintro e wl ⟨rfl, hl⟩
                  have HLW := hl
                  have hl := low_and HHH hl
                  go_wp2_with ((with_reducible refine show_load ?_); refine wpList_load_mid rfl 27 _ rfl w.heap.size 0 rfl n.cl _ (ndR (HRR.out _ (by assumption))) Try.underlying27 rfl ndI ?_)
                  go_loopw [12, 14] (fun o i wr => ∃ k : Nat, p ≤ k ∧ k ≤ q ∧ i = .int .i64 (k : Int) ∧ ∃ m : List (Int × Int), m ++ upN base n p (k - p) = [(pA base (q + 1), 0)] ++ upN base n p (q - p) ∧ wr.ownsRow Wa.heap.size 45 2 o m.length (flatE m) ∧ m.length ≤ 1 + 2 * (q - k) ∧ Below Wa.heap.size Wa wr) (fun _ i _ => (intOf i).toNat)
                  case atStart => exact ⟨q, hpq, Nat.le_refl _, rfl, [(pA base (q + 1), 0)], rfl, ownS_low HO4.out HLW, by simp, hl⟩
                  case round =>
                    rename World => wr
                    obtain ⟨k, hpk, hkq, rfl, m, hm, ho, hml, hb⟩ := hrel
                    have HM := Lib.hid hm
                    have HO := Lib.hid ho
                    clear hm ho
                    by_cases hlt : p < k
                    · obtain ⟨j, rfl⟩ : ∃ j, k = j + 1 := ⟨k - 1, by omega⟩
                      have hki : (p : Int) < ((j + 1 : Nat) : Int) := by omega
                      have hwk : IntKind.i64.wrap (((j + 1 : Nat) : Int) - 1) = (j : Int) := by rw [IntKind.wrap_i64]; omega
                      have hwj : IntKind.i64.wrap (j : Int) = (j : Int) := by rw [IntKind.wrap_i64]; omega
                      have hwj1 : IntKind.i64.wrap ((j : Int) + 1 - 1) = (j : Int) := by rw [IntKind.wrap_i64]; omega
                      have hj8 : (j : Int) < 8 := by omega
                      have hj0 : ¬ (j : Int) < 0 := by omega
                      have HK := Lib.hid (fun W => (show Calls Try.prog 37 #[.int .u64 base, .int .i64 ((j : Int) + 1)] W fun e w' => e = .returned (.int .u64 (kA base (j + 1))) ∧ W = w' from kt_any hbse (i := j + 1) (by omega) W))
                      have HPt := Lib.hid (fun W => (show Calls Try.prog 38 #[.int .u64 base, .int .i64 ((j : Int) + 1)] W fun e w' => e = .returned (.int .u64 (pA base (j + 1))) ∧ W = w' from pt_any hbse (i := j + 1) (by omega) W))
                      have HST := Lib.hid (show upN base n p (j + 1 - p) = [(pA base (j + 1), n.ptr j), (kA base (j + 1), n.key j)] ++ upN base n p (j - p) by rw [show j + 1 - p = (j - p) + 1 by omega, upN, show p + (j - p) = j by omega] <;> rfl)
                      have hN := fun W' (hb : Below Wa.heap.size Wa W') => And.intro (ndAt_key (HRR.out W' hb) (i := j) (by omega)) (ndAt_ptr (HRR.out W' hb) (i := j) (by omega))
                      obtain ⟨y, hy⟩ : ∃ y, y = n.key j := ⟨_, rfl⟩
                      obtain ⟨z, hz⟩ : ∃ z, z = n.ptr j := ⟨_, rfl⟩
                      rw [← hy, ← hz] at HST hN
                      have STAY := Lib.hid (fun W' (hb : Below Wa.heap.size Wa W') => And.intro (hN W' hb).1 (And.intro (hN W' hb).2 hb))
                      clear hy hz hN
                      go_wp2_with fail
                      refine wp_region_held_drew (S := fun W' => W'.cell? ⟨w.heap.size, 5 + j, none⟩ = some (.int .u64 y) ∧ W'.cell? ⟨w.heap.size, 13 + j, none⟩ = some (.int .u64 z) ∧ Below Wa.heap.size Wa W') (by kernel_rfl) (STAY.out _ (low_and hb (drew_low9 _))) (fun hHeld => ?_)
                      refine wpAnyH_take (i := 0) (oi := ⟨some 73, _, _, _, _, _⟩) (v := u12) rfl (by kernel_rfl) (by kernel_rfl) (by kernel_rfl) (fun _ _ _ h => h) (Or.inl ⟨by rfl, by intro WW hSw; (try dsimp only at hSw); go_simp⟩) (by assumption) ?_
                      (try simp only [Act.put, List.setIfInBounds_toArray, List.set_cons_zero, List.set_cons_succ])
                      refine wpAnyH_take (i := 1) (oi := ⟨some 74, _, _, _, _, _⟩) (v := .int .u64 base) rfl (by kernel_rfl) (by kernel_rfl) (by kernel_rfl) (fun _ _ _ h => h) (Or.inl ⟨by rfl, by intro WW hSw; (try dsimp only at hSw); go_simp⟩) (by assumption) ?_
                      (try simp only [Act.put, List.setIfInBounds_toArray, List.set_cons_zero, List.set_cons_succ])
                      refine wpAnyH_take (i := 2) (oi := ⟨some 75, _, _, _, _, _⟩) (v := .int .i64 ((j : Int) + 1)) rfl (by kernel_rfl) (by kernel_rfl) (by kernel_rfl) (fun _ _ _ h => h) (Or.inl ⟨by rfl, by intro WW hSw; (try dsimp only at hSw); go_simp⟩) (by assumption) ?_
                      (try simp only [Act.put, List.setIfInBounds_toArray, List.set_cons_zero, List.set_cons_succ])
                      refine wpAnyH_take (i := 4) (oi := ⟨some 77, _, _, _, _, _⟩) (v := .int .i64 ((j : Int) + 1)) rfl (by kernel_rfl) (by kernel_rfl) (by kernel_rfl) (fun _ _ _ h => h) (Or.inl ⟨by rfl, by intro WW hSw; (try dsimp only at hSw); go_simp⟩) (by assumption) ?_
                      (try simp only [Act.put, List.setIfInBounds_toArray, List.set_cons_zero, List.set_cons_succ])
                      refine wpAnyH_take (i := 5) (oi := ⟨some 78, _, _, _, _, _⟩) (v := .int .i64 (j : Int)) rfl (by kernel_rfl) (by kernel_rfl) (by kernel_rfl) (fun _ _ _ h => h) (Or.inl ⟨by rfl, by intro WW hSw; (try dsimp only at hSw); go_simp⟩) (by assumption) ?_
                      (try simp only [Act.put, List.setIfInBounds_toArray, List.set_cons_zero, List.set_cons_succ])
                      refine wpAnyH_take (i := 6) (oi := ⟨some 79, _, _, _, _, _⟩) (v := .pointer (some ⟨w.heap.size, 13, none⟩)) rfl (by kernel_rfl) (by kernel_rfl) (by kernel_rfl) (fun _ _ _ h => h) (Or.inl ⟨by rfl, by intro WW hSw; (try dsimp only at hSw); go_simp⟩) (by assumption) ?_
                      (try simp only [Act.put, List.setIfInBounds_toArray, List.set_cons_zero, List.set_cons_succ])
                      refine wpAnyH_take (i := 7) (oi := ⟨some 80, _, _, _, _, _⟩) (v := .pointer (some ⟨w.heap.size, 13 + j, none⟩)) rfl (by kernel_rfl) (by kernel_rfl) (by kernel_rfl) (fun _ _ _ h => h) (Or.inl ⟨by rfl, by intro WW hSw; (try dsimp only at hSw); go_simp⟩) (by assumption) ?_
                      (try simp only [Act.put, List.setIfInBounds_toArray, List.set_cons_zero, List.set_cons_succ])
                      refine wpAnyH_take (i := 8) (oi := ⟨some 81, _, _, _, _, _⟩) (v := .int .u64 z) rfl (by kernel_rfl) (by kernel_rfl) (by kernel_rfl) (fun _ _ _ h => h) (Or.inl ⟨by rfl, by intro WW hSw; (try dsimp only at hSw); go_simp⟩) (by assumption) ?_
                      (try simp only [Act.put, List.setIfInBounds_toArray, List.set_cons_zero, List.set_cons_succ])
                      refine wpAnyH_take (i := 10) (oi := ⟨some 83, _, _, _, _, _⟩) (v := .int .u64 base) rfl (by kernel_rfl) (by kernel_rfl) (by kernel_rfl) (fun _ _ _ h => h) (Or.inl ⟨by rfl, by intro WW hSw; (try dsimp only at hSw); go_simp⟩) (by assumption) ?_
                      (try simp only [Act.put, List.setIfInBounds_toArray, List.set_cons_zero, List.set_cons_succ])
                      refine wpAnyH_take (i := 11) (oi := ⟨some 84, _, _, _, _, _⟩) (v := .int .i64 ((j : Int) + 1)) rfl (by kernel_rfl) (by kernel_rfl) (by kernel_rfl) (fun _ _ _ h => h) (Or.inl ⟨by rfl, by intro WW hSw; (try dsimp only at hSw); go_simp⟩) (by assumption) ?_
                      (try simp only [Act.put, List.setIfInBounds_toArray, List.set_cons_zero, List.set_cons_succ])
                      refine wpAnyH_take (i := 13) (oi := ⟨some 86, _, _, _, _, _⟩) (v := .int .i64 ((j : Int) + 1)) rfl (by kernel_rfl) (by kernel_rfl) (by kernel_rfl) (fun _ _ _ h => h) (Or.inl ⟨by rfl, by intro WW hSw; (try dsimp only at hSw); go_simp⟩) (by assumption) ?_
                      (try simp only [Act.put, List.setIfInBounds_toArray, List.set_cons_zero, List.set_cons_succ])
                      refine wpAnyH_take (i := 14) (oi := ⟨some 87, _, _, _, _, _⟩) (v := .int .i64 (j : Int)) rfl (by kernel_rfl) (by kernel_rfl) (by kernel_rfl) (fun _ _ _ h => h) (Or.inl ⟨by rfl, by intro WW hSw; (try dsimp only at hSw); go_simp⟩) (by assumption) ?_
                      (try simp only [Act.put, List.setIfInBounds_toArray, List.set_cons_zero, List.set_cons_succ])
                      refine wpAnyH_take (i := 15) (oi := ⟨some 88, _, _, _, _, _⟩) (v := .pointer (some ⟨w.heap.size, 5, none⟩)) rfl (by kernel_rfl) (by kernel_rfl) (by kernel_rfl) (fun _ _ _ h => h) (Or.inl ⟨by rfl, by intro WW hSw; (try dsimp only at hSw); go_simp⟩) (by assumption) ?_
                      (try simp only [Act.put, List.setIfInBounds_toArray, List.set_cons_zero, List.set_cons_succ])
                      refine wpAnyH_take (i := 16) (oi := ⟨some 89, _, _, _, _, _⟩) (v := .pointer (some ⟨w.heap.size, 5 + j, none⟩)) rfl (by kernel_rfl) (by kernel_rfl) (by kernel_rfl) (fun _ _ _ h => h) (Or.inl ⟨by rfl, by intro WW hSw; (try dsimp only at hSw); go_simp⟩) (by assumption) ?_
                      (try simp only [Act.put, List.setIfInBounds_toArray, List.set_cons_zero, List.set_cons_succ])
                      refine wpAnyH_take (i := 17) (oi := ⟨some 90, _, _, _, _, _⟩) (v := .int .u64 y) rfl (by kernel_rfl) (by kernel_rfl) (by kernel_rfl) (fun _ _ _ h => h) (Or.inl ⟨by rfl, by intro WW hSw; (try dsimp only at hSw); go_simp⟩) (by assumption) ?_
                      (try simp only [Act.put, List.setIfInBounds_toArray, List.set_cons_zero, List.set_cons_succ])
                      refine wpAnyH_one (i := 3) (oi := ⟨some 76, _, _, _, _, _⟩) rfl (by kernel_rfl) (fun K hK => ?_)
                      refine step_calls (by rfl) 38 EGp.out [.tmp 74, .tmp 75] _ rfl [.int .u64 base, .int .i64 ((j : Int) + 1)] rfl (HPt.out _) ?_
                      rintro e w5 ⟨rfl, rfl⟩
                      refine ⟨_, rfl, hK _ _ (hHeld) (fun hSn => ?_)⟩
                      clear hK K
                      (try simp only [Act.put, List.setIfInBounds_toArray, List.set_cons_zero, List.set_cons_succ])
                      refine wpAnyH_take (i := 9) (oi := ⟨some 82, _, _, _, _, _⟩) (v := .agg #[.int .u64 (pA base (j + 1)), .int .u64 z]) rfl (by kernel_rfl) (by kernel_rfl) (by kernel_rfl) (fun _ _ _ h => h) (Or.inl ⟨by rfl, by intro WW hSw; (try dsimp only at hSw); go_simp⟩) (by assumption) ?_
                      (try simp only [Act.put, List.setIfInBounds_toArray, List.set_cons_zero, List.set_cons_succ])
                      refine wpAnyH_one (i := 12) (oi := ⟨some 85, _, _, _, _, _⟩) rfl (by kernel_rfl) (fun K hK => ?_)
                      refine step_calls (by rfl) 37 EGk.out [.tmp 83, .tmp 84] _ rfl [.int .u64 base, .int .i64 ((j : Int) + 1)] rfl (HK.out _) ?_
                      rintro e w6 ⟨rfl, rfl⟩
                      refine ⟨_, rfl, hK _ _ (hHeld) (fun hSn => ?_)⟩
                      clear hK K
                      (try simp only [Act.put, List.setIfInBounds_toArray, List.set_cons_zero, List.set_cons_succ])
                      refine wpAnyH_take (i := 18) (oi := ⟨some 91, _, _, _, _, _⟩) (v := .agg #[.int .u64 (kA base (j + 1)), .int .u64 y]) rfl (by kernel_rfl) (by kernel_rfl) (by kernel_rfl) (fun _ _ _ h => h) (Or.inl ⟨by rfl, by intro WW hSw; (try dsimp only at hSw); go_simp⟩) (by assumption) ?_
                      (try simp only [Act.put, List.setIfInBounds_toArray, List.set_cons_zero, List.set_cons_succ])
                      refine wpAnyH_one (i := 19) (oi := ⟨some 92, _, _, _, _, _⟩) rfl (by kernel_rfl) (fun K hK => ?_)
                      rw [if_pos (by rfl)]
                      unfold Oper.wp
                      go_simp
                      refine hK _ _ (STAY.out _ (low_and hb (low_and (alloc_low _ _) (drew_low9 _)))) (fun hSn => ?_)
                      clear hK K
                      (try simp only [Act.put, List.setIfInBounds_toArray, List.set_cons_zero, List.set_cons_succ])
                      refine wpAnyH_one (i := 20) (oi := ⟨some 93, _, _, _, _, _⟩) rfl (by kernel_rfl) (fun K hK => ?_)
                      refine step_append_lies _ (by rfl) (.tmp 73) (.tmp 92) _ (by rfl) Wa.heap.size 45 i0 (.agg #[.int .u64 0, .int .u64 0]) 2 16 rfl hi hz0 hz1 hz2 rfl (by decide) _ _ _ (by rfl) (ownS_low HO.out (low_and (alloc_low _ _) (drew_low9 _))) ⟨wr.heap.size, 0, none⟩ 2 2 [.int .u64 (pA base (j + 1)), .int .u64 z, .int .u64 (kA base (j + 1)), .int .u64 y] (by rfl) (by rfl) (World.news_of_block (cs := #[.int .u64 (pA base (j + 1)), .int .u64 z, .int .u64 (kA base (j + 1)), .int .u64 y]) (t := 45) (fr := (0, 0)) (heap_alloc_new9 _ _)) (by intro u hu; simp at hu; rcases hu with rfl | rfl | rfl | rfl <;> rfl) (by decide) (by unfold maxLen; omega) (by omega) (by simp; have := hb.size; omega) (wr.heap.size + 1) (by simp) ?_
                      intro g4 cap4 w4 hown hgrow hsm hlt4
                      have HO4 := Lib.hid hown
                      have HB4 := Lib.hid (show Below Wa.heap.size Wa w4 from (low_and hb (low_and (alloc_low _ _) (drew_low9 _))).grown hgrow (by have := hb.size; simp; omega) (fun j hj => (ownS_from HO.out j hj).1))
                      clear hown hgrow hsm hlt4
                      refine hK _ _ (STAY.out _ HB4.out) (fun hSn => ?_)
                      clear hK K
                      (try simp only [Act.put, List.setIfInBounds_toArray, List.set_cons_zero, List.set_cons_succ])
                      refine wpAnyH_take (i := 21) (oi := ⟨some 12, _, _, _, _, _⟩) (v := .slice (some ⟨g4, 0, none⟩) (m.length + 2) cap4) rfl (by kernel_rfl) (by kernel_rfl) (by kernel_rfl) (fun _ _ _ h => h) (Or.inl ⟨by rfl, by intro WW hSw; (try dsimp only at hSw); go_simp⟩) (by assumption) ?_
                      (try simp only [Act.put, List.setIfInBounds_toArray, List.set_cons_zero, List.set_cons_succ])
                      refine wpAnyH_done (by kernel_rfl) ?_ _
                      go_wp2
                      refine ⟨⟨j, by omega, by omega, by go_num, m ++ [(pA base (j + 1), z), (kA base (j + 1), y)], by rw [← HM.out, HST.out, List.append_assoc], ?_, by rw [List.length_append]; simp; omega, HB4.out⟩, by simp [intOf]⟩
                      rw [flatE_two, List.length_append]
                      exact HO4.out

                    · obtain rfl : k = p := by omega
                      have hki : ¬ (k : Int) < (k : Int) := by omega
                      have HK := Lib.hid (fun W => kt_any hbse (i := k) (by omega) W)
                      have HPt := Lib.hid (fun W => pt_any hbse (i := k) (by omega) W)
                      have HAh := Lib.hid (fun W' => r9ahead_any n (p := k) (by omega) W')
                      have HE := Lib.hid (show m = [(pA base (q + 1), 0)] ++ upN base n k (q - k) by rw [← HM.out, Nat.sub_self]; simp [upN])
                      generalize n.ahd k = ah at HAh HR
                      go_wp2_with fail
                      refine wp_region_held_drew (S := fun W' => Below Wa.heap.size Wa W') (by kernel_rfl) (low_and hb (drew_low9 _)) (fun hHeld => ?_)
                      refine wpAnyH_take (i := 0) (oi := ⟨some 94, _, _, _, _, _⟩) (v := u12) rfl (by kernel_rfl) (by kernel_rfl) (by kernel_rfl) (fun _ _ _ h => h) (Or.inl ⟨by rfl, by intro WW hSw; (try dsimp only at hSw); go_simp⟩) (by assumption) ?_
                      (try simp only [Act.put, List.setIfInBounds_toArray, List.set_cons_zero, List.set_cons_succ])
                      refine wpAnyH_take (i := 1) (oi := ⟨some 95, _, _, _, _, _⟩) (v := .int .u64 base) rfl (by kernel_rfl) (by kernel_rfl) (by kernel_rfl) (fun _ _ _ h => h) (Or.inl ⟨by rfl, by intro WW hSw; (try dsimp only at hSw); go_simp⟩) (by assumption) ?_
                      (try simp only [Act.put, List.setIfInBounds_toArray, List.set_cons_zero, List.set_cons_succ])
                      refine wpAnyH_take (i := 2) (oi := ⟨some 96, _, _, _, _, _⟩) (v := .int .i64 (k : Int)) rfl (by kernel_rfl) (by kernel_rfl) (by kernel_rfl) (fun _ _ _ h => h) (Or.inl ⟨by rfl, by intro WW hSw; (try dsimp only at hSw); go_simp⟩) (by assumption) ?_
                      (try simp only [Act.put, List.setIfInBounds_toArray, List.set_cons_zero, List.set_cons_succ])
                      refine wpAnyH_take (i := 4) (oi := ⟨some 98, _, _, _, _, _⟩) (v := .agg n.cl.toArray) rfl (by kernel_rfl) (by kernel_rfl) (by kernel_rfl) (fun _ _ _ h => h) (yieldsIf_load_mid (by rfl) _ _ rfl w.heap.size 0 rfl n.cl _ (fun w' hw' => ndR (HRR.out _ hw')) Try.underlying27 rfl ndI) (by assumption) ?_
                      (try simp only [Act.put, List.setIfInBounds_toArray, List.set_cons_zero, List.set_cons_succ])
                      refine wpAnyH_take (i := 5) (oi := ⟨some 99, _, _, _, _, _⟩) (v := .int .i64 (k : Int)) rfl (by kernel_rfl) (by kernel_rfl) (by kernel_rfl) (fun _ _ _ h => h) (Or.inl ⟨by rfl, by intro WW hSw; (try dsimp only at hSw); go_simp⟩) (by assumption) ?_
                      (try simp only [Act.put, List.setIfInBounds_toArray, List.set_cons_zero, List.set_cons_succ])
                      refine wpAnyH_take (i := 8) (oi := ⟨some 102, _, _, _, _, _⟩) (v := .int .u64 base) rfl (by kernel_rfl) (by kernel_rfl) (by kernel_rfl) (fun _ _ _ h => h) (Or.inl ⟨by rfl, by intro WW hSw; (try dsimp only at hSw); go_simp⟩) (by assumption) ?_
                      (try simp only [Act.put, List.setIfInBounds_toArray, List.set_cons_zero, List.set_cons_succ])
                      refine wpAnyH_take (i := 9) (oi := ⟨some 103, _, _, _, _, _⟩) (v := .int .i64 (k : Int)) rfl (by kernel_rfl) (by kernel_rfl) (by kernel_rfl) (fun _ _ _ h => h) (Or.inl ⟨by rfl, by intro WW hSw; (try dsimp only at hSw); go_simp⟩) (by assumption) ?_
                      (try simp only [Act.put, List.setIfInBounds_toArray, List.set_cons_zero, List.set_cons_succ])
                      refine wpAnyH_take (i := 11) (oi := ⟨some 105, _, _, _, _, _⟩) (v := .int .u64 key) rfl (by kernel_rfl) (by kernel_rfl) (by kernel_rfl) (fun _ _ _ h => h) (Or.inl ⟨by rfl, by intro WW hSw; (try dsimp only at hSw); go_simp⟩) (by assumption) ?_
                      (try simp only [Act.put, List.setIfInBounds_toArray, List.set_cons_zero, List.set_cons_succ])
                      refine wpAnyH_take (i := 13) (oi := ⟨some 107, _, _, _, _, _⟩) (v := .int .u64 base) rfl (by kernel_rfl) (by kernel_rfl) (by kernel_rfl) (fun _ _ _ h => h) (Or.inl ⟨by rfl, by intro WW hSw; (try dsimp only at hSw); go_simp⟩) (by assumption) ?_
                      (try simp only [Act.put, List.setIfInBounds_toArray, List.set_cons_zero, List.set_cons_succ])
                      refine wpAnyH_take (i := 14) (oi := ⟨some 108, _, _, _, _, _⟩) (v := .int .i64 (k : Int)) rfl (by kernel_rfl) (by kernel_rfl) (by kernel_rfl) (fun _ _ _ h => h) (Or.inl ⟨by rfl, by intro WW hSw; (try dsimp only at hSw); go_simp⟩) (by assumption) ?_
                      (try simp only [Act.put, List.setIfInBounds_toArray, List.set_cons_zero, List.set_cons_succ])
                      refine wpAnyH_take (i := 16) (oi := ⟨some 110, _, _, _, _, _⟩) (v := .int .u64 ptr) rfl (by kernel_rfl) (by kernel_rfl) (by kernel_rfl) (fun _ _ _ h => h) (Or.inl ⟨by rfl, by intro WW hSw; (try dsimp only at hSw); go_simp⟩) (by assumption) ?_
                      (try simp only [Act.put, List.setIfInBounds_toArray, List.set_cons_zero, List.set_cons_succ])
                      refine wpAnyH_one (i := 3) (oi := ⟨some 97, _, _, _, _, _⟩) rfl (by kernel_rfl) (fun K hK => ?_)
                      refine step_calls (by rfl) 38 EGp.out [.tmp 95, .tmp 96] _ rfl [.int .u64 base, .int .i64 (k : Int)] rfl (HPt.out _) ?_
                      rintro e w5 ⟨rfl, rfl⟩
                      refine ⟨_, rfl, hK _ _ (hHeld) (fun hSn => ?_)⟩
                      clear hK K
                      (try simp only [Act.put, List.setIfInBounds_toArray, List.set_cons_zero, List.set_cons_succ])
                      refine wpAnyH_one (i := 6) (oi := ⟨some 100, _, _, _, _, _⟩) rfl (by kernel_rfl) (fun K hK => ?_)
                      refine step_calls (by rfl) 64 EGa.out [.tmp 98, .tmp 99] _ rfl [n.V, .int .i64 (k : Int)] rfl (HAh.out _) ?_
                      rintro e w5 ⟨rfl, h5⟩
                      have g5 := low_and hHeld h5
                      have HO5 := Lib.hid (ownS_low HO.out (low_and (drew_low9 _) h5))
                      refine ⟨_, rfl, hK _ _ (g5) (fun hSn => ?_)⟩
                      clear hK K
                      (try simp only [Act.put, List.setIfInBounds_toArray, List.set_cons_zero, List.set_cons_succ])
                      refine wpAnyH_take (i := 7) (oi := ⟨some 101, _, _, _, _, _⟩) (v := .agg #[.int .u64 (pA base k), .int .u64 ah]) rfl (by kernel_rfl) (by kernel_rfl) (by kernel_rfl) (fun _ _ _ h => h) (Or.inl ⟨by rfl, by intro WW hSw; (try dsimp only at hSw); go_simp⟩) (by assumption) ?_
                      (try simp only [Act.put, List.setIfInBounds_toArray, List.set_cons_zero, List.set_cons_succ])
                      refine wpAnyH_one (i := 10) (oi := ⟨some 104, _, _, _, _, _⟩) rfl (by kernel_rfl) (fun K hK => ?_)
                      refine step_calls (by rfl) 37 EGk.out [.tmp 102, .tmp 103] _ rfl [.int .u64 base, .int .i64 (k : Int)] rfl (HK.out _) ?_
                      rintro e w6 ⟨rfl, rfl⟩
                      refine ⟨_, rfl, hK _ _ (g5) (fun hSn => ?_)⟩
                      clear hK K
                      (try simp only [Act.put, List.setIfInBounds_toArray, List.set_cons_zero, List.set_cons_succ])
                      refine wpAnyH_take (i := 12) (oi := ⟨some 106, _, _, _, _, _⟩) (v := .agg #[.int .u64 (kA base k), .int .u64 key]) rfl (by kernel_rfl) (by kernel_rfl) (by kernel_rfl) (fun _ _ _ h => h) (Or.inl ⟨by rfl, by intro WW hSw; (try dsimp only at hSw); go_simp⟩) (by assumption) ?_
                      (try simp only [Act.put, List.setIfInBounds_toArray, List.set_cons_zero, List.set_cons_succ])
                      refine wpAnyH_one (i := 15) (oi := ⟨some 109, _, _, _, _, _⟩) rfl (by kernel_rfl) (fun K hK => ?_)
                      refine step_calls (by rfl) 38 EGp.out [.tmp 107, .tmp 108] _ rfl [.int .u64 base, .int .i64 (k : Int)] rfl (HPt.out _) ?_
                      rintro e w6 ⟨rfl, rfl⟩
                      refine ⟨_, rfl, hK _ _ (g5) (fun hSn => ?_)⟩
                      clear hK K
                      (try simp only [Act.put, List.setIfInBounds_toArray, List.set_cons_zero, List.set_cons_succ])
                      refine wpAnyH_take (i := 17) (oi := ⟨some 111, _, _, _, _, _⟩) (v := .agg #[.int .u64 (pA base k), .int .u64 ptr]) rfl (by kernel_rfl) (by kernel_rfl) (by kernel_rfl) (fun _ _ _ h => h) (Or.inl ⟨by rfl, by intro WW hSw; (try dsimp only at hSw); go_simp⟩) (by assumption) ?_
                      (try simp only [Act.put, List.setIfInBounds_toArray, List.set_cons_zero, List.set_cons_succ])
                      refine wpAnyH_one (i := 18) (oi := ⟨some 112, _, _, _, _, _⟩) rfl (by kernel_rfl) (fun K hK => ?_)
                      rw [if_pos (by rfl)]
                      unfold Oper.wp
                      go_simp
                      refine hK _ _ (low_and g5 (alloc_low _ _)) (fun hSn => ?_)
                      clear hK K
                      (try simp only [Act.put, List.setIfInBounds_toArray, List.set_cons_zero, List.set_cons_succ])
                      refine wpAnyH_one (i := 19) (oi := ⟨some 113, _, _, _, _, _⟩) rfl (by kernel_rfl) (fun K hK => ?_)
                      refine step_append_lies _ (by rfl) (.tmp 94) (.tmp 112) _ (by rfl) Wa.heap.size 45 i0 (.agg #[.int .u64 0, .int .u64 0]) 2 16 rfl hi hz0 hz1 hz2 rfl (by decide) _ _ _ (by rfl) (ownS_low HO5.out (alloc_low _ _)) ⟨w5.heap.size, 0, none⟩ 3 3 [.int .u64 (pA base k), .int .u64 ah, .int .u64 (kA base k), .int .u64 key, .int .u64 (pA base k), .int .u64 ptr] (by rfl) (by rfl) (World.news_of_block (cs := #[.int .u64 (pA base k), .int .u64 ah, .int .u64 (kA base k), .int .u64 key, .int .u64 (pA base k), .int .u64 ptr]) (t := 45) (fr := (0, 0)) (heap_alloc_new9 _ _)) (by intro u hu; simp at hu; rcases hu with rfl | rfl | rfl | rfl | rfl | rfl <;> rfl) (by decide) (by unfold maxLen; omega) (by omega) (by simp; have := g5.size; omega) (w5.heap.size + 1) (by simp) ?_
                      intro g4 cap4 w4 hown hgrow hsm hlt4
                      have HB4 := Lib.hid (show Below Wa.heap.size Wa w4 from (low_and g5 (alloc_low _ _)).grown hgrow (by have := g5.size; simp; omega) (fun j hj => (ownS_from HO5.out j hj).1))
                      have h6 : w4.ownsRow Wa.heap.size 45 2 (.slice (some ⟨g4, 0, none⟩) (m.length + 3) cap4) (m ++ [(pA base k, ah), (kA base k, key), (pA base k, ptr)]).length (flatE (m ++ [(pA base k, ah), (kA base k, key), (pA base k, ptr)])) := by
                        rw [List.length_append, flatE_app]
                        exact hown
                      have HE6 := Lib.hid (ent_ownG h6)
                      clear hown hgrow hsm hlt4 h6
                      refine hK _ _ (HB4.out) (fun hSn => ?_)
                      clear hK K
                      (try simp only [Act.put, List.setIfInBounds_toArray, List.set_cons_zero, List.set_cons_succ])
                      refine wpAnyH_take (i := 20) (oi := ⟨some 12, _, _, _, _, _⟩) (v := .slice (some ⟨g4, 0, none⟩) (m.length + 3) cap4) rfl (by kernel_rfl) (by kernel_rfl) (by kernel_rfl) (fun _ _ _ h => h) (Or.inl ⟨by rfl, by intro WW hSw; (try dsimp only at hSw); go_simp⟩) (by assumption) ?_
                      (try simp only [Act.put, List.setIfInBounds_toArray, List.set_cons_zero, List.set_cons_succ])
                      refine wpAnyH_done (by kernel_rfl) ?_ _
                      have hb4 := HB4.out
                      have HWh := Lib.hid (whole_any hbse n HE6.out (by simp) (by simp; omega))
                      go_wp2_with ((with_reducible refine show_load ?_); refine wpList_load_mid rfl 27 _ rfl w.heap.size 0 rfl n.cl _ (ndR (HRR.out _ (by assumption))) Try.underlying27 rfl ndI ?_)
                      go_at_call 65
                      refine HWh.out.mono ?_
                      rintro e w7 ⟨⟨v7, rfl, ho7⟩, h7⟩
                      have g7 := low_and hb4 h7
                      have HO7 := Lib.hid (ownS_mono ho7 (show w.heap.size ≤ w4.heap.size from Nat.le_trans HWs.out hb4.size))
                      clear ho7
                      go_wp2
                      go_ret2
                      rw [HR.out, show ([(pA base (q + 1), 0)] ++ (upN base n k (q - k) ++ [(pA base k, ah)]) ++ [(kA base k, key), (pA base k, ptr)]) = m ++ [(pA base k, ah), (kA base k, key), (pA base k, ptr)] by rw [HE.out]; simp]
                      exact ⟨⟨_, rfl, HO7.out⟩, low_and HB0.out g7⟩
                · skip
                  have HPt1 := Lib.hid (fun W => pt_any hbse (i := q + 1) (by omega) W)
                  have hwq : IntKind.i64.wrap ((q : Int) + 1) = ((q + 1 : Nat) : Int) := by rw [IntKind.wrap_i64]; omega
                  have hq7 : ¬ (q : Int) < 7 := by omega
                  have HR := Lib.hid (show R = (wholeL base n (([] : List (Int × Int)) ++ (upN base n p (q - p) ++ [(pA base p, n.ahd p)]) ++ [(kA base p, key), (pA base p, ptr)]), 0) by rw [HP.out, HMk.out]; simp [hq7n])
                  go_enter Try.func29, Try.ntmps29
                  go_wp2_with (first
                        | (rw [← HWa.out]; (refine wpList_load_mid rfl 27 _ rfl w.heap.size 0 rfl n.cl _ (ndR (HRR.out _ (by assumption))) Try.underlying27 rfl ndI ?_))
                        | (refine wpList_load_mid rfl 27 _ rfl w.heap.size 0 rfl n.cl _ (ndR (HRR.out _ (by assumption))) Try.underlying27 rfl ndI ?_)
                        | (go_at_call 60; refine (HMy.out _).mono ?_; rintro e w1 ⟨rfl, h1⟩; have h1 := low_and hr0 h1)
                        | (refine wpList_load_midg (by rfl) 27 _ rfl w.heap.size 0 rfl n.cl _ (ndR (HRR.out _ (by assumption))) Try.underlying27 rfl ndI ?_)
                        | (go_at_call 61; refine (HHd.out _).mono ?_; rintro e wh ⟨rfl, hh⟩; have h1 := low_and h1 hh))
                  go_at_call 62
                  refine (HFd.out _).mono ?_
                  rintro e w2 ⟨rfl, h2⟩
                  have h2 := low_and h1 h2
                  have c0 := HC0.out _ h2
                  have c1 := HC1.out _ h2
                  go_wp2_with ((with_reducible refine show_load ?_); refine wpList_load_mid rfl 27 _ rfl w.heap.size 0 rfl n.cl _ (ndR (HRR.out _ (by assumption))) Try.underlying27 rfl ndI ?_)
                  go_at_call 39
                  refine (HL.out _).mono ?_
                  rintro e w3 ⟨rfl, h3⟩
                  have h3 := low_and h2 h3
                  go_wp2_with ((with_reducible refine show_load ?_); refine wpList_load_mid rfl 27 _ rfl w.heap.size 0 rfl n.cl _ (ndR (HRR.out _ (by assumption))) Try.underlying27 rfl ndI ?_)
                  go_at_call 63
                  refine (HLa.out _).mono ?_
                  rintro e wl ⟨rfl, hl⟩
                  have HLW := hl
                  have hl := low_and h3 hl
                  go_wp2_with ((with_reducible refine show_load ?_); refine wpList_load_mid rfl 27 _ rfl w.heap.size 0 rfl n.cl _ (ndR (HRR.out _ (by assumption))) Try.underlying27 rfl ndI ?_)
                  go_loopw [12, 14] (fun o i wr => ∃ k : Nat, p ≤ k ∧ k ≤ q ∧ i = .int .i64 (k : Int) ∧ ∃ m : List (Int × Int), m ++ upN base n p (k - p) = ([] : List (Int × Int)) ++ upN base n p (q - p) ∧ wr.ownsRow Wa.heap.size 45 2 o m.length (flatE m) ∧ m.length ≤ 1 + 2 * (q - k) ∧ Below Wa.heap.size Wa wr) (fun _ i _ => (intOf i).toNat)
                  case atStart => exact ⟨q, hpq, Nat.le_refl _, rfl, [], rfl, World.ownsRow_nil _ _ _ _, by simp, hl⟩
                  case round =>
                    rename World => wr
                    obtain ⟨k, hpk, hkq, rfl, m, hm, ho, hml, hb⟩ := hrel
                    have HM := Lib.hid hm
                    have HO := Lib.hid ho
                    clear hm ho
                    by_cases hlt : p < k
                    · obtain ⟨j, rfl⟩ : ∃ j, k = j + 1 := ⟨k - 1, by omega⟩
                      have hki : (p : Int) < ((j + 1 : Nat) : Int) := by omega
                      have hwk : IntKind.i64.wrap (((j + 1 : Nat) : Int) - 1) = (j : Int) := by rw [IntKind.wrap_i64]; omega
                      have hwj : IntKind.i64.wrap (j : Int) = (j : Int) := by rw [IntKind.wrap_i64]; omega
                      have hwj1 : IntKind.i64.wrap ((j : Int) + 1 - 1) = (j : Int) := by rw [IntKind.wrap_i64]; omega
                      have hj8 : (j : Int) < 8 := by omega
                      have hj0 : ¬ (j : Int) < 0 := by omega
                      have HK := Lib.hid (fun W => (show Calls Try.prog 37 #[.int .u64 base, .int .i64 ((j : Int) + 1)] W fun e w' => e = .returned (.int .u64 (kA base (j + 1))) ∧ W = w' from kt_any hbse (i := j + 1) (by omega) W))
                      have HPt := Lib.hid (fun W => (show Calls Try.prog 38 #[.int .u64 base, .int .i64 ((j : Int) + 1)] W fun e w' => e = .returned (.int .u64 (pA base (j + 1))) ∧ W = w' from pt_any hbse (i := j + 1) (by omega) W))
                      have HST := Lib.hid (show upN base n p (j + 1 - p) = [(pA base (j + 1), n.ptr j), (kA base (j + 1), n.key j)] ++ upN base n p (j - p) by rw [show j + 1 - p = (j - p) + 1 by omega, upN, show p + (j - p) = j by omega] <;> rfl)
                      have hN := fun W' (hb : Below Wa.heap.size Wa W') => And.intro (ndAt_key (HRR.out W' hb) (i := j) (by omega)) (ndAt_ptr (HRR.out W' hb) (i := j) (by omega))
                      obtain ⟨y, hy⟩ : ∃ y, y = n.key j := ⟨_, rfl⟩
                      obtain ⟨z, hz⟩ : ∃ z, z = n.ptr j := ⟨_, rfl⟩
                      rw [← hy, ← hz] at HST hN
                      have STAY := Lib.hid (fun W' (hb : Below Wa.heap.size Wa W') => And.intro (hN W' hb).1 (And.intro (hN W' hb).2 hb))
                      clear hy hz hN
                      go_wp2_with fail
                      refine wp_region_held_drew (S := fun W' => W'.cell? ⟨w.heap.size, 5 + j, none⟩ = some (.int .u64 y) ∧ W'.cell? ⟨w.heap.size, 13 + j, none⟩ = some (.int .u64 z) ∧ Below Wa.heap.size Wa W') (by kernel_rfl) (STAY.out _ (low_and hb (drew_low9 _))) (fun hHeld => ?_)
                      refine wpAnyH_take (i := 0) (oi := ⟨some 73, _, _, _, _, _⟩) (v := u12) rfl (by kernel_rfl) (by kernel_rfl) (by kernel_rfl) (fun _ _ _ h => h) (Or.inl ⟨by rfl, by intro WW hSw; (try dsimp only at hSw); go_simp⟩) (by assumption) ?_
                      (try simp only [Act.put, List.setIfInBounds_toArray, List.set_cons_zero, List.set_cons_succ])
                      refine wpAnyH_take (i := 1) (oi := ⟨some 74, _, _, _, _, _⟩) (v := .int .u64 base) rfl (by kernel_rfl) (by kernel_rfl) (by kernel_rfl) (fun _ _ _ h => h) (Or.inl ⟨by rfl, by intro WW hSw; (try dsimp only at hSw); go_simp⟩) (by assumption) ?_
                      (try simp only [Act.put, List.setIfInBounds_toArray, List.set_cons_zero, List.set_cons_succ])
                      refine wpAnyH_take (i := 2) (oi := ⟨some 75, _, _, _, _, _⟩) (v := .int .i64 ((j : Int) + 1)) rfl (by kernel_rfl) (by kernel_rfl) (by kernel_rfl) (fun _ _ _ h => h) (Or.inl ⟨by rfl, by intro WW hSw; (try dsimp only at hSw); go_simp⟩) (by assumption) ?_
                      (try simp only [Act.put, List.setIfInBounds_toArray, List.set_cons_zero, List.set_cons_succ])
                      refine wpAnyH_take (i := 4) (oi := ⟨some 77, _, _, _, _, _⟩) (v := .int .i64 ((j : Int) + 1)) rfl (by kernel_rfl) (by kernel_rfl) (by kernel_rfl) (fun _ _ _ h => h) (Or.inl ⟨by rfl, by intro WW hSw; (try dsimp only at hSw); go_simp⟩) (by assumption) ?_
                      (try simp only [Act.put, List.setIfInBounds_toArray, List.set_cons_zero, List.set_cons_succ])
                      refine wpAnyH_take (i := 5) (oi := ⟨some 78, _, _, _, _, _⟩) (v := .int .i64 (j : Int)) rfl (by kernel_rfl) (by kernel_rfl) (by kernel_rfl) (fun _ _ _ h => h) (Or.inl ⟨by rfl, by intro WW hSw; (try dsimp only at hSw); go_simp⟩) (by assumption) ?_
                      (try simp only [Act.put, List.setIfInBounds_toArray, List.set_cons_zero, List.set_cons_succ])
                      refine wpAnyH_take (i := 6) (oi := ⟨some 79, _, _, _, _, _⟩) (v := .pointer (some ⟨w.heap.size, 13, none⟩)) rfl (by kernel_rfl) (by kernel_rfl) (by kernel_rfl) (fun _ _ _ h => h) (Or.inl ⟨by rfl, by intro WW hSw; (try dsimp only at hSw); go_simp⟩) (by assumption) ?_
                      (try simp only [Act.put, List.setIfInBounds_toArray, List.set_cons_zero, List.set_cons_succ])
                      refine wpAnyH_take (i := 7) (oi := ⟨some 80, _, _, _, _, _⟩) (v := .pointer (some ⟨w.heap.size, 13 + j, none⟩)) rfl (by kernel_rfl) (by kernel_rfl) (by kernel_rfl) (fun _ _ _ h => h) (Or.inl ⟨by rfl, by intro WW hSw; (try dsimp only at hSw); go_simp⟩) (by assumption) ?_
                      (try simp only [Act.put, List.setIfInBounds_toArray, List.set_cons_zero, List.set_cons_succ])
                      refine wpAnyH_take (i := 8) (oi := ⟨some 81, _, _, _, _, _⟩) (v := .int .u64 z) rfl (by kernel_rfl) (by kernel_rfl) (by kernel_rfl) (fun _ _ _ h => h) (Or.inl ⟨by rfl, by intro WW hSw; (try dsimp only at hSw); go_simp⟩) (by assumption) ?_
                      (try simp only [Act.put, List.setIfInBounds_toArray, List.set_cons_zero, List.set_cons_succ])
                      refine wpAnyH_take (i := 10) (oi := ⟨some 83, _, _, _, _, _⟩) (v := .int .u64 base) rfl (by kernel_rfl) (by kernel_rfl) (by kernel_rfl) (fun _ _ _ h => h) (Or.inl ⟨by rfl, by intro WW hSw; (try dsimp only at hSw); go_simp⟩) (by assumption) ?_
                      (try simp only [Act.put, List.setIfInBounds_toArray, List.set_cons_zero, List.set_cons_succ])
                      refine wpAnyH_take (i := 11) (oi := ⟨some 84, _, _, _, _, _⟩) (v := .int .i64 ((j : Int) + 1)) rfl (by kernel_rfl) (by kernel_rfl) (by kernel_rfl) (fun _ _ _ h => h) (Or.inl ⟨by rfl, by intro WW hSw; (try dsimp only at hSw); go_simp⟩) (by assumption) ?_
                      (try simp only [Act.put, List.setIfInBounds_toArray, List.set_cons_zero, List.set_cons_succ])
                      refine wpAnyH_take (i := 13) (oi := ⟨some 86, _, _, _, _, _⟩) (v := .int .i64 ((j : Int) + 1)) rfl (by kernel_rfl) (by kernel_rfl) (by kernel_rfl) (fun _ _ _ h => h) (Or.inl ⟨by rfl, by intro WW hSw; (try dsimp only at hSw); go_simp⟩) (by assumption) ?_
                      (try simp only [Act.put, List.setIfInBounds_toArray, List.set_cons_zero, List.set_cons_succ])
                      refine wpAnyH_take (i := 14) (oi := ⟨some 87, _, _, _, _, _⟩) (v := .int .i64 (j : Int)) rfl (by kernel_rfl) (by kernel_rfl) (by kernel_rfl) (fun _ _ _ h => h) (Or.inl ⟨by rfl, by intro WW hSw; (try dsimp only at hSw); go_simp⟩) (by assumption) ?_
                      (try simp only [Act.put, List.setIfInBounds_toArray, List.set_cons_zero, List.set_cons_succ])
                      refine wpAnyH_take (i := 15) (oi := ⟨some 88, _, _, _, _, _⟩) (v := .pointer (some ⟨w.heap.size, 5, none⟩)) rfl (by kernel_rfl) (by kernel_rfl) (by kernel_rfl) (fun _ _ _ h => h) (Or.inl ⟨by rfl, by intro WW hSw; (try dsimp only at hSw); go_simp⟩) (by assumption) ?_
                      (try simp only [Act.put, List.setIfInBounds_toArray, List.set_cons_zero, List.set_cons_succ])
                      refine wpAnyH_take (i := 16) (oi := ⟨some 89, _, _, _, _, _⟩) (v := .pointer (some ⟨w.heap.size, 5 + j, none⟩)) rfl (by kernel_rfl) (by kernel_rfl) (by kernel_rfl) (fun _ _ _ h => h) (Or.inl ⟨by rfl, by intro WW hSw; (try dsimp only at hSw); go_simp⟩) (by assumption) ?_
                      (try simp only [Act.put, List.setIfInBounds_toArray, List.set_cons_zero, List.set_cons_succ])
                      refine wpAnyH_take (i := 17) (oi := ⟨some 90, _, _, _, _, _⟩) (v := .int .u64 y) rfl (by kernel_rfl) (by kernel_rfl) (by kernel_rfl) (fun _ _ _ h => h) (Or.inl ⟨by rfl, by intro WW hSw; (try dsimp only at hSw); go_simp⟩) (by assumption) ?_
                      (try simp only [Act.put, List.setIfInBounds_toArray, List.set_cons_zero, List.set_cons_succ])
                      refine wpAnyH_one (i := 3) (oi := ⟨some 76, _, _, _, _, _⟩) rfl (by kernel_rfl) (fun K hK => ?_)
                      refine step_calls (by rfl) 38 EGp.out [.tmp 74, .tmp 75] _ rfl [.int .u64 base, .int .i64 ((j : Int) + 1)] rfl (HPt.out _) ?_
                      rintro e w5 ⟨rfl, rfl⟩
                      refine ⟨_, rfl, hK _ _ (hHeld) (fun hSn => ?_)⟩
                      clear hK K
                      (try simp only [Act.put, List.setIfInBounds_toArray, List.set_cons_zero, List.set_cons_succ])
                      refine wpAnyH_take (i := 9) (oi := ⟨some 82, _, _, _, _, _⟩) (v := .agg #[.int .u64 (pA base (j + 1)), .int .u64 z]) rfl (by kernel_rfl) (by kernel_rfl) (by kernel_rfl) (fun _ _ _ h => h) (Or.inl ⟨by rfl, by intro WW hSw; (try dsimp only at hSw); go_simp⟩) (by assumption) ?_
                      (try simp only [Act.put, List.setIfInBounds_toArray, List.set_cons_zero, List.set_cons_succ])
                      refine wpAnyH_one (i := 12) (oi := ⟨some 85, _, _, _, _, _⟩) rfl (by kernel_rfl) (fun K hK => ?_)
                      refine step_calls (by rfl) 37 EGk.out [.tmp 83, .tmp 84] _ rfl [.int .u64 base, .int .i64 ((j : Int) + 1)] rfl (HK.out _) ?_
                      rintro e w6 ⟨rfl, rfl⟩
                      refine ⟨_, rfl, hK _ _ (hHeld) (fun hSn => ?_)⟩
                      clear hK K
                      (try simp only [Act.put, List.setIfInBounds_toArray, List.set_cons_zero, List.set_cons_succ])
                      refine wpAnyH_take (i := 18) (oi := ⟨some 91, _, _, _, _, _⟩) (v := .agg #[.int .u64 (kA base (j + 1)), .int .u64 y]) rfl (by kernel_rfl) (by kernel_rfl) (by kernel_rfl) (fun _ _ _ h => h) (Or.inl ⟨by rfl, by intro WW hSw; (try dsimp only at hSw); go_simp⟩) (by assumption) ?_
                      (try simp only [Act.put, List.setIfInBounds_toArray, List.set_cons_zero, List.set_cons_succ])
                      refine wpAnyH_one (i := 19) (oi := ⟨some 92, _, _, _, _, _⟩) rfl (by kernel_rfl) (fun K hK => ?_)
                      rw [if_pos (by rfl)]
                      unfold Oper.wp
                      go_simp
                      refine hK _ _ (STAY.out _ (low_and hb (low_and (alloc_low _ _) (drew_low9 _)))) (fun hSn => ?_)
                      clear hK K
                      (try simp only [Act.put, List.setIfInBounds_toArray, List.set_cons_zero, List.set_cons_succ])
                      refine wpAnyH_one (i := 20) (oi := ⟨some 93, _, _, _, _, _⟩) rfl (by kernel_rfl) (fun K hK => ?_)
                      refine step_append_lies _ (by rfl) (.tmp 73) (.tmp 92) _ (by rfl) Wa.heap.size 45 i0 (.agg #[.int .u64 0, .int .u64 0]) 2 16 rfl hi hz0 hz1 hz2 rfl (by decide) _ _ _ (by rfl) (ownS_low HO.out (low_and (alloc_low _ _) (drew_low9 _))) ⟨wr.heap.size, 0, none⟩ 2 2 [.int .u64 (pA base (j + 1)), .int .u64 z, .int .u64 (kA base (j + 1)), .int .u64 y] (by rfl) (by rfl) (World.news_of_block (cs := #[.int .u64 (pA base (j + 1)), .int .u64 z, .int .u64 (kA base (j + 1)), .int .u64 y]) (t := 45) (fr := (0, 0)) (heap_alloc_new9 _ _)) (by intro u hu; simp at hu; rcases hu with rfl | rfl | rfl | rfl <;> rfl) (by decide) (by unfold maxLen; omega) (by omega) (by simp; have := hb.size; omega) (wr.heap.size + 1) (by simp) ?_
                      intro g4 cap4 w4 hown hgrow hsm hlt4
                      have HO4 := Lib.hid hown
                      have HB4 := Lib.hid (show Below Wa.heap.size Wa w4 from (low_and hb (low_and (alloc_low _ _) (drew_low9 _))).grown hgrow (by have := hb.size; simp; omega) (fun j hj => (ownS_from HO.out j hj).1))
                      clear hown hgrow hsm hlt4
                      refine hK _ _ (STAY.out _ HB4.out) (fun hSn => ?_)
                      clear hK K
                      (try simp only [Act.put, List.setIfInBounds_toArray, List.set_cons_zero, List.set_cons_succ])
                      refine wpAnyH_take (i := 21) (oi := ⟨some 12, _, _, _, _, _⟩) (v := .slice (some ⟨g4, 0, none⟩) (m.length + 2) cap4) rfl (by kernel_rfl) (by kernel_rfl) (by kernel_rfl) (fun _ _ _ h => h) (Or.inl ⟨by rfl, by intro WW hSw; (try dsimp only at hSw); go_simp⟩) (by assumption) ?_
                      (try simp only [Act.put, List.setIfInBounds_toArray, List.set_cons_zero, List.set_cons_succ])
                      refine wpAnyH_done (by kernel_rfl) ?_ _
                      go_wp2
                      refine ⟨⟨j, by omega, by omega, by go_num, m ++ [(pA base (j + 1), z), (kA base (j + 1), y)], by rw [← HM.out, HST.out, List.append_assoc], ?_, by rw [List.length_append]; simp; omega, HB4.out⟩, by simp [intOf]⟩
                      rw [flatE_two, List.length_append]
                      exact HO4.out

                    · obtain rfl : k = p := by omega
                      have hki : ¬ (k : Int) < (k : Int) := by omega
                      have HK := Lib.hid (fun W => kt_any hbse (i := k) (by omega) W)
                      have HPt := Lib.hid (fun W => pt_any hbse (i := k) (by omega) W)
                      have HAh := Lib.hid (fun W' => r9ahead_any n (p := k) (by omega) W')
                      have HE := Lib.hid (show m = ([] : List (Int × Int)) ++ upN base n k (q - k) by rw [← HM.out, Nat.sub_self]; simp [upN])
                      generalize n.ahd k = ah at HAh HR
                      go_wp2_with fail
                      refine wp_region_held_drew (S := fun W' => Below Wa.heap.size Wa W') (by kernel_rfl) (low_and hb (drew_low9 _)) (fun hHeld => ?_)
                      refine wpAnyH_take (i := 0) (oi := ⟨some 94, _, _, _, _, _⟩) (v := u12) rfl (by kernel_rfl) (by kernel_rfl) (by kernel_rfl) (fun _ _ _ h => h) (Or.inl ⟨by rfl, by intro WW hSw; (try dsimp only at hSw); go_simp⟩) (by assumption) ?_
                      (try simp only [Act.put, List.setIfInBounds_toArray, List.set_cons_zero, List.set_cons_succ])
                      refine wpAnyH_take (i := 1) (oi := ⟨some 95, _, _, _, _, _⟩) (v := .int .u64 base) rfl (by kernel_rfl) (by kernel_rfl) (by kernel_rfl) (fun _ _ _ h => h) (Or.inl ⟨by rfl, by intro WW hSw; (try dsimp only at hSw); go_simp⟩) (by assumption) ?_
                      (try simp only [Act.put, List.setIfInBounds_toArray, List.set_cons_zero, List.set_cons_succ])
                      refine wpAnyH_take (i := 2) (oi := ⟨some 96, _, _, _, _, _⟩) (v := .int .i64 (k : Int)) rfl (by kernel_rfl) (by kernel_rfl) (by kernel_rfl) (fun _ _ _ h => h) (Or.inl ⟨by rfl, by intro WW hSw; (try dsimp only at hSw); go_simp⟩) (by assumption) ?_
                      (try simp only [Act.put, List.setIfInBounds_toArray, List.set_cons_zero, List.set_cons_succ])
                      refine wpAnyH_take (i := 4) (oi := ⟨some 98, _, _, _, _, _⟩) (v := .agg n.cl.toArray) rfl (by kernel_rfl) (by kernel_rfl) (by kernel_rfl) (fun _ _ _ h => h) (yieldsIf_load_mid (by rfl) _ _ rfl w.heap.size 0 rfl n.cl _ (fun w' hw' => ndR (HRR.out _ hw')) Try.underlying27 rfl ndI) (by assumption) ?_
                      (try simp only [Act.put, List.setIfInBounds_toArray, List.set_cons_zero, List.set_cons_succ])
                      refine wpAnyH_take (i := 5) (oi := ⟨some 99, _, _, _, _, _⟩) (v := .int .i64 (k : Int)) rfl (by kernel_rfl) (by kernel_rfl) (by kernel_rfl) (fun _ _ _ h => h) (Or.inl ⟨by rfl, by intro WW hSw; (try dsimp only at hSw); go_simp⟩) (by assumption) ?_
                      (try simp only [Act.put, List.setIfInBounds_toArray, List.set_cons_zero, List.set_cons_succ])
                      refine wpAnyH_take (i := 8) (oi := ⟨some 102, _, _, _, _, _⟩) (v := .int .u64 base) rfl (by kernel_rfl) (by kernel_rfl) (by kernel_rfl) (fun _ _ _ h => h) (Or.inl ⟨by rfl, by intro WW hSw; (try dsimp only at hSw); go_simp⟩) (by assumption) ?_
                      (try simp only [Act.put, List.setIfInBounds_toArray, List.set_cons_zero, List.set_cons_succ])
                      refine wpAnyH_take (i := 9) (oi := ⟨some 103, _, _, _, _, _⟩) (v := .int .i64 (k : Int)) rfl (by kernel_rfl) (by kernel_rfl) (by kernel_rfl) (fun _ _ _ h => h) (Or.inl ⟨by rfl, by intro WW hSw; (try dsimp only at hSw); go_simp⟩) (by assumption) ?_
                      (try simp only [Act.put, List.setIfInBounds_toArray, List.set_cons_zero, List.set_cons_succ])
                      refine wpAnyH_take (i := 11) (oi := ⟨some 105, _, _, _, _, _⟩) (v := .int .u64 key) rfl (by kernel_rfl) (by kernel_rfl) (by kernel_rfl) (fun _ _ _ h => h) (Or.inl ⟨by rfl, by intro WW hSw; (try dsimp only at hSw); go_simp⟩) (by assumption) ?_
                      (try simp only [Act.put, List.setIfInBounds_toArray, List.set_cons_zero, List.set_cons_succ])
                      refine wpAnyH_take (i := 13) (oi := ⟨some 107, _, _, _, _, _⟩) (v := .int .u64 base) rfl (by kernel_rfl) (by kernel_rfl) (by kernel_rfl) (fun _ _ _ h => h) (Or.inl ⟨by rfl, by intro WW hSw; (try dsimp only at hSw); go_simp⟩) (by assumption) ?_
                      (try simp only [Act.put, List.setIfInBounds_toArray, List.set_cons_zero, List.set_cons_succ])
                      refine wpAnyH_take (i := 14) (oi := ⟨some 108, _, _, _, _, _⟩) (v := .int .i64 (k : Int)) rfl (by kernel_rfl) (by kernel_rfl) (by kernel_rfl) (fun _ _ _ h => h) (Or.inl ⟨by rfl, by intro WW hSw; (try dsimp only at hSw); go_simp⟩) (by assumption) ?_
                      (try simp only [Act.put, List.setIfInBounds_toArray, List.set_cons_zero, List.set_cons_succ])
                      refine wpAnyH_take (i := 16) (oi := ⟨some 110, _, _, _, _, _⟩) (v := .int .u64 ptr) rfl (by kernel_rfl) (by kernel_rfl) (by kernel_rfl) (fun _ _ _ h => h) (Or.inl ⟨by rfl, by intro WW hSw; (try dsimp only at hSw); go_simp⟩) (by assumption) ?_
                      (try simp only [Act.put, List.setIfInBounds_toArray, List.set_cons_zero, List.set_cons_succ])
                      refine wpAnyH_one (i := 3) (oi := ⟨some 97, _, _, _, _, _⟩) rfl (by kernel_rfl) (fun K hK => ?_)
                      refine step_calls (by rfl) 38 EGp.out [.tmp 95, .tmp 96] _ rfl [.int .u64 base, .int .i64 (k : Int)] rfl (HPt.out _) ?_
                      rintro e w5 ⟨rfl, rfl⟩
                      refine ⟨_, rfl, hK _ _ (hHeld) (fun hSn => ?_)⟩
                      clear hK K
                      (try simp only [Act.put, List.setIfInBounds_toArray, List.set_cons_zero, List.set_cons_succ])
                      refine wpAnyH_one (i := 6) (oi := ⟨some 100, _, _, _, _, _⟩) rfl (by kernel_rfl) (fun K hK => ?_)
                      refine step_calls (by rfl) 64 EGa.out [.tmp 98, .tmp 99] _ rfl [n.V, .int .i64 (k : Int)] rfl (HAh.out _) ?_
                      rintro e w5 ⟨rfl, h5⟩
                      have g5 := low_and hHeld h5
                      have HO5 := Lib.hid (ownS_low HO.out (low_and (drew_low9 _) h5))
                      refine ⟨_, rfl, hK _ _ (g5) (fun hSn => ?_)⟩
                      clear hK K
                      (try simp only [Act.put, List.setIfInBounds_toArray, List.set_cons_zero, List.set_cons_succ])
                      refine wpAnyH_take (i := 7) (oi := ⟨some 101, _, _, _, _, _⟩) (v := .agg #[.int .u64 (pA base k), .int .u64 ah]) rfl (by kernel_rfl) (by kernel_rfl) (by kernel_rfl) (fun _ _ _ h => h) (Or.inl ⟨by rfl, by intro WW hSw; (try dsimp only at hSw); go_simp⟩) (by assumption) ?_
                      (try simp only [Act.put, List.setIfInBounds_toArray, List.set_cons_zero, List.set_cons_succ])
                      refine wpAnyH_one (i := 10) (oi := ⟨some 104, _, _, _, _, _⟩) rfl (by kernel_rfl) (fun K hK => ?_)
                      refine step_calls (by rfl) 37 EGk.out [.tmp 102, .tmp 103] _ rfl [.int .u64 base, .int .i64 (k : Int)] rfl (HK.out _) ?_
                      rintro e w6 ⟨rfl, rfl⟩
                      refine ⟨_, rfl, hK _ _ (g5) (fun hSn => ?_)⟩
                      clear hK K
                      (try simp only [Act.put, List.setIfInBounds_toArray, List.set_cons_zero, List.set_cons_succ])
                      refine wpAnyH_take (i := 12) (oi := ⟨some 106, _, _, _, _, _⟩) (v := .agg #[.int .u64 (kA base k), .int .u64 key]) rfl (by kernel_rfl) (by kernel_rfl) (by kernel_rfl) (fun _ _ _ h => h) (Or.inl ⟨by rfl, by intro WW hSw; (try dsimp only at hSw); go_simp⟩) (by assumption) ?_
                      (try simp only [Act.put, List.setIfInBounds_toArray, List.set_cons_zero, List.set_cons_succ])
                      refine wpAnyH_one (i := 15) (oi := ⟨some 109, _, _, _, _, _⟩) rfl (by kernel_rfl) (fun K hK => ?_)
                      refine step_calls (by rfl) 38 EGp.out [.tmp 107, .tmp 108] _ rfl [.int .u64 base, .int .i64 (k : Int)] rfl (HPt.out _) ?_
                      rintro e w6 ⟨rfl, rfl⟩
                      refine ⟨_, rfl, hK _ _ (g5) (fun hSn => ?_)⟩
                      clear hK K
                      (try simp only [Act.put, List.setIfInBounds_toArray, List.set_cons_zero, List.set_cons_succ])
                      refine wpAnyH_take (i := 17) (oi := ⟨some 111, _, _, _, _, _⟩) (v := .agg #[.int .u64 (pA base k), .int .u64 ptr]) rfl (by kernel_rfl) (by kernel_rfl) (by kernel_rfl) (fun _ _ _ h => h) (Or.inl ⟨by rfl, by intro WW hSw; (try dsimp only at hSw); go_simp⟩) (by assumption) ?_
                      (try simp only [Act.put, List.setIfInBounds_toArray, List.set_cons_zero, List.set_cons_succ])
                      refine wpAnyH_one (i := 18) (oi := ⟨some 112, _, _, _, _, _⟩) rfl (by kernel_rfl) (fun K hK => ?_)
                      rw [if_pos (by rfl)]
                      unfold Oper.wp
                      go_simp
                      refine hK _ _ (low_and g5 (alloc_low _ _)) (fun hSn => ?_)
                      clear hK K
                      (try simp only [Act.put, List.setIfInBounds_toArray, List.set_cons_zero, List.set_cons_succ])
                      refine wpAnyH_one (i := 19) (oi := ⟨some 113, _, _, _, _, _⟩) rfl (by kernel_rfl) (fun K hK => ?_)
                      refine step_append_lies _ (by rfl) (.tmp 94) (.tmp 112) _ (by rfl) Wa.heap.size 45 i0 (.agg #[.int .u64 0, .int .u64 0]) 2 16 rfl hi hz0 hz1 hz2 rfl (by decide) _ _ _ (by rfl) (ownS_low HO5.out (alloc_low _ _)) ⟨w5.heap.size, 0, none⟩ 3 3 [.int .u64 (pA base k), .int .u64 ah, .int .u64 (kA base k), .int .u64 key, .int .u64 (pA base k), .int .u64 ptr] (by rfl) (by rfl) (World.news_of_block (cs := #[.int .u64 (pA base k), .int .u64 ah, .int .u64 (kA base k), .int .u64 key, .int .u64 (pA base k), .int .u64 ptr]) (t := 45) (fr := (0, 0)) (heap_alloc_new9 _ _)) (by intro u hu; simp at hu; rcases hu with rfl | rfl | rfl | rfl | rfl | rfl <;> rfl) (by decide) (by unfold maxLen; omega) (by omega) (by simp; have := g5.size; omega) (w5.heap.size + 1) (by simp) ?_
                      intro g4 cap4 w4 hown hgrow hsm hlt4
                      have HB4 := Lib.hid (show Below Wa.heap.size Wa w4 from (low_and g5 (alloc_low _ _)).grown hgrow (by have := g5.size; simp; omega) (fun j hj => (ownS_from HO5.out j hj).1))
                      have h6 : w4.ownsRow Wa.heap.size 45 2 (.slice (some ⟨g4, 0, none⟩) (m.length + 3) cap4) (m ++ [(pA base k, ah), (kA base k, key), (pA base k, ptr)]).length (flatE (m ++ [(pA base k, ah), (kA base k, key), (pA base k, ptr)])) := by
                        rw [List.length_append, flatE_app]
                        exact hown
                      have HE6 := Lib.hid (ent_ownG h6)
                      clear hown hgrow hsm hlt4 h6
                      refine hK _ _ (HB4.out) (fun hSn => ?_)
                      clear hK K
                      (try simp only [Act.put, List.setIfInBounds_toArray, List.set_cons_zero, List.set_cons_succ])
                      refine wpAnyH_take (i := 20) (oi := ⟨some 12, _, _, _, _, _⟩) (v := .slice (some ⟨g4, 0, none⟩) (m.length + 3) cap4) rfl (by kernel_rfl) (by kernel_rfl) (by kernel_rfl) (fun _ _ _ h => h) (Or.inl ⟨by rfl, by intro WW hSw; (try dsimp only at hSw); go_simp⟩) (by assumption) ?_
                      (try simp only [Act.put, List.setIfInBounds_toArray, List.set_cons_zero, List.set_cons_succ])
                      refine wpAnyH_done (by kernel_rfl) ?_ _
                      have hb4 := HB4.out
                      have HWh := Lib.hid (whole_any hbse n HE6.out (by simp) (by simp; omega))
                      go_wp2_with ((with_reducible refine show_load ?_); refine wpList_load_mid rfl 27 _ rfl w.heap.size 0 rfl n.cl _ (ndR (HRR.out _ (by assumption))) Try.underlying27 rfl ndI ?_)
                      go_at_call 65
                      refine HWh.out.mono ?_
                      rintro e w7 ⟨⟨v7, rfl, ho7⟩, h7⟩
                      have g7 := low_and hb4 h7
                      have HO7 := Lib.hid (ownS_mono ho7 (show w.heap.size ≤ w4.heap.size from Nat.le_trans HWs.out hb4.size))
                      clear ho7
                      go_wp2
                      go_ret2
                      rw [HR.out, show (([] : List (Int × Int)) ++ (upN base n k (q - k) ++ [(pA base k, ah)]) ++ [(kA base k, key), (pA base k, ptr)]) = m ++ [(pA base k, ah), (kA base k, key), (pA base k, ptr)] by rw [HE.out]; simp]
                      exact ⟨⟨_, rfl, HO7.out⟩, low_and HB0.out g7⟩
  · have HR := Lib.hid (show R = ([], 2) by rw [hP]; simp)
    clear hP hbb hzz
    go_enter Try.func29, Try.ntmps29
    go_wp2_with (first
      | (rw [← HWa.out]; (refine wpList_load_mid rfl 27 _ rfl w.heap.size 0 rfl n.cl _ (ndR (HRR.out _ (by assumption))) Try.underlying27 rfl ndI ?_))
      | (refine wpList_load_mid rfl 27 _ rfl w.heap.size 0 rfl n.cl _ (ndR (HRR.out _ (by assumption))) Try.underlying27 rfl ndI ?_)
      | (go_at_call 60; refine (HMy.out _).mono ?_; rintro e w1 ⟨rfl, h1⟩; have h1 := low_and hr0 h1))
    go_ret2
    rw [HR.out]
    exact ⟨⟨_, rfl, World.ownsRow_nil _ _ _ _⟩, low_and HB0.out h1⟩
  · cases hd with
    | true =>
      have HR := Lib.hid (show R = ([], 2) by rw [hP]; simp)
      clear hP hbb hzz
      go_enter Try.func29, Try.ntmps29
      go_wp2_with (first
            | (rw [← HWa.out]; (refine wpList_load_mid rfl 27 _ rfl w.heap.size 0 rfl n.cl _ (ndR (HRR.out _ (by assumption))) Try.underlying27 rfl ndI ?_))
            | (refine wpList_load_mid rfl 27 _ rfl w.heap.size 0 rfl n.cl _ (ndR (HRR.out _ (by assumption))) Try.underlying27 rfl ndI ?_)
            | (go_at_call 60; refine (HMy.out _).mono ?_; rintro e w1 ⟨rfl, h1⟩; have h1 := low_and hr0 h1)
            | (refine wpList_load_midg (by rfl) 27 _ rfl w.heap.size 0 rfl n.cl _ (ndR (HRR.out _ (by assumption))) Try.underlying27 rfl ndI ?_)
            | (go_at_call 61; refine (HHd.out _).mono ?_; rintro e wh ⟨rfl, hh⟩; have h1 := low_and h1 hh))
      go_ret2
      rw [HR.out]
      exact ⟨⟨_, rfl, World.ownsRow_nil _ _ _ _⟩, low_and HB0.out h1⟩
    | false =>
      have HR := Lib.hid (show R = ([], 7) by rw [hP]; simp)
      clear hP hbb hzz
      go_enter Try.func29, Try.ntmps29
      go_wp2_with (first
            | (rw [← HWa.out]; (refine wpList_load_mid rfl 27 _ rfl w.heap.size 0 rfl n.cl _ (ndR (HRR.out _ (by assumption))) Try.underlying27 rfl ndI ?_))
            | (refine wpList_load_mid rfl 27 _ rfl w.heap.size 0 rfl n.cl _ (ndR (HRR.out _ (by assumption))) Try.underlying27 rfl ndI ?_)
            | (go_at_call 60; refine (HMy.out _).mono ?_; rintro e w1 ⟨rfl, h1⟩; have h1 := low_and hr0 h1)
            | (refine wpList_load_midg (by rfl) 27 _ rfl w.heap.size 0 rfl n.cl _ (ndR (HRR.out _ (by assumption))) Try.underlying27 rfl ndI ?_)
            | (go_at_call 61; refine (HHd.out _).mono ?_; rintro e wh ⟨rfl, hh⟩; have h1 := low_and h1 hh))
      go_ret2
      rw [HR.out]
      exact ⟨⟨_, rfl, World.ownsRow_nil _ _ _ _⟩, low_and HB0.out h1⟩
end Go.Proofs.Ytbadlmicbbjkaaa
/- The document's Delete and Cut: of any node; conditions: numbers of the width. -/
namespace Go.Proofs.Ytbadlmicbbjkaaa
open Go.RowKit
set_option linter.unusedVariables false
set_option linter.unusedSimpArgs false
set_option maxRecDepth 100000 in
set_option maxHeartbeats 8000000 in
theorem r9del_any {base : Int} (hb : 0 ≤ base) (n : Nd) (key : Int) (w : World) : Calls Try.prog 30 #[.int .u64 base, n.V, .int .u64 key] w (PutsOut w (delP base n key)) := by
  obtain ⟨i0, hi, hz0, hz1, hz2⟩ := info_parts infoPut
  have r0 := Row.new w 27 n.cl.toArray
  obtain ⟨Wa, hWa⟩ : ∃ Wa, Wa = w.alloc (.cells n.cl.toArray 27) := ⟨_, rfl⟩
  rw [← hWa] at r0
  have hb0 : Below w.heap.size w Wa := by rw [hWa]; exact alloc_low _ _
  have HB0 := Lib.hid hb0
  have HRR := Lib.hid (fun W' (hb : Below Wa.heap.size Wa W') => (show NdAt W' w.heap.size n from r0.below hb r0.lt))
  have HWa := Lib.hid hWa
  have HWs := Lib.hid (show w.heap.size ≤ Wa.heap.size from hb0.size)
  have hl8 := n.len_le
  have hr0 := Below.refl Wa.heap.size Wa
  have HMy := Lib.hid (fun W' => r9may_any hb n W')
  have EGp := Lib.hid (enters_of Try.func38 (by kernel_rfl) rfl)
  have EGa := Lib.hid (enters_of Try.func64 (by kernel_rfl) rfl)
  have EGg := Lib.hid (enters_of Try.func66 (by kernel_rfl) rfl)
  have EGw := Lib.hid (enters_of Try.func65 (by kernel_rfl) rfl)
  have EGi := Lib.hid (enters_of Try.func18 (by kernel_rfl) rfl)
  have HFd0 := Lib.hid (fun W' => r8Find_any n key W')
  have hP : delP base n key = (if refE base n [] ≠ 0 then ([], refE base n []) else match n.find key with | none => ([], 5) | some p => (wholeL base n ((pA base p, n.ahd p) :: dnL base n p (n.len - 1 - p)), 0)) := rfl
  have hbb := fun h => refE_base (b := base) (n := n) (l := []) h
  have hfl := fun p h => find_lt (n := n) (key := key) (p := p) h
  have hfe : fndL n key n.vp = match n.find key with | some p => (p : Int) | none => -1 := rfl
  rw [hfe] at HFd0
  generalize n.find key = f at HFd0 hP hfl
  generalize hR : delP base n key = R at hP ⊢
  generalize refE base n [] = E at HMy hP hbb
  clear r0 hWa hb0 hR hfe
  obtain hE | hE : E ≠ 0 ∨ E = 0 := by omega
  · have HR := Lib.hid (show R = ([], E) by rw [hP, if_pos hE])
    have hEb : (E != 0) = true := by simpa using hE
    clear hP hbb hfl
    go_enter Try.func30, Try.ntmps30
    go_wp2_with (first
      | (rw [← HWa.out]; (refine wpList_load_mid rfl _ _ rfl w.heap.size 0 rfl n.cl _ (ndR (HRR.out _ (by assumption))) Try.underlying27 rfl ndI ?_))
      | (refine wpList_load_mid rfl _ _ rfl w.heap.size 0 rfl n.cl _ (ndR (HRR.out _ (by assumption))) Try.underlying27 rfl ndI ?_)
      | (go_at_call 60; refine (HMy.out _).mono ?_; rintro e w1 ⟨rfl, h1⟩; have h1 := low_and hr0 h1))
    go_ret2
    rw [HR.out]
    exact ⟨⟨_, rfl, World.ownsRow_nil _ _ _ _⟩, low_and HB0.out h1⟩
  · subst hE
    rw [if_neg (by simp)] at hP
    have hbse := hbb rfl
    clear hbb
    cases f with
    | none =>
      have HFd := Lib.hid (fun W' => (HFd0.out W').mono fun e w' h => (show e = .returned (.int .i64 (-1)) ∧ Below W'.heap.size W' w' from h))
      have HR := Lib.hid (show R = ([], 5) from hP)
      clear HFd0 hP hfl
      go_enter Try.func30, Try.ntmps30
      go_wp2_with (first
      | (rw [← HWa.out]; (refine wpList_load_mid rfl _ _ rfl w.heap.size 0 rfl n.cl _ (ndR (HRR.out _ (by assumption))) Try.underlying27 rfl ndI ?_))
      | (refine wpList_load_mid rfl _ _ rfl w.heap.size 0 rfl n.cl _ (ndR (HRR.out _ (by assumption))) Try.underlying27 rfl ndI ?_)
      | (go_at_call 60; refine (HMy.out _).mono ?_; rintro e w1 ⟨rfl, h1⟩; have h1 := low_and hr0 h1)
      | (go_at_call 62; refine (HFd.out _).mono ?_; rintro e w2 ⟨rfl, h2⟩; have h2 := low_and h1 h2))
      go_ret2
      rw [HR.out]
      exact ⟨⟨_, rfl, World.ownsRow_nil _ _ _ _⟩, low_and HB0.out h2⟩
    | some p =>
      have HFd := Lib.hid (fun W' => (HFd0.out W').mono fun e w' h => (show e = .returned (.int .i64 (p : Int)) ∧ Below W'.heap.size W' w' from h))
      have hpl := hfl p rfl
      have hp0 : ¬ (p : Int) < 0 := by omega
      have HR := Lib.hid (show R = (wholeL base n ((pA base p, n.ahd p) :: dnL base n p (n.len - 1 - p)), 0) from hP)
      have HPt := Lib.hid (fun W => pt_any hbse (i := p) (by omega) W)
      have HAh := Lib.hid (fun W' => r9ahead_any n (p := p) (by omega) W')
      have hdl := dnL_len base n (n.len - 1 - p) p
      have HG := Lib.hid (fun W' => gap_any hbse n hpl W')
      have HLit := Lib.hid (fun W' => (show EntAt (W'.alloc (.cells #[.int .u64 (pA base p), .int .u64 (n.ahd p)] 45)) (.slice (some ⟨W'.heap.size, 0, none⟩) 1 1) [(pA base p, n.ahd p)] from ent_lit W' 45 [(pA base p, n.ahd p)] (by simp)))
      generalize dnL base n p (n.len - 1 - p) = D at HR HG hdl
      generalize n.ahd p = ah at HR HAh HLit
      have HWh := Lib.hid (fun W' v (h : EntAt W' v ((pA base p, ah) :: D)) => whole_any hbse n h (by simp) (by simp; omega))
      clear HFd0 hP hfl
      go_enter Try.func30, Try.ntmps30
      go_wp2_with (first
      | (rw [← HWa.out]; (refine wpList_load_mid rfl _ _ rfl w.heap.size 0 rfl n.cl _ (ndR (HRR.out _ (by assumption))) Try.underlying27 rfl ndI ?_))
      | (refine wpList_load_mid rfl _ _ rfl w.heap.size 0 rfl n.cl _ (ndR (HRR.out _ (by assumption))) Try.underlying27 rfl ndI ?_)
      | (go_at_call 60; refine (HMy.out _).mono ?_; rintro e w1 ⟨rfl, h1⟩; have h1 := low_and hr0 h1)
      | (go_at_call 62; refine (HFd.out _).mono ?_; rintro e w2 ⟨rfl, h2⟩; have h2 := low_and h1 h2))
      refine wp_region_held_drew (S := fun W' => Below Wa.heap.size Wa W') (by kernel_rfl) (low_and h2 (drew_low9 _)) (fun hHeld => ?_)
      refine wpAnyH_take (i := 0) (oi := ⟨some 22, _, _, _, _, _⟩) (v := .int .u64 base) rfl (by kernel_rfl) (by kernel_rfl) (by kernel_rfl) (fun _ _ _ h => h) (Or.inl ⟨by rfl, by intro WW hSw; (try dsimp only at hSw); go_simp⟩) (by assumption) ?_
      (try simp only [Act.put, List.setIfInBounds_toArray, List.set_cons_zero, List.set_cons_succ])
      refine wpAnyH_take (i := 1) (oi := ⟨some 23, _, _, _, _, _⟩) (v := .int .i64 (p : Int)) rfl (by kernel_rfl) (by kernel_rfl) (by kernel_rfl) (fun _ _ _ h => h) (Or.inl ⟨by rfl, by intro WW hSw; (try dsimp only at hSw); go_simp⟩) (by assumption) ?_
      (try simp only [Act.put, List.setIfInBounds_toArray, List.set_cons_zero, List.set_cons_succ])
      refine wpAnyH_take (i := 3) (oi := ⟨some 25, _, _, _, _, _⟩) (v := .agg n.cl.toArray) rfl (by kernel_rfl) (by kernel_rfl) (by kernel_rfl) (fun _ _ _ h => h) (yieldsIf_load_mid (by rfl) _ _ rfl w.heap.size 0 rfl n.cl _ (fun w' hw' => ndR (HRR.out _ hw')) Try.underlying27 rfl ndI) (by assumption) ?_
      (try simp only [Act.put, List.setIfInBounds_toArray, List.set_cons_zero, List.set_cons_succ])
      refine wpAnyH_take (i := 4) (oi := ⟨some 26, _, _, _, _, _⟩) (v := .int .i64 (p : Int)) rfl (by kernel_rfl) (by kernel_rfl) (by kernel_rfl) (fun _ _ _ h => h) (Or.inl ⟨by rfl, by intro WW hSw; (try dsimp only at hSw); go_simp⟩) (by assumption) ?_
      (try simp only [Act.put, List.setIfInBounds_toArray, List.set_cons_zero, List.set_cons_succ])
      refine wpAnyH_one (i := 2) (oi := ⟨some 24, _, _, _, _, _⟩) rfl (by kernel_rfl) (fun K hK => ?_)
      refine step_calls (by rfl) 38 EGp.out [.tmp 22, .tmp 23] _ rfl [.int .u64 base, .int .i64 (p : Int)] rfl (HPt.out _) ?_
      rintro e w3 ⟨rfl, rfl⟩
      refine ⟨_, rfl, hK _ _ (hHeld) (fun hSn => ?_)⟩
      clear hK K
      (try simp only [Act.put, List.setIfInBounds_toArray, List.set_cons_zero, List.set_cons_succ])
      refine wpAnyH_one (i := 5) (oi := ⟨some 27, _, _, _, _, _⟩) rfl (by kernel_rfl) (fun K hK => ?_)
      refine step_calls (by rfl) 64 EGa.out [.tmp 25, .tmp 26] _ rfl [n.V, .int .i64 (p : Int)] rfl (HAh.out _) ?_
      rintro e w3 ⟨rfl, h3⟩
      have g3 := low_and hHeld h3
      refine ⟨_, rfl, hK _ _ (low_and hHeld h3) (fun hSn => ?_)⟩
      clear hK K
      (try simp only [Act.put, List.setIfInBounds_toArray, List.set_cons_zero, List.set_cons_succ])
      refine wpAnyH_take (i := 6) (oi := ⟨some 28, _, _, _, _, _⟩) (v := .agg #[.int .u64 (pA base p), .int .u64 ah]) rfl (by kernel_rfl) (by kernel_rfl) (by kernel_rfl) (fun _ _ _ h => h) (Or.inl ⟨by rfl, by intro WW hSw; (try dsimp only at hSw); go_simp⟩) (by assumption) ?_
      (try simp only [Act.put, List.setIfInBounds_toArray, List.set_cons_zero, List.set_cons_succ])
      refine wpAnyH_one (i := 7) (oi := ⟨some 29, _, _, _, _, _⟩) rfl (by kernel_rfl) (fun K hK => ?_)
      rw [if_pos (by rfl)]
      unfold Oper.wp
      go_simp
      refine hK _ _ (low_and g3 (alloc_low _ _)) (fun hSn => ?_)
      clear hK K
      (try simp only [Act.put, List.setIfInBounds_toArray, List.set_cons_zero, List.set_cons_succ])
      refine wpAnyH_take (i := 8) (oi := ⟨some 10, _, _, _, _, _⟩) (v := .slice (some ⟨w3.heap.size, 0, none⟩) 1 1) rfl (by kernel_rfl) (by kernel_rfl) (by kernel_rfl) (fun _ _ _ h => h) (Or.inl ⟨by rfl, by intro WW hSw; (try dsimp only at hSw); go_simp⟩) (by assumption) ?_
      (try simp only [Act.put, List.setIfInBounds_toArray, List.set_cons_zero, List.set_cons_succ])
      refine wpAnyH_done (by kernel_rfl) ?_ _
      have HL3 : w3.heap.size = w3.heap.size := rfl
      have HO3 : (w3.alloc (.cells #[.int .u64 (pA base p), .int .u64 ah] 45)).ownsRow Wa.heap.size 45 2 (.slice (some ⟨w3.heap.size, 0, none⟩) 1 1) 1 [.int .u64 (pA base p), .int .u64 ah] := ownS_mono (own_made 45 [.int .u64 (pA base p), .int .u64 ah] (by simp) (Nat.le_refl _) (by unfold maxLen; omega)) g3.size
      obtain ⟨w4, hw4⟩ : ∃ w4, w4 = w3.alloc (.cells #[.int .u64 (pA base p), .int .u64 ah] 45) := ⟨_, rfl⟩
      rw [← hw4] at HO3 ⊢
      have g4 : Below Wa.heap.size Wa w4 := by rw [hw4]; exact low_and g3 (alloc_low _ _)
      have HO4 := Lib.hid HO3
      clear HO3 hw4 HL3
      go_wp2
      refine wp_region_held_drew (S := fun W' => Below Wa.heap.size Wa W') (by kernel_rfl) (low_and g4 (drew_low9 _)) (fun hHeld2 => ?_)
      refine wpAnyH_take (i := 0) (oi := ⟨some 30, _, _, _, _, _⟩) (v := .int .u64 base) rfl (by kernel_rfl) (by kernel_rfl) (by kernel_rfl) (fun _ _ _ h => h) (Or.inl ⟨by rfl, by intro WW hSw; (try dsimp only at hSw); go_simp⟩) (by assumption) ?_
      (try simp only [Act.put, List.setIfInBounds_toArray, List.set_cons_zero, List.set_cons_succ])
      refine wpAnyH_take (i := 1) (oi := ⟨some 31, _, _, _, _, _⟩) (v := .agg n.cl.toArray) rfl (by kernel_rfl) (by kernel_rfl) (by kernel_rfl) (fun _ _ _ h => h) (yieldsIf_load_mid (by rfl) _ _ rfl w.heap.size 0 rfl n.cl _ (fun w' hw' => ndR (HRR.out _ hw')) Try.underlying27 rfl ndI) (by assumption) ?_
      (try simp only [Act.put, List.setIfInBounds_toArray, List.set_cons_zero, List.set_cons_succ])
      refine wpAnyH_take (i := 2) (oi := ⟨some 32, _, _, _, _, _⟩) (v := .slice (some ⟨w3.heap.size, 0, none⟩) 1 1) rfl (by kernel_rfl) (by kernel_rfl) (by kernel_rfl) (fun _ _ _ h => h) (Or.inl ⟨by rfl, by intro WW hSw; (try dsimp only at hSw); go_simp⟩) (by assumption) ?_
      (try simp only [Act.put, List.setIfInBounds_toArray, List.set_cons_zero, List.set_cons_succ])
      refine wpAnyH_take (i := 3) (oi := ⟨some 33, _, _, _, _, _⟩) (v := .int .u64 base) rfl (by kernel_rfl) (by kernel_rfl) (by kernel_rfl) (fun _ _ _ h => h) (Or.inl ⟨by rfl, by intro WW hSw; (try dsimp only at hSw); go_simp⟩) (by assumption) ?_
      (try simp only [Act.put, List.setIfInBounds_toArray, List.set_cons_zero, List.set_cons_succ])
      refine wpAnyH_take (i := 4) (oi := ⟨some 34, _, _, _, _, _⟩) (v := .agg n.cl.toArray) rfl (by kernel_rfl) (by kernel_rfl) (by kernel_rfl) (fun _ _ _ h => h) (yieldsIf_load_mid (by rfl) _ _ rfl w.heap.size 0 rfl n.cl _ (fun w' hw' => ndR (HRR.out _ hw')) Try.underlying27 rfl ndI) (by assumption) ?_
      (try simp only [Act.put, List.setIfInBounds_toArray, List.set_cons_zero, List.set_cons_succ])
      refine wpAnyH_take (i := 5) (oi := ⟨some 35, _, _, _, _, _⟩) (v := .int .i64 (p : Int)) rfl (by kernel_rfl) (by kernel_rfl) (by kernel_rfl) (fun _ _ _ h => h) (Or.inl ⟨by rfl, by intro WW hSw; (try dsimp only at hSw); go_simp⟩) (by assumption) ?_
      (try simp only [Act.put, List.setIfInBounds_toArray, List.set_cons_zero, List.set_cons_succ])
      refine wpAnyH_one (i := 6) (oi := ⟨some 36, _, _, _, _, _⟩) rfl (by kernel_rfl) (fun K hK => ?_)
      refine step_calls (by rfl) 66 EGg.out [.tmp 33, .tmp 34, .tmp 35] _ rfl [.int .u64 base, n.V, .int .i64 (p : Int)] rfl (HG.out _) ?_
      rintro e w5 ⟨⟨v5, rfl, ho5⟩, h5⟩
      have g5 := low_and hHeld2 h5
      obtain ⟨b5, c5, rfl, hc5⟩ := own_slice ho5 (by omega)
      have HC5 := Lib.hid hc5
      have HO5 := Lib.hid (ownS_low HO4.out (low_and (drew_low9 _) h5))
      clear ho5 hc5
      refine ⟨_, rfl, hK _ _ (low_and hHeld2 h5) (fun hSn => ?_)⟩
      clear hK K
      (try simp only [Act.put, List.setIfInBounds_toArray, List.set_cons_zero, List.set_cons_succ])
      refine wpAnyH_one (i := 7) (oi := ⟨some 37, _, _, _, _, _⟩) rfl (by kernel_rfl) (fun K hK => ?_)
      refine step_append_lies _ (by rfl) (.tmp 32) (.tmp 36) _ (by rfl) Wa.heap.size 45 i0 (.agg #[.int .u64 0, .int .u64 0]) 2 16 rfl hi hz0 hz1 hz2 rfl (by decide) _ 1 _ (by rfl) HO5.out ⟨b5, 0, none⟩ D.length c5 (flatE D) (by rfl) (by rw [flatE_len]; omega) HC5.out (flatE_ones D) (by omega) (by unfold maxLen; omega) (by omega) g5.size w5.heap.size rfl ?_
      intro b6 c6 w6 hown6 hgrow6 hsm6 hlt6
      have g6 : Below Wa.heap.size Wa w6 := g5.grown hgrow6 g5.size (fun j hj => (ownS_from HO5.out j hj).1)
      have h6 : w6.ownsRow Wa.heap.size 45 2 (.slice (some ⟨b6, 0, none⟩) (1 + D.length) c6) ((pA base p, ah) :: D).length (flatE ((pA base p, ah) :: D)) := by
        rw [List.length_cons, Nat.add_comm D.length 1]
        exact hown6
      have HE6 := Lib.hid (ent_ownG h6)
      clear hown6 hgrow6 hsm6 hlt6 h6
      refine hK _ _ g6 (fun hSn => ?_)
      clear hK K
      (try simp only [Act.put, List.setIfInBounds_toArray, List.set_cons_zero, List.set_cons_succ])
      refine wpAnyH_one (i := 8) (oi := ⟨some 38, _, _, _, _, _⟩) rfl (by kernel_rfl) (fun K hK => ?_)
      refine step_calls (by rfl) 65 EGw.out [.tmp 30, .tmp 31, .tmp 37] _ rfl [.int .u64 base, n.V, .slice (some ⟨b6, 0, none⟩) (1 + D.length) c6] rfl (HWh.out _ _ HE6.out) ?_
      rintro e w7 ⟨⟨v7, rfl, ho7⟩, h7⟩
      have g7 := low_and g6 h7
      have HO7 := Lib.hid (ownS_mono ho7 (show w.heap.size ≤ w6.heap.size from Nat.le_trans HWs.out g6.size))
      clear ho7
      refine ⟨_, rfl, hK _ _ (low_and g6 h7) (fun hSn => ?_)⟩
      clear hK K
      (try simp only [Act.put, List.setIfInBounds_toArray, List.set_cons_zero, List.set_cons_succ])
      refine wpAnyH_take (i := 9) (oi := ⟨some 6, _, _, _, _, _⟩) (v := v7) rfl (by kernel_rfl) (by kernel_rfl) (by kernel_rfl) (fun _ _ _ h => h) (Or.inl ⟨by rfl, by intro WW hSw; (try dsimp only at hSw); go_simp⟩) (by assumption) ?_
      (try simp only [Act.put, List.setIfInBounds_toArray, List.set_cons_zero, List.set_cons_succ])
      refine wpAnyH_take (i := 10) (oi := ⟨some 7, _, _, _, _, _⟩) (v := .int .i64 0) rfl (by kernel_rfl) (by kernel_rfl) (by kernel_rfl) (fun _ _ _ h => h) (Or.inl ⟨by rfl, by intro WW hSw; (try dsimp only at hSw); go_simp⟩) (by assumption) ?_
      (try simp only [Act.put, List.setIfInBounds_toArray, List.set_cons_zero, List.set_cons_succ])
      refine wpAnyH_done (by kernel_rfl) ?_ _
      go_wp2
      go_ret2
      rw [HR.out]
      exact ⟨⟨_, rfl, HO7.out⟩, low_and HB0.out g7⟩
end Go.Proofs.Ytbadlmicbbjkaaa
/- fast's Apply: of any node, any stores; conditions: numbers of the width. -/
namespace Go.Proofs.Ytbadlmicbbjkaaa
open Go.RowKit
set_option linter.unusedVariables false
/-- A node behind stores. -/
def apL (base : Int) : Nd → List (Int × Int) → Option Nd
  | n, [] => some n
  | n, s :: l => match ap base n s with | some m => apL base m l | none => none
def aftR : Option Nd → Nd × Int
  | some m => (m, 0)
  | none => (zeroNd, 2)
def applyR (base : Int) (n : Nd) (l : List (Int × Int)) : Nd × Int :=
  if bOk base = true then aftR (apL base n l) else (zeroNd, 2)
theorem ap_shift {base A : Int} (hb : 0 < base ∧ base ≤ 1099511627776) (hA : 0 ≤ A ∧ A < 18446744073709551616) (n : Nd) (x : Int) : ap 0 n (IntKind.u64.wrap (A - base), x) = ap base n (A, x) := by
  have hw : IntKind.u64.wrap (A - base) = (A - base) % 18446744073709551616 := by rw [IntKind.wrap_u64]
  by_cases h : base ≤ A
  · have hw2 : IntKind.u64.wrap (A - base) = A - base := by rw [hw]; omega
    rw [hw2]
    unfold ap
    dsimp only
    simp only [Int.zero_add, Int.sub_zero, show (A - base = 8) = (A = base + 8) from propext (by omega), show (A - base = 16) = (A = base + 16) from propext (by omega), show (A - base = 24) = (A = base + 24) from propext (by omega), show (A - base = 32) = (A = base + 32) from propext (by omega)]
  · have hw2 : IntKind.u64.wrap (A - base) = A - base + 18446744073709551616 := by rw [hw]; omega
    rw [hw2]
    unfold ap
    dsimp only
    rw [if_neg (by omega), if_neg (by omega), if_neg (by omega), if_neg (by omega), if_neg (by omega), if_neg (by omega), if_neg (by omega), if_neg (by omega), if_neg (by omega), if_neg (by omega)]
theorem apL_drop {base : Int} {n : Nd} {l : List (Int × Int)} {k : Nat} (hk : k < l.length) : apL base n (l.drop k) = match ap base n (l.getD k (0, 0)) with | some m => apL base m (l.drop (k + 1)) | none => none := by
  rw [List.drop_eq_getElem_cons hk, List.getD_eq_getElem?_getD, List.getElem?_eq_getElem hk]
  rfl
set_option maxRecDepth 100000 in
set_option maxHeartbeats 8000000 in
theorem apply_any {base : Int} (hb : 0 ≤ base) (n : Nd) {w : World} {v : Value} {l : List (Int × Int)} (h : EntAt w v l) (hl : l.length ≤ 1000) (hwf : ∀ e ∈ l, 0 ≤ e.1 ∧ e.1 < 18446744073709551616) :
    Calls Try.prog 20 #[.int .u64 base, n.V, v] w fun e w' => e = .returned (.tuple #[(applyR base n l).1.V, .int .i64 (applyR base n l).2]) ∧ Below w.heap.size w w' := by
  obtain ⟨A, cap, rfl, hA⟩ := h
  have rx := Row.new w 27 n.cl.toArray
  have rz := Row.new (w.alloc (.cells n.cl.toArray 27)) 27 zeroNd.cl.toArray
  rw [World.size_alloc] at rz
  obtain ⟨W1, hW1⟩ : ∃ W1, W1 = (w.alloc (.cells n.cl.toArray 27)).alloc (.cells #[.int .i64 0, .int .u64 0, .int .u64 0, .int .u64 0, .int .u64 0, .int .u64 0, .int .u64 0, .int .u64 0, .int .u64 0, .int .u64 0, .int .u64 0, .int .u64 0, .int .u64 0, .int .u64 0, .int .u64 0, .int .u64 0, .int .u64 0, .int .u64 0, .int .u64 0, .int .u64 0, .int .u64 0] 27) := ⟨_, rfl⟩
  have hb1 : Below w.heap.size w W1 := by rw [hW1]; exact low_and (alloc_low _ _) (alloc_low _ _)
  have r0 : NdAt W1 w.heap.size n := by rw [hW1]; exact rx.alloc _
  have r1 : NdAt W1 (w.heap.size + 1) zeroNd := by rw [hW1]; exact rz
  have hs1 : W1.heap.size = w.heap.size + 2 := by rw [hW1]; simp
  have HW1 := Lib.hid hW1
  have HB1 := Lib.hid hb1
  have R0 := Lib.hid r0
  have R1 := Lib.hid r1
  have HS1 := Lib.hid hs1
  have HBk := Lib.hid (fun W' => isBase_any hb W')
  obtain ⟨m, hm⟩ : ∃ m, m = l.length := ⟨_, rfl⟩
  rw [← hm] at hl ⊢
  have HC := Lib.hid (show ∀ k, k < m → ∃ g o, A = some ⟨g, o, none⟩ ∧ ∀ W', Below w.heap.size w W' → W'.cell? ⟨g, o + k * 2, none⟩ = some (.int .u64 (l.getD k (0, 0)).1) ∧ W'.cell? ⟨g, o + k * 2 + 1, none⟩ = some (.int .u64 (l.getD k (0, 0)).2) from fun k hk => by
    obtain ⟨g, o, rfl, hc⟩ := hA (by omega)
    refine ⟨g, o, rfl, fun W' hb => ?_⟩
    obtain ⟨c1, c2⟩ := hc k _ (getD_ent (by omega))
    exact ⟨(hb.cell (p := ⟨g, o + k * 2, none⟩) (w.block_lt_of_cell? _ c1)).trans c1, (hb.cell (p := ⟨g, o + k * 2 + 1, none⟩) (w.block_lt_of_cell? _ c2)).trans c2⟩)
  have HD := Lib.hid (fun k n (hk : k < m) => apL_drop (base := base) (n := n) (l := l) (k := k) (by omega))
  have HF := Lib.hid (show l.drop m = [] by rw [hm]; exact List.drop_length)
  have HWf := Lib.hid (show ∀ k, k < m → 0 ≤ (l.getD k (0, 0)).1 ∧ (l.getD k (0, 0)).1 < 18446744073709551616 from fun k hk => hwf _ (by rw [List.getD_eq_getElem?_getD, List.getElem?_eq_getElem (by omega)]; exact List.getElem_mem _))
  have hP : applyR base n l = if bOk base = true then aftR (apL base n (l.drop 0)) else (zeroNd, 2) := rfl
  have hbo := bOk_iff base
  generalize applyR base n l = R at hP ⊢
  obtain ⟨c, hc⟩ : ∃ c, c = bOk base := ⟨_, rfl⟩
  rw [← hc] at HBk hP hbo
  clear hW1 hb1 r0 r1 rx rz hs1 hA hm hc hwf
  cases c with
  | false =>
    have HR := Lib.hid (show R = (zeroNd, 2) by rw [hP]; rfl)
    clear hP hbo
    go_enter Try.func20, Try.ntmps20
    go_wp2_with (first
      | (rw [← HW1.out])
      | (go_at_call 42; refine (HBk.out _).mono ?_; rintro e w' ⟨rfl, rfl⟩)
      | (refine wpList_store_row rfl _ _ _ rfl (w.heap.size + 1) zeroNd.cl rfl rfl R1.out rfl ndI (cl_one zeroNd) ?_))
    refine bodyPost_ret (results_node_tmp rfl _ _ (w.heap.size + 1) zeroNd rfl (row_setCells R1.out rfl)) rfl ⟨?_, setCells_low _ (Nat.le_succ _) HB1.out⟩
    rw [HR.out]
    rfl
  | true =>
    have hbse := hbo.1 rfl
    have hb2 : 0 < base ∧ base ≤ 1099511627776 := ⟨hbse.2.1, hbse.2.2⟩
    rw [if_pos rfl] at hP
    have HPl := Lib.hid hP
    clear hP hbo hbse
    go_enter Try.func20, Try.ntmps20
    go_wp2_with (first
      | (rw [← HW1.out])
      | (go_at_call 42; refine (HBk.out _).mono ?_; rintro e w' ⟨rfl, rfl⟩))
    go_loopw [16] (fun i wr => ∃ k : Nat, k ≤ m ∧ i = .int .i64 (k : Int) ∧ ∃ n' : Nd, apL base n (l.drop 0) = apL base n' (l.drop k) ∧ NdAt wr w.heap.size n' ∧ NdAt wr (w.heap.size + 1) zeroNd ∧ Below w.heap.size w wr ∧ w.heap.size + 2 ≤ wr.heap.size) (fun i _ => m - (intOf i).toNat)
    case atStart => exact ⟨0, by omega, rfl, n, rfl, R0.out, R1.out, HB1.out, Nat.le_of_eq HS1.out.symm⟩
    case round =>
      rename World => wr
      obtain ⟨k, hk, rfl, n', hap, h0, h1, hbl, hws⟩ := hrel
      have HAp := Lib.hid hap
      have H0 := Lib.hid h0
      have H1 := Lib.hid h1
      have HBl := Lib.hid hbl
      have HWS := Lib.hid hws
      clear hap h0 h1 hbl
      by_cases hlt : k < m
      · obtain ⟨g, o, rfl, hcc⟩ := HC.out k hlt
        obtain ⟨c1, c2⟩ := hcc wr HBl.out
        have hki : (k : Int) < (m : Int) := by omega
        have hkb : k < 1000 := by omega
        have HDk := Lib.hid (HD.out k n' hlt)
        have hwk := HWf.out k hlt
        obtain ⟨⟨x, y⟩, hxy⟩ : ∃ e, e = l.getD k (0, 0) := ⟨_, rfl⟩
        rw [← hxy] at c1 c2 HDk hwk
        dsimp only at c1 c2 HDk hwk
        have hsz0 : w.heap.size ≠ wr.heap.size := by omega
        have hsz1 : w.heap.size + 1 ≠ wr.heap.size := by omega
        have r0' : NdAt (wr.alloc (.cells #[.int .u64 x, .int .u64 y] 45)) w.heap.size n' := H0.out.alloc _
        have HR1' := Lib.hid (show NdAt (wr.alloc (.cells #[.int .u64 x, .int .u64 y] 45)) (w.heap.size + 1) zeroNd from H1.out.alloc _)
        have hwu : 0 ≤ IntKind.u64.wrap (x - base) ∧ IntKind.u64.wrap (x - base) < 18446744073709551616 := by rw [IntKind.wrap_u64]; omega
        have HSet := Lib.hid (set_any r0' hwu y)
        rw [ap_shift hb2 hwk] at HSet
        have HBa := Lib.hid (low_and HBl.out (alloc_low wr (.cells #[.int .u64 x, .int .u64 y] 45)))
        obtain ⟨r, hr⟩ : ∃ r, r = ap base n' (x, y) := ⟨_, rfl⟩
        rw [← hr] at HSet HDk
        clear hxy hcc r0' hr hwu hwk hsz0 hsz1
        cases r with
        | none =>
          have HRz := Lib.hid (show R = (zeroNd, 2) by rw [HPl.out, HAp.out, HDk.out]; rfl)
          go_wp2_with (first
            | (go_at_call 43; refine HSet.out.mono ?_; rintro e w3 ⟨rfl, rfl⟩)
            | (refine wpList_store_row rfl _ _ _ rfl (w.heap.size + 1) zeroNd.cl rfl rfl HR1'.out rfl ndI (cl_one zeroNd) ?_))
          refine bodyPost_ret (results_node_tmp rfl _ _ (w.heap.size + 1) zeroNd rfl (row_setCells HR1'.out rfl)) rfl ⟨?_, setCells_low _ (Nat.le_succ _) HBa.out⟩
          rw [HRz.out]
          rfl
        | some n2 =>
          go_wp2_with (first
            | (go_at_call 43; refine HSet.out.mono ?_; rintro e w3 ⟨rfl, i3, u3, rfl, hn3⟩; have HN3 := Lib.hid hn3; clear hn3))
          refine ⟨⟨k + 1, by omega, by go_num, n2, by rw [HAp.out, HDk.out], HN3.out, ?_, ?_, ?_⟩, by simp [intOf]; omega⟩
          · exact Row.other HR1'.out (p := ⟨w.heap.size, i3, none⟩) (by simp) u3
          · exact HBa.out.setCell (p := ⟨w.heap.size, i3, none⟩) (Nat.le_refl _) u3
          · have := HWS.out; simp; omega
      · obtain rfl : k = m := by omega
        have HRz := Lib.hid (show R = (n', 0) by rw [HPl.out, HAp.out, HF.out]; rfl)
        go_wp2_with (first
          | (refine wpList_load_mid rfl _ _ rfl w.heap.size 0 rfl n'.cl _ (ndR H0.out) Try.underlying27 rfl ndI ?_)
          | (refine wpList_store_row rfl _ _ _ rfl (w.heap.size + 1) n'.cl rfl rfl H1.out rfl ndI (cl_one n') ?_))
        refine bodyPost_ret (results_node_tmp rfl _ _ (w.heap.size + 1) n' rfl (row_setCells H1.out rfl)) rfl ⟨?_, setCells_low _ (Nat.le_succ _) HBl.out⟩
        rw [HRz.out]
        rfl
end Go.Proofs.Ytbadlmicbbjkaaa
/- The document's Apply of one store: of any node; conditions: numbers of the width. -/
namespace Go.Proofs.Ytbadlmicbbjkaaa
open Go.RowKit
set_option linter.unusedVariables false
theorem ap_else {base x y : Int} {n : Nd} (h : ∀ i : Nat, i < 8 → x ≠ kA base i ∧ x ≠ pA base i) (h1 : x ≠ base + 8) (h2 : x ≠ base + 16) (h3 : x ≠ base + 24) (h4 : x ≠ base + 32) : ap base n (x, y) = none := by
  unfold ap
  dsimp only
  rw [if_neg h1, if_neg h2, if_neg h3, if_neg h4]
  refine if_neg ?_
  rintro ⟨g1, g2, g3⟩
  have := h ((x - base - 64) / 16).toNat (by omega)
  unfold kA pA at this
  omega
theorem results9 {fn : Func} {p u : Tmp} (h : fn.results = #[.cell p 27, .tmp u]) : True := trivial
set_option maxRecDepth 100000 in
set_option maxHeartbeats 8000000 in
theorem r9apply_any {base : Int} (hb : 0 ≤ base) (n : Nd) (x y : Int) (w : World) :
    Calls Try.prog 15 #[.int .u64 base, n.V, .agg #[.int .u64 x, .int .u64 y]] w fun e w' => e = .returned (.tuple #[(applyR base n [(x, y)]).1.V, .int .i64 (applyR base n [(x, y)]).2]) ∧ Below w.heap.size w w' := by
  have rx := Row.new w 27 n.cl.toArray
  have ry := Row.new (w.alloc (.cells n.cl.toArray 27)) 45 #[.int .u64 x, .int .u64 y]
  have rz := Row.new ((w.alloc (.cells n.cl.toArray 27)).alloc (.cells #[.int .u64 x, .int .u64 y] 45)) 27 zeroNd.cl.toArray
  simp only [World.size_alloc] at ry rz
  obtain ⟨W1, hW1⟩ : ∃ W1, W1 = ((w.alloc (.cells n.cl.toArray 27)).alloc (.cells #[.int .u64 x, .int .u64 y] 45)).alloc (.cells #[.int .i64 0, .int .u64 0, .int .u64 0, .int .u64 0, .int .u64 0, .int .u64 0, .int .u64 0, .int .u64 0, .int .u64 0, .int .u64 0, .int .u64 0, .int .u64 0, .int .u64 0, .int .u64 0, .int .u64 0, .int .u64 0, .int .u64 0, .int .u64 0, .int .u64 0, .int .u64 0, .int .u64 0] 27) := ⟨_, rfl⟩
  have hb1 : Below w.heap.size w W1 := by rw [hW1]; exact low_and (low_and (alloc_low _ _) (alloc_low _ _)) (alloc_low _ _)
  have r0 : NdAt W1 w.heap.size n := by rw [hW1]; exact (rx.alloc _).alloc _
  have r1 : Row W1 (w.heap.size + 1) 45 #[.int .u64 x, .int .u64 y] := by rw [hW1]; exact ry.alloc _
  have r2 : NdAt W1 (w.heap.size + 1 + 1) zeroNd := by rw [hW1]; exact rz
  have HW1 := Lib.hid hW1
  have HB1 := Lib.hid hb1
  have R0 := Lib.hid r0
  have R1 := Lib.hid r1
  have R2 := Lib.hid r2
  have hm64 := tmod64 hb
  have hbo := bOk_iff base
  have hP : applyR base n [(x, y)] = if bOk base = true then aftR (ap base n (x, y)) else (zeroNd, 2) := by
    unfold applyR apL
    split
    · cases ap base n (x, y) <;> rfl
    · rfl
  generalize applyR base n [(x, y)] = R at hP ⊢
  obtain ⟨c, hc⟩ : ∃ c, c = bOk base := ⟨_, rfl⟩
  rw [← hc] at hP hbo
  clear hW1 hb1 r0 r1 r2 rx ry rz hc
  cases c with
  | false =>
    have HR := Lib.hid (show R = (zeroNd, 2) by rw [hP]; rfl)
    have hno : base = 0 ∨ (base ≠ 0 ∧ 1099511627776 < base) ∨ (base ≠ 0 ∧ ¬ 1099511627776 < base ∧ base % 64 ≠ 0) := by
      have : ¬ (base % 64 = 0 ∧ 0 < base ∧ base ≤ 1099511627776) := fun h => by have := hbo.2 h; cases this
      omega
    clear hP hbo
    rcases hno with rfl | ⟨h1, h2⟩ | ⟨h1, h2, h3⟩
    · clear hm64
      go_enter Try.func15, Try.ntmps15
      go_wp2_with (first
        | (rw [← HW1.out])
        | (refine wpList_store_row rfl _ _ _ rfl (w.heap.size + 1 + 1) zeroNd.cl rfl rfl R2.out rfl ndI (cl_one zeroNd) ?_))
      refine bodyPost_ret (results_node_tmp rfl _ _ (w.heap.size + 1 + 1) zeroNd rfl (row_setCells R2.out rfl)) rfl ⟨?_, setCells_low _ (by omega) HB1.out⟩
      rw [HR.out]
      rfl
    · have h1b : (base == 0) = false := by simpa using h1
      clear hm64
      go_enter Try.func15, Try.ntmps15
      go_wp2_with (first
        | (rw [← HW1.out])
        | (refine wpList_store_row rfl _ _ _ rfl (w.heap.size + 1 + 1) zeroNd.cl rfl rfl R2.out rfl ndI (cl_one zeroNd) ?_))
      refine bodyPost_ret (results_node_tmp rfl _ _ (w.heap.size + 1 + 1) zeroNd rfl (row_setCells R2.out rfl)) rfl ⟨?_, setCells_low _ (by omega) HB1.out⟩
      rw [HR.out]
      rfl
    · have h1b : (base == 0) = false := by simpa using h1
      have h3b : (base % 64 != 0) = true := by simpa using h3
      clear hm64
      go_enter Try.func15, Try.ntmps15
      go_wp2_with (first
        | (rw [← HW1.out])
        | (refine wpList_store_row rfl _ _ _ rfl (w.heap.size + 1 + 1) zeroNd.cl rfl rfl R2.out rfl ndI (cl_one zeroNd) ?_))
      refine bodyPost_ret (results_node_tmp rfl _ _ (w.heap.size + 1 + 1) zeroNd rfl (row_setCells R2.out rfl)) rfl ⟨?_, setCells_low _ (by omega) HB1.out⟩
      rw [HR.out]
      rfl
  | true =>
    obtain ⟨g1, g2, g3⟩ := hbo.1 rfl
    have hbse : 0 ≤ base ∧ base ≤ 1099511627776 := ⟨hb, g3⟩
    have h1b : (base == 0) = false := by simp; omega
    have h2b : ¬ 1099511627776 < base := by omega
    have h3b : (base % 64 != 0) = false := by simpa using g1
    rw [if_pos rfl] at hP
    have HPl := Lib.hid hP
    clear hm64 hbo g1 hP
    go_enter Try.func15, Try.ntmps15
    go_wp2_with (first
      | (rw [← HW1.out]))
    go_loopw [8] (fun i wr => ∃ k : Nat, k ≤ 8 ∧ i = .int .i64 (k : Int) ∧ (∀ j, j < k → x ≠ kA base j ∧ x ≠ pA base j) ∧ NdAt wr w.heap.size n ∧ Row wr (w.heap.size + 1) 45 #[.int .u64 x, .int .u64 y] ∧ NdAt wr (w.heap.size + 1 + 1) zeroNd ∧ Below w.heap.size w wr) (fun i _ => 8 - (intOf i).toNat)
    case atStart => exact ⟨0, by omega, rfl, fun j hj => by omega, R0.out, R1.out, R2.out, HB1.out⟩
    case round =>
      rename World => wr
      obtain ⟨k, hk, rfl, hne, h0, h1, h2, hbl⟩ := hrel
      have HNE := Lib.hid hne
      have H0 := Lib.hid (fun W' (hb : Below wr.heap.size wr W') => (show NdAt W' w.heap.size n from h0.below hb h0.lt))
      have H1 := Lib.hid (fun W' (hb : Below wr.heap.size wr W') => h1.below hb h1.lt)
      have H2 := Lib.hid (fun W' (hb : Below wr.heap.size wr W') => (show NdAt W' (w.heap.size + 1 + 1) zeroNd from h2.below hb h2.lt))
      have HBl := Lib.hid hbl
      have HSz := Lib.hid hbl.size
      have hsz2 := h2.lt
      clear hne h0 h1 h2 hbl
      by_cases hlt : k < 8
      · have hki : (k : Int) < 8 := by omega
        have HKt := Lib.hid (fun (p : LowBy wr) => Calls.low_of_same (kt_any hbse (i := k) (by omega) p.W))
        have HPt0 := Lib.hid (fun W => pt_any hbse (i := k) (by omega) W)
        have cx := fun p : LowBy wr => (show p.W.cell? ⟨w.heap.size + 1, 0, none⟩ = some (.int .u64 x) from (H1.out p.W p.low).cell 0)
        have HAk := Lib.hid (ap_k base n hlt y)
        have HApp := Lib.hid (ap_p base n hlt y)
        obtain ⟨ka, hka⟩ : ∃ ka, ka = kA base k := ⟨_, rfl⟩
        obtain ⟨pa, hpa⟩ : ∃ pa, pa = pA base k := ⟨_, rfl⟩
        rw [← hka] at HKt HAk
        rw [← hpa] at HPt0 HApp
        have HKa := Lib.hid hka
        have HPa := Lib.hid hpa
        clear hka hpa
        obtain hxk | hxk : x = ka ∨ x ≠ ka := by omega
        · have hxb : (x == ka) = true := by simpa using hxk
          have HRk := Lib.hid (show R = (n.setK k y, 0) by rw [HPl.out, hxk, HAk.out]; rfl)
          clear hxk
          go_wp2_with fail
          refine wp_region_quiet_low (by kernel_rfl) (by kernel_rfl) ?_
          repeat (go_big_quiet_step ((go_at_call 37; with_reducible exact HKt.out _)))
          refine wpQuiet_nil ?_
          intro _ hw'
          obtain ⟨p, hw''⟩ := hw'
          subst hw''
          have hm4 := p.low
          clear cx
          generalize p.W = w4 at *
          have h04 := H0.out w4 hm4
          have ck := ndAt_key h04 hlt
          have fk := h04.free (5 + k)
          have c1 := (H1.out w4 hm4).cell 1
          simp only [List.getElem?_toArray, List.getElem?_cons_succ, List.getElem?_cons_zero] at c1
          have HN5 := Lib.hid (set_row (u := .int .u64 y) h04 (setK_cl n hlt y))
          have HZ5 := Lib.hid (show NdAt (w4.setCell ⟨w.heap.size, 5 + k, none⟩ (.int .u64 y)) (w.heap.size + 1 + 1) zeroNd from Row.other (H2.out w4 hm4) (p := ⟨w.heap.size, 5 + k, none⟩) (by simp; omega) _)
          have HB5 := Lib.hid ((low_and HBl.out hm4).setCell (p := ⟨w.heap.size, 5 + k, none⟩) (Nat.le_refl _) (.int .u64 y))
          clear h04
          go_wp2_with (first
            | (refine wpList_load_mid rfl _ _ rfl w.heap.size 0 rfl (n.setK k y).cl _ (ndR HN5.out) Try.underlying27 rfl ndI ?_)
            | (refine wpList_store_row rfl _ _ _ rfl (w.heap.size + 1 + 1) (n.setK k y).cl rfl rfl HZ5.out rfl ndI (cl_one _) ?_))
          refine bodyPost_ret (results_node_tmp rfl _ _ (w.heap.size + 1 + 1) (n.setK k y) rfl (row_setCells HZ5.out rfl)) rfl ⟨?_, setCells_low _ (by omega) HB5.out⟩
          rw [HRk.out]
          rfl
        · have hxb : (x == ka) = false := by simpa using hxk
          obtain hxp | hxp : x = pa ∨ x ≠ pa := by omega
          · have hxc : (x == pa) = true := by simpa using hxp
            have HRk := Lib.hid (show R = (n.setP k y, 0) by rw [HPl.out, hxp, HApp.out]; rfl)
            clear hxp
            go_wp2_with fail
            refine wp_region_quiet_low (by kernel_rfl) (by kernel_rfl) ?_
            repeat (go_big_quiet_step ((go_at_call 37; with_reducible exact HKt.out _)))
            refine wpQuiet_nil ?_
            intro _ hw'
            obtain ⟨p, hw''⟩ := hw'
            subst hw''
            have hm4 := p.low
            clear cx
            generalize p.W = w4 at *
            have HPt4 := Lib.hid (fun (p : LowBy w4) => Calls.low_of_same (HPt0.out p.W))
            have cx := fun p : LowBy w4 => (show p.W.cell? ⟨w.heap.size + 1, 0, none⟩ = some (.int .u64 x) from (H1.out p.W (low_and hm4 p.low)).cell 0)
            go_wp2_with fail
            refine wp_region_quiet_low (by kernel_rfl) (by kernel_rfl) ?_
            repeat (go_big_quiet_step ((go_at_call 38; with_reducible exact HPt4.out _)))
            refine wpQuiet_nil ?_
            intro _ hw'
            obtain ⟨p, hw''⟩ := hw'
            subst hw''
            have hm5 := low_and hm4 p.low
            clear cx hm4 HPt4
            generalize p.W = w5 at *
            have h05 := H0.out w5 hm5
            have ck := ndAt_ptr h05 hlt
            have fk := h05.free (13 + k)
            have c1 := (H1.out w5 hm5).cell 1
            simp only [List.getElem?_toArray, List.getElem?_cons_succ, List.getElem?_cons_zero] at c1
            have HN5 := Lib.hid (set_row (u := .int .u64 y) h05 (setP_cl n hlt y))
            have HZ5 := Lib.hid (show NdAt (w5.setCell ⟨w.heap.size, 13 + k, none⟩ (.int .u64 y)) (w.heap.size + 1 + 1) zeroNd from Row.other (H2.out w5 hm5) (p := ⟨w.heap.size, 13 + k, none⟩) (by simp; omega) _)
            have HB5 := Lib.hid ((low_and HBl.out hm5).setCell (p := ⟨w.heap.size, 13 + k, none⟩) (Nat.le_refl _) (.int .u64 y))
            clear h05
            go_wp2_with (first
              | (refine wpList_load_mid rfl _ _ rfl w.heap.size 0 rfl (n.setP k y).cl _ (ndR HN5.out) Try.underlying27 rfl ndI ?_)
              | (refine wpList_store_row rfl _ _ _ rfl (w.heap.size + 1 + 1) (n.setP k y).cl rfl rfl HZ5.out rfl ndI (cl_one _) ?_))
            refine bodyPost_ret (results_node_tmp rfl _ _ (w.heap.size + 1 + 1) (n.setP k y) rfl (row_setCells HZ5.out rfl)) rfl ⟨?_, setCells_low _ (by omega) HB5.out⟩
            rw [HRk.out]
            rfl
          · have hxc : (x == pa) = false := by simpa using hxp
            have HNx := Lib.hid (show ∀ j, j < k + 1 → x ≠ kA base j ∧ x ≠ pA base j from fun j hj => by
              rcases Nat.lt_or_eq_of_le (Nat.le_of_lt_succ hj) with h | rfl
              · exact HNE.out j h
              · rw [← HKa.out, ← HPa.out]; exact ⟨hxk, hxp⟩)
            clear hxp hxk
            go_wp2_with fail
            refine wp_region_quiet_low (by kernel_rfl) (by kernel_rfl) ?_
            repeat (go_big_quiet_step ((go_at_call 37; with_reducible exact HKt.out _)))
            refine wpQuiet_nil ?_
            intro _ hw'
            obtain ⟨p, hw''⟩ := hw'
            subst hw''
            have hm4 := p.low
            clear cx
            generalize p.W = w4 at *
            have HPt4 := Lib.hid (fun (p : LowBy w4) => Calls.low_of_same (HPt0.out p.W))
            have cx := fun p : LowBy w4 => (show p.W.cell? ⟨w.heap.size + 1, 0, none⟩ = some (.int .u64 x) from (H1.out p.W (low_and hm4 p.low)).cell 0)
            go_wp2_with fail
            refine wp_region_quiet_low (by kernel_rfl) (by kernel_rfl) ?_
            repeat (go_big_quiet_step ((go_at_call 38; with_reducible exact HPt4.out _)))
            refine wpQuiet_nil ?_
            intro _ hw'
            obtain ⟨p, hw''⟩ := hw'
            subst hw''
            have hm5 := low_and hm4 p.low
            clear cx hm4 HPt4
            generalize p.W = w5 at *
            go_wp2
            exact ⟨⟨k + 1, by omega, by go_num, HNx.out, H0.out _ hm5, H1.out _ hm5, H2.out _ hm5, low_and HBl.out hm5⟩, by simp [intOf]; omega⟩
      · obtain rfl : k = 8 := by omega
        have h0' := H0.out wr (Below.refl _ _)
        have hf := fun i => h0'.free i
        have hc := fun i => ndAt_at h0' i
        have c0 := (H1.out wr (Below.refl _ _)).cell 0
        have c1 := (H1.out wr (Below.refl _ _)).cell 1
        simp only [List.getElem?_toArray, List.getElem?_cons_succ, List.getElem?_cons_zero] at c0 c1
        have HZ := Lib.hid (H2.out wr (Below.refl _ _))
        have HH0 := Lib.hid h0'
        have HAE := Lib.hid (fun a b c d => ap_else (y := y) (n := n) HNE.out a b c d)
        have hw8 : IntKind.u64.wrap (base + 8) = base + 8 := by rw [IntKind.wrap_u64]; omega
        have hw16 : IntKind.u64.wrap (base + 16) = base + 16 := by rw [IntKind.wrap_u64]; omega
        have hw24 : IntKind.u64.wrap (base + 24) = base + 24 := by rw [IntKind.wrap_u64]; omega
        have hw32 : IntKind.u64.wrap (base + 32) = base + 32 := by rw [IntKind.wrap_u64]; omega
        clear h0'
        obtain h8 | h8 : x = base + 8 ∨ x ≠ base + 8 := by omega
        · have b8 : (x == base + 8) = true := by simpa using h8
          have f := hf 1
          have c := hc 1
          have HRk := Lib.hid (show R = ({ n with lo := y }, 0) by rw [HPl.out]; unfold ap; dsimp only; rw [if_pos h8]; rfl)
          have HN5 := Lib.hid (set_row (u := .int .u64 y) (m := { n with lo := y }) HH0.out (i := 1) rfl)
          have HZ5 := Lib.hid (show NdAt (wr.setCell ⟨w.heap.size, 1, none⟩ (.int .u64 y)) (w.heap.size + 1 + 1) zeroNd from Row.other HZ.out (p := ⟨w.heap.size, 1, none⟩) (by simp; omega) _)
          have HB5 := Lib.hid (HBl.out.setCell (p := ⟨w.heap.size, 1, none⟩) (Nat.le_refl _) (.int .u64 y))
          generalize hM : ({ n with lo := y } : Nd) = M at HRk HN5
          clear hM hf hc h8
          go_wp2_with (first
            | (refine wpList_load_mid rfl _ _ rfl w.heap.size 0 rfl M.cl _ (ndR HN5.out) Try.underlying27 rfl ndI ?_)
            | (refine wpList_store_row rfl _ _ _ rfl (w.heap.size + 1 + 1) M.cl rfl rfl HZ5.out rfl ndI (cl_one _) ?_))
          refine bodyPost_ret (results_node_tmp rfl _ _ (w.heap.size + 1 + 1) M rfl (row_setCells HZ5.out rfl)) rfl ⟨?_, setCells_low _ (by omega) HB5.out⟩
          rw [HRk.out]
          rfl
        · have b8 : (x == base + 8) = false := by simpa using h8
          obtain h16 | h16 : x = base + 16 ∨ x ≠ base + 16 := by omega
          · have b16 : (x == base + 16) = true := by simpa using h16
            have f := hf 2
            have c := hc 2
            have HRk := Lib.hid (show R = ({ n with nx := y }, 0) by rw [HPl.out]; unfold ap; dsimp only; rw [if_neg h8, if_pos h16]; rfl)
            have HN5 := Lib.hid (set_row (u := .int .u64 y) (m := { n with nx := y }) HH0.out (i := 2) rfl)
            have HZ5 := Lib.hid (show NdAt (wr.setCell ⟨w.heap.size, 2, none⟩ (.int .u64 y)) (w.heap.size + 1 + 1) zeroNd from Row.other HZ.out (p := ⟨w.heap.size, 2, none⟩) (by simp; omega) _)
            have HB5 := Lib.hid (HBl.out.setCell (p := ⟨w.heap.size, 2, none⟩) (Nat.le_refl _) (.int .u64 y))
            generalize hM : ({ n with nx := y } : Nd) = M at HRk HN5
            clear hM hf hc h8 h16
            go_wp2_with (first
              | (refine wpList_load_mid rfl _ _ rfl w.heap.size 0 rfl M.cl _ (ndR HN5.out) Try.underlying27 rfl ndI ?_)
              | (refine wpList_store_row rfl _ _ _ rfl (w.heap.size + 1 + 1) M.cl rfl rfl HZ5.out rfl ndI (cl_one _) ?_))
            refine bodyPost_ret (results_node_tmp rfl _ _ (w.heap.size + 1 + 1) M rfl (row_setCells HZ5.out rfl)) rfl ⟨?_, setCells_low _ (by omega) HB5.out⟩
            rw [HRk.out]
            rfl
          · have b16 : (x == base + 16) = false := by simpa using h16
            obtain h24 | h24 : x = base + 24 ∨ x ≠ base + 24 := by omega
            · have b24 : (x == base + 24) = true := by simpa using h24
              have f := hf 3
              have c := hc 3
              have HRk := Lib.hid (show R = ({ n with ct := y }, 0) by rw [HPl.out]; unfold ap; dsimp only; rw [if_neg h8, if_neg h16, if_pos h24]; rfl)
              have HN5 := Lib.hid (set_row (u := .int .u64 y) (m := { n with ct := y }) HH0.out (i := 3) rfl)
              have HZ5 := Lib.hid (show NdAt (wr.setCell ⟨w.heap.size, 3, none⟩ (.int .u64 y)) (w.heap.size + 1 + 1) zeroNd from Row.other HZ.out (p := ⟨w.heap.size, 3, none⟩) (by simp; omega) _)
              have HB5 := Lib.hid (HBl.out.setCell (p := ⟨w.heap.size, 3, none⟩) (Nat.le_refl _) (.int .u64 y))
              generalize hM : ({ n with ct := y } : Nd) = M at HRk HN5
              clear hM hf hc h8 h16 h24
              go_wp2_with (first
                | (refine wpList_load_mid rfl _ _ rfl w.heap.size 0 rfl M.cl _ (ndR HN5.out) Try.underlying27 rfl ndI ?_)
                | (refine wpList_store_row rfl _ _ _ rfl (w.heap.size + 1 + 1) M.cl rfl rfl HZ5.out rfl ndI (cl_one _) ?_))
              refine bodyPost_ret (results_node_tmp rfl _ _ (w.heap.size + 1 + 1) M rfl (row_setCells HZ5.out rfl)) rfl ⟨?_, setCells_low _ (by omega) HB5.out⟩
              rw [HRk.out]
              rfl
            · have b24 : (x == base + 24) = false := by simpa using h24
              obtain h32 | h32 : x = base + 32 ∨ x ≠ base + 32 := by omega
              · have b32 : (x == base + 32) = true := by simpa using h32
                have f := hf 4
                have c := hc 4
                have HRk := Lib.hid (show R = ({ n with fi := y }, 0) by rw [HPl.out]; unfold ap; dsimp only; rw [if_neg h8, if_neg h16, if_neg h24, if_pos h32]; rfl)
                have HN5 := Lib.hid (set_row (u := .int .u64 y) (m := { n with fi := y }) HH0.out (i := 4) rfl)
                have HZ5 := Lib.hid (show NdAt (wr.setCell ⟨w.heap.size, 4, none⟩ (.int .u64 y)) (w.heap.size + 1 + 1) zeroNd from Row.other HZ.out (p := ⟨w.heap.size, 4, none⟩) (by simp; omega) _)
                have HB5 := Lib.hid (HBl.out.setCell (p := ⟨w.heap.size, 4, none⟩) (Nat.le_refl _) (.int .u64 y))
                generalize hM : ({ n with fi := y } : Nd) = M at HRk HN5
                clear hM hf hc h8 h16 h24 h32
                go_wp2_with (first
                  | (refine wpList_load_mid rfl _ _ rfl w.heap.size 0 rfl M.cl _ (ndR HN5.out) Try.underlying27 rfl ndI ?_)
                  | (refine wpList_store_row rfl _ _ _ rfl (w.heap.size + 1 + 1) M.cl rfl rfl HZ5.out rfl ndI (cl_one _) ?_))
                refine bodyPost_ret (results_node_tmp rfl _ _ (w.heap.size + 1 + 1) M rfl (row_setCells HZ5.out rfl)) rfl ⟨?_, setCells_low _ (by omega) HB5.out⟩
                rw [HRk.out]
                rfl
              · have b32 : (x == base + 32) = false := by simpa using h32
                have HRz := Lib.hid (show R = (zeroNd, 2) by rw [HPl.out, HAE.out h8 h16 h24 h32]; rfl)
                clear hf hc h8 h16 h24 h32
                go_wp2_with (first
                  | (refine wpList_store_row rfl _ _ _ rfl (w.heap.size + 1 + 1) zeroNd.cl rfl rfl HZ.out rfl ndI (cl_one zeroNd) ?_))
                refine bodyPost_ret (results_node_tmp rfl _ _ (w.heap.size + 1 + 1) zeroNd rfl (row_setCells HZ.out rfl)) rfl ⟨?_, setCells_low _ (by omega) HBl.out⟩
                rw [HRz.out]
                rfl
end Go.Proofs.Ytbadlmicbbjkaaa
