/- Texts of this claim, packed: N9Prog, N9Plan, N9Gap, N9Wh, N9Same, N9Set. -/
import Derived.Test.YteojhhfcfdkmdaaPm33
import Derived.Test.YteojhhfcfdkmdaaPm32
import Derived.Test.YteojhhfcfdkmdaaPm30
import Derived.Test.YteojhhfcfdkmdaaPm11
import Derived.WalkMore
set_option linter.unusedSimpArgs false
set_option linter.unusedVariables false
/- fast's Delete, Swap, Cut, Link, Repair: of any node; conditions: numbers of the width. -/
namespace Go.Proofs.Yteojhhfcfdkmdaa
open Go.RowKit
set_option linter.unusedVariables false
def delP (base : Int) (n : Nd) (key : Int) : List (Int × Int) × Int :=
  if refE base n [] ≠ 0 then ([], refE base n []) else match n.find key with | none => ([], 5) | some p => (wholeL base n ((pA base p, n.ahd p) :: dnL base n p (n.len - 1 - p)), 0)
def swapP (base : Int) (n : Nd) (key ptr : Int) : List (Int × Int) × Int :=
  if refE base n [ptr] ≠ 0 then ([], refE base n [ptr]) else match n.find key with | none => ([], 5) | some p => (wholeL base n [(pA base p, ptr)], 0)
def cutP (base : Int) (n : Nd) (high : Int) : List (Int × Int) × Int :=
  if refE base n [] ≠ 0 then ([], refE base n []) else if (n.act high true).length = n.len then ([], 5) else (wholeL base n [(pA base (n.act high true).length, 0)], 0)
def linkP (base : Int) (n : Nd) (next : Int) : List (Int × Int) × Int :=
  if refE base n [] ≠ 0 then ([], refE base n []) else (wholeL base n [(base + 16, next)], 0)
def repP (base : Int) (n : Nd) : List (Int × Int) × Int :=
  if (bOk base && n.may 0 false) = true then (if n.inv < 0 then ([], 7) else (wholeL base n (dnL base n n.inv.toNat (n.len - 1 - n.inv.toNat)), 0)) else ([], 2)
theorem ads_nil (w : World) : AdsAt w (.slice none 0 0) [] := ⟨none, 0, rfl, fun h => by simp at h⟩
theorem find_lt {n : Nd} {key : Int} {p : Nat} (h : n.find key = some p) : p < n.len := (n.vp_lt (List.mem_of_find?_eq_some h)).1
theorem inv_lt {n : Nd} (h : ¬ n.inv < 0) : ∃ p : Nat, n.inv = (p : Int) ∧ p < n.len := by
  unfold Nd.inv at h ⊢
  split at h
  · rename_i i hi
    exact ⟨i, rfl, List.mem_range.1 (List.mem_of_find?_eq_some hi)⟩
  · omega
set_option maxRecDepth 100000 in
set_option maxHeartbeats 8000000 in
theorem del_any {base : Int} (hb : 0 ≤ base) (n : Nd) (key : Int) (w : World) : Calls Try.prog 43 #[.int .u64 base, n.V, .int .u64 key] w (PutsOut w (delP base n key)) := by
  have r0 := Row.new w 27 n.cl.toArray
  obtain ⟨Wa, hWa⟩ : ∃ Wa, Wa = w.alloc (.cells n.cl.toArray 27) := ⟨_, rfl⟩
  rw [← hWa] at r0
  have hb0 : Below w.heap.size w Wa := by rw [hWa]; exact alloc_low _ _
  have HB0 := Lib.hid hb0
  have HRR := Lib.hid (fun W' (hb : Below Wa.heap.size Wa W') => (show NdAt W' w.heap.size n from r0.below hb r0.lt))
  have HWa := Lib.hid hWa
  have HWs := Lib.hid (show w.heap.size ≤ Wa.heap.size from hb0.size)
  have hl8 := n.len_le
  have hr0 := Below.refl Wa.heap.size Wa
  have HRef := Lib.hid (refusal_any hb n (ads_nil Wa) (by simp))
  have hP : delP base n key = (if refE base n [] ≠ 0 then ([], refE base n []) else match n.find key with | none => ([], 5) | some p => (wholeL base n ((pA base p, n.ahd p) :: dnL base n p (n.len - 1 - p)), 0)) := rfl
  have hbb := fun h => refE_base (b := base) (n := n) (l := []) h
  have HFd := Lib.hid (fun W' => nFind_any n key W')
  have hfl := fun p h => find_lt (n := n) (key := key) (p := p) h
  obtain ⟨f, hf⟩ : ∃ f, f = n.find key := ⟨_, rfl⟩
  rw [← hf] at HFd hP hfl
  clear hf
  generalize hR : delP base n key = R at hP ⊢
  generalize refE base n [] = E at HRef hP hbb
  clear r0 hWa hb0 hR
  obtain hE | hE : E ≠ 0 ∨ E = 0 := by omega
  · have HR := Lib.hid (show R = ([], E) by rw [hP, if_pos hE])
    have hEb : (E != 0) = true := by simpa using hE
    clear hP hbb
    go_enter Try.func43, Try.ntmps43
    go_wp2_with (first
      | (rw [← HWa.out]; (refine wpList_load_mid rfl _ _ rfl w.heap.size 0 rfl n.cl _ (ndR (HRR.out _ (by assumption))) Try.underlying27 rfl ndI ?_))
      | (refine wpList_load_mid rfl _ _ rfl w.heap.size 0 rfl n.cl _ (ndR (HRR.out _ (by assumption))) Try.underlying27 rfl ndI ?_)
      | (go_at_call 57; refine HRef.out.mono ?_; rintro e w1 ⟨rfl, h1⟩; have h1 := low_and hr0 h1))
    go_ret2
    rw [HR.out]
    exact ⟨⟨_, rfl, World.ownsRow_nil _ _ _ _⟩, low_and HB0.out h1⟩
  · subst hE
    rw [if_neg (by simp)] at hP
    have hbse := hbb rfl
    have HBg := Lib.hid (fun W' => begin_any hbse n W')
    clear hbb
    cases f with
    | none =>
      have HFd2 := Lib.hid (fun W' => (HFd.out W').mono fun e w' h => (show e = .returned (.tuple #[.int .i64 0, .bool false]) ∧ Below W'.heap.size W' w' from h))
      have HR := Lib.hid (show R = ([], 5) from hP)
      clear HFd hP hfl
      go_enter Try.func43, Try.ntmps43
      go_wp2_with (first
      | (rw [← HWa.out]; (refine wpList_load_mid rfl _ _ rfl w.heap.size 0 rfl n.cl _ (ndR (HRR.out _ (by assumption))) Try.underlying27 rfl ndI ?_))
      | (refine wpList_load_mid rfl _ _ rfl w.heap.size 0 rfl n.cl _ (ndR (HRR.out _ (by assumption))) Try.underlying27 rfl ndI ?_)
      | (go_at_call 57; refine HRef.out.mono ?_; rintro e w1 ⟨rfl, h1⟩; have h1 := low_and hr0 h1)
      | (go_at_call 58; refine (HFd2.out _).mono ?_; rintro e w2 ⟨rfl, h2⟩; have h2 := low_and h1 h2))
      go_ret2
      rw [HR.out]
      exact ⟨⟨_, rfl, World.ownsRow_nil _ _ _ _⟩, low_and HB0.out h2⟩
    | some p =>
      have HFd2 := Lib.hid (fun W' => (HFd.out W').mono fun e w' h => (show e = .returned (.tuple #[.int .i64 (p : Int), .bool true]) ∧ Below W'.heap.size W' w' from h))
      have hpl := hfl p rfl
      have HR := Lib.hid (show R = (wholeL base n ((pA base p, n.ahd p) :: dnL base n p (n.len - 1 - p)), 0) from hP)
      have HA := Lib.hid (fun W' => fahead_any n (p := p) (by omega) W')
      have HT := Lib.hid (fun W b (h : ChAt W w.heap.size b base n ([(base + 24, IntKind.u64.wrap (n.ct + 1))] ++ [(pA base p, n.ahd p)])) => takeOut_any h (by simp) hbse hpl)
      have hdl := dnL_len base n (n.len - 1 - p) p
      generalize hD : dnL base n p (n.len - 1 - p) = D at HR HT hdl
      generalize hy : n.ahd p = y at HA HR HT
      have HPt := Lib.hid (fun W b (h : ChAt W w.heap.size b base n [(base + 24, IntKind.u64.wrap (n.ct + 1))]) => cptr_any h (by simp) hbse (p := p) (by omega) y)
      have HEnd := Lib.hid (fun W b (h : ChAt W w.heap.size b base n ([(base + 24, IntKind.u64.wrap (n.ct + 1))] ++ [(pA base p, y)] ++ D)) => cend_any h (by simp only [List.length_append, List.length_singleton]; omega) hbse)
      have HIL := Lib.hid (show wholeL base n ((pA base p, y) :: D) = [(base + 24, IntKind.u64.wrap (n.ct + 1))] ++ [(pA base p, y)] ++ D ++ [(base + 24, IntKind.u64.wrap (n.ct + 2))] by simp [wholeL])
      clear HFd hP hfl hD hy hdl
      go_enter Try.func43, Try.ntmps43
      go_wp2_with (first
      | (rw [← HWa.out]; (refine wpList_load_mid rfl _ _ rfl w.heap.size 0 rfl n.cl _ (ndR (HRR.out _ (by assumption))) Try.underlying27 rfl ndI ?_))
      | (refine wpList_load_mid rfl _ _ rfl w.heap.size 0 rfl n.cl _ (ndR (HRR.out _ (by assumption))) Try.underlying27 rfl ndI ?_)
      | (go_at_call 57; refine HRef.out.mono ?_; rintro e w1 ⟨rfl, h1⟩; have h1 := low_and hr0 h1)
      | (go_at_call 58; refine (HFd2.out _).mono ?_; rintro e w2 ⟨rfl, h2⟩; have h2 := low_and h1 h2)
      | (go_at_call 61; refine (HBg.out _).mono ?_; rintro e w5 ⟨b, rfl, hch, hb5⟩; have hbg := low_and h2 hb5; have HC := Lib.hid (ChAt.mono (B' := w.heap.size) hch (Nat.le_trans HWs.out (Below.size (by assumption : Below Wa.heap.size Wa _)))); clear hch)
      | (go_at_call 67; refine (HA.out _).mono ?_; rintro e w6 ⟨rfl, hb6⟩; have HC6 := Lib.hid (HC.out.low hb6); have HBA := Lib.hid (Below.mono hb6 (Nat.le_trans HWs.out hbg.size)); have hbg6 := low_and hbg hb6)
      | (go_at_call 65; refine (HPt.out _ _ HC6.out).mono ?_; rintro e w7 ⟨rfl, h7, hb7⟩)
      | (go_at_call 68; refine (HT.out _ _ h7).mono ?_; rintro e w8 ⟨rfl, h8, hb8⟩)
      | (go_at_call 66; refine (HEnd.out _ _ h8).mono ?_; rintro e w9 ⟨⟨v, rfl, ho⟩, hb9⟩))
      go_ret2
      rw [HR.out]
      refine ⟨⟨_, rfl, ?_⟩, (low_and HB0.out hbg).trans (HBA.out.trans (hb7.trans (hb8.trans hb9)))⟩
      rw [HIL.out, List.length_append (bs := [(base + 24, IntKind.u64.wrap (n.ct + 2))])]
      exact ho
set_option maxRecDepth 100000 in
set_option maxHeartbeats 8000000 in
theorem swap_any {base : Int} (hb : 0 ≤ base) (n : Nd) (key ptr : Int) (w : World) : Calls Try.prog 44 #[.int .u64 base, n.V, .int .u64 key, .int .u64 ptr] w (PutsOut w (swapP base n key ptr)) := by
  have r0 := Row.new w 27 n.cl.toArray
  obtain ⟨Wa, hWa⟩ : ∃ Wa, Wa = w.alloc (.cells n.cl.toArray 27) := ⟨_, rfl⟩
  rw [← hWa] at r0
  have hb0 : Below w.heap.size w Wa := by rw [hWa]; exact alloc_low _ _
  have HB0 := Lib.hid hb0
  have HRR := Lib.hid (fun W' (hb : Below Wa.heap.size Wa W') => (show NdAt W' w.heap.size n from r0.below hb r0.lt))
  have HWa := Lib.hid hWa
  have HWs := Lib.hid (show w.heap.size ≤ Wa.heap.size from hb0.size)
  have hl8 := n.len_le
  have hr0 := Below.refl Wa.heap.size Wa
  have HAl := Lib.hid (alloc_low Wa (.cells #[.int .u64 ptr] 23))
  have HRef := Lib.hid (refusal_any hb n (ads_single Wa ptr) (by simp))
  have hP : swapP base n key ptr = (if refE base n [ptr] ≠ 0 then ([], refE base n [ptr]) else match n.find key with | none => ([], 5) | some p => (wholeL base n [(pA base p, ptr)], 0)) := rfl
  have hbb := fun h => refE_base (b := base) (n := n) (l := [ptr]) h
  have HFd := Lib.hid (fun W' => nFind_any n key W')
  have hfl := fun p h => find_lt (n := n) (key := key) (p := p) h
  obtain ⟨f, hf⟩ : ∃ f, f = n.find key := ⟨_, rfl⟩
  rw [← hf] at HFd hP hfl
  clear hf
  generalize hR : swapP base n key ptr = R at hP ⊢
  generalize refE base n [ptr] = E at HRef hP hbb
  clear r0 hWa hb0 hR
  obtain hE | hE : E ≠ 0 ∨ E = 0 := by omega
  · have HR := Lib.hid (show R = ([], E) by rw [hP, if_pos hE])
    have hEb : (E != 0) = true := by simpa using hE
    clear hP hbb
    go_enter Try.func44, Try.ntmps44
    go_wp2_with (first
      | (rw [← HWa.out]; (refine wpList_load_mid rfl _ _ rfl w.heap.size 0 rfl n.cl _ (ndR (HRR.out _ (by assumption))) Try.underlying27 rfl ndI ?_))
      | (refine wpList_load_mid rfl _ _ rfl w.heap.size 0 rfl n.cl _ (ndR (HRR.out _ (by assumption))) Try.underlying27 rfl ndI ?_)
      | (go_at_call 57; refine HRef.out.mono ?_; rintro e w1 ⟨rfl, h1⟩; have h1 := low_and HAl.out h1))
    go_ret2
    rw [HR.out]
    exact ⟨⟨_, rfl, World.ownsRow_nil _ _ _ _⟩, low_and HB0.out h1⟩
  · subst hE
    rw [if_neg (by simp)] at hP
    have hbse := hbb rfl
    have HBg := Lib.hid (fun W' => begin_any hbse n W')
    clear hbb
    cases f with
    | none =>
      have HFd2 := Lib.hid (fun W' => (HFd.out W').mono fun e w' h => (show e = .returned (.tuple #[.int .i64 0, .bool false]) ∧ Below W'.heap.size W' w' from h))
      have HR := Lib.hid (show R = ([], 5) from hP)
      clear HFd hP hfl
      go_enter Try.func44, Try.ntmps44
      go_wp2_with (first
      | (rw [← HWa.out]; (refine wpList_load_mid rfl _ _ rfl w.heap.size 0 rfl n.cl _ (ndR (HRR.out _ (by assumption))) Try.underlying27 rfl ndI ?_))
      | (refine wpList_load_mid rfl _ _ rfl w.heap.size 0 rfl n.cl _ (ndR (HRR.out _ (by assumption))) Try.underlying27 rfl ndI ?_)
      | (go_at_call 57; refine HRef.out.mono ?_; rintro e w1 ⟨rfl, h1⟩; have h1 := low_and HAl.out h1)
      | (go_at_call 58; refine (HFd2.out _).mono ?_; rintro e w2 ⟨rfl, h2⟩; have h2 := low_and h1 h2))
      go_ret2
      rw [HR.out]
      exact ⟨⟨_, rfl, World.ownsRow_nil _ _ _ _⟩, low_and HB0.out h2⟩
    | some p =>
      have HFd2 := Lib.hid (fun W' => (HFd.out W').mono fun e w' h => (show e = .returned (.tuple #[.int .i64 (p : Int), .bool true]) ∧ Below W'.heap.size W' w' from h))
      have hpl := hfl p rfl
      have HR := Lib.hid (show R = (wholeL base n [(pA base p, ptr)], 0) from hP)
      have HPt := Lib.hid (fun W b (h : ChAt W w.heap.size b base n [(base + 24, IntKind.u64.wrap (n.ct + 1))]) => cptr_any h (by simp) hbse (p := p) (by omega) ptr)
      have HEnd := Lib.hid (fun W b (h : ChAt W w.heap.size b base n ([(base + 24, IntKind.u64.wrap (n.ct + 1))] ++ [(pA base p, ptr)])) => cend_any h (by simp) hbse)
      have HIL := Lib.hid (show wholeL base n [(pA base p, ptr)] = [(base + 24, IntKind.u64.wrap (n.ct + 1))] ++ [(pA base p, ptr)] ++ [(base + 24, IntKind.u64.wrap (n.ct + 2))] by simp [wholeL])
      clear HFd hP hfl
      go_enter Try.func44, Try.ntmps44
      go_wp2_with (first
      | (rw [← HWa.out]; (refine wpList_load_mid rfl _ _ rfl w.heap.size 0 rfl n.cl _ (ndR (HRR.out _ (by assumption))) Try.underlying27 rfl ndI ?_))
      | (refine wpList_load_mid rfl _ _ rfl w.heap.size 0 rfl n.cl _ (ndR (HRR.out _ (by assumption))) Try.underlying27 rfl ndI ?_)
      | (go_at_call 57; refine HRef.out.mono ?_; rintro e w1 ⟨rfl, h1⟩; have h1 := low_and HAl.out h1)
      | (go_at_call 58; refine (HFd2.out _).mono ?_; rintro e w2 ⟨rfl, h2⟩; have h2 := low_and h1 h2)
      | (go_at_call 61; refine (HBg.out _).mono ?_; rintro e w5 ⟨b, rfl, hch, hb5⟩; have hbg := low_and h2 hb5; have HC := Lib.hid (ChAt.mono (B' := w.heap.size) hch (Nat.le_trans HWs.out (Below.size (by assumption : Below Wa.heap.size Wa _)))); clear hch)
      | (go_at_call 65; refine (HPt.out _ _ HC.out).mono ?_; rintro e w7 ⟨rfl, h7, hb7⟩)
      | (go_at_call 66; refine (HEnd.out _ _ h7).mono ?_; rintro e w9 ⟨⟨v, rfl, ho⟩, hb9⟩))
      go_ret2
      rw [HR.out]
      refine ⟨⟨_, rfl, ?_⟩, (low_and HB0.out hbg).trans (hb7.trans hb9)⟩
      rw [HIL.out, List.length_append (bs := [(base + 24, IntKind.u64.wrap (n.ct + 2))])]
      exact ho
theorem own_shape {w : World} {B s n : Nat} {e : TypeId} {v : Value} {xs : List Value} (h : w.ownsRow B e s v n xs) : ∃ A cap, v = .slice A n cap := by
  rcases h.2 with ⟨rfl, h0⟩ | ⟨g, cap, cur, rfl, _⟩
  · exact ⟨none, 0, by rw [h0]⟩
  · exact ⟨_, cap, rfl⟩
set_option maxRecDepth 100000 in
set_option maxHeartbeats 8000000 in
theorem cut_any {base : Int} (hb : 0 ≤ base) (n : Nd) (high : Int) (w : World) : Calls Try.prog 45 #[.int .u64 base, n.V, .int .u64 high] w (PutsOut w (cutP base n high)) := by
  have r0 := Row.new w 27 n.cl.toArray
  obtain ⟨Wa, hWa⟩ : ∃ Wa, Wa = w.alloc (.cells n.cl.toArray 27) := ⟨_, rfl⟩
  rw [← hWa] at r0
  have hb0 : Below w.heap.size w Wa := by rw [hWa]; exact alloc_low _ _
  have HB0 := Lib.hid hb0
  have HRR := Lib.hid (fun W' (hb : Below Wa.heap.size Wa W') => (show NdAt W' w.heap.size n from r0.below hb r0.lt))
  have HWa := Lib.hid hWa
  have HWs := Lib.hid (show w.heap.size ≤ Wa.heap.size from hb0.size)
  have hl8 := n.len_le
  have hr0 := Below.refl Wa.heap.size Wa
  have HRef := Lib.hid (refusal_any hb n (ads_nil Wa) (by simp))
  have hP : cutP base n high = (if refE base n [] ≠ 0 then ([], refE base n []) else if (n.act high true).length = n.len then ([], 5) else (wholeL base n [(pA base (n.act high true).length, 0)], 0)) := rfl
  have hbb := fun h => refE_base (b := base) (n := n) (l := []) h
  have HAc := Lib.hid (fun W' => nActive_any n high true W')
  have HLn := Lib.hid (fun W' => nlen_any n W')
  have hal := n.act_len high true
  generalize flatE (n.act high true) = fl at HAc
  obtain ⟨m, hm⟩ : ∃ m, m = (n.act high true).length := ⟨_, rfl⟩
  rw [← hm] at HAc hP hal
  have HMl := Lib.hid hm
  clear hm
  generalize hR : cutP base n high = R at hP ⊢
  generalize refE base n [] = E at HRef hP hbb
  clear r0 hWa hb0 hR
  obtain hE | hE : E ≠ 0 ∨ E = 0 := by omega
  · have HR := Lib.hid (show R = ([], E) by rw [hP, if_pos hE])
    have hEb : (E != 0) = true := by simpa using hE
    clear hP hbb
    go_enter Try.func45, Try.ntmps45
    go_wp2_with (first
      | (rw [← HWa.out]; (refine wpList_load_mid rfl _ _ rfl w.heap.size 0 rfl n.cl _ (ndR (HRR.out _ (by assumption))) Try.underlying27 rfl ndI ?_))
      | (refine wpList_load_mid rfl _ _ rfl w.heap.size 0 rfl n.cl _ (ndR (HRR.out _ (by assumption))) Try.underlying27 rfl ndI ?_)
      | (go_at_call 57; refine HRef.out.mono ?_; rintro e w1 ⟨rfl, h1⟩; have h1 := low_and hr0 h1))
    go_ret2
    rw [HR.out]
    exact ⟨⟨_, rfl, World.ownsRow_nil _ _ _ _⟩, low_and HB0.out h1⟩
  · subst hE
    rw [if_neg (by simp)] at hP
    have hbse := hbb rfl
    have HBg := Lib.hid (fun W' => begin_any hbse n W')
    clear hbb
    obtain hm | hm : m = n.len ∨ m ≠ n.len := by omega
    · have HR := Lib.hid (show R = ([], 5) by rw [hP, if_pos hm])
      clear hP
      rw [hm] at HAc
      have hmm : ((n.len : Int) == (n.len : Int)) = true := by simp
      go_enter Try.func45, Try.ntmps45
      go_wp2_with (first
      | (rw [← HWa.out]; (refine wpList_load_mid rfl _ _ rfl w.heap.size 0 rfl n.cl _ (ndR (HRR.out _ (by assumption))) Try.underlying27 rfl ndI ?_))
      | (refine wpList_load_mid rfl _ _ rfl w.heap.size 0 rfl n.cl _ (ndR (HRR.out _ (by assumption))) Try.underlying27 rfl ndI ?_)
      | (go_at_call 57; refine HRef.out.mono ?_; rintro e w1 ⟨rfl, h1⟩; have h1 := low_and hr0 h1)
      | (go_at_call 69; refine (HAc.out _).mono ?_; rintro e w2 ⟨⟨v0, rfl, ho0⟩, h2⟩; obtain ⟨A0, cap0, rfl⟩ := own_shape ho0; clear ho0; have h2 := low_and h1 h2)
      | (go_at_call 60; refine (HLn.out _).mono ?_; rintro e w3 ⟨rfl, h3⟩; have h3 := low_and h2 h3))
      go_ret2
      rw [HR.out]
      exact ⟨⟨_, rfl, World.ownsRow_nil _ _ _ _⟩, low_and HB0.out h3⟩
    · have hmb : ((m : Int) == (n.len : Int)) = false := by simp; omega
      have HR := Lib.hid (show R = (wholeL base n [(pA base m, 0)], 0) by rw [hP, if_neg hm])
      have hm8 : m < 8 := by have := actL_len n high true n.vp; have h2 := n.vpTo_len n.len; have h3 := HMl.out; unfold Nd.act at h3; unfold Nd.vp at this; unfold Nd.vp at h3; omega
      have HPt := Lib.hid (fun W b (h : ChAt W w.heap.size b base n [(base + 24, IntKind.u64.wrap (n.ct + 1))]) => cptr_any h (by simp) hbse (p := m) hm8 0)
      have HEnd := Lib.hid (fun W b (h : ChAt W w.heap.size b base n ([(base + 24, IntKind.u64.wrap (n.ct + 1))] ++ [(pA base m, 0)])) => cend_any h (by simp) hbse)
      have HIL := Lib.hid (show wholeL base n [(pA base m, 0)] = [(base + 24, IntKind.u64.wrap (n.ct + 1))] ++ [(pA base m, 0)] ++ [(base + 24, IntKind.u64.wrap (n.ct + 2))] by simp [wholeL])
      clear hP
      go_enter Try.func45, Try.ntmps45
      go_wp2_with (first
      | (rw [← HWa.out]; (refine wpList_load_mid rfl _ _ rfl w.heap.size 0 rfl n.cl _ (ndR (HRR.out _ (by assumption))) Try.underlying27 rfl ndI ?_))
      | (refine wpList_load_mid rfl _ _ rfl w.heap.size 0 rfl n.cl _ (ndR (HRR.out _ (by assumption))) Try.underlying27 rfl ndI ?_)
      | (go_at_call 57; refine HRef.out.mono ?_; rintro e w1 ⟨rfl, h1⟩; have h1 := low_and hr0 h1)
      | (go_at_call 69; refine (HAc.out _).mono ?_; rintro e w2 ⟨⟨v0, rfl, ho0⟩, h2⟩; obtain ⟨A0, cap0, rfl⟩ := own_shape ho0; clear ho0; have h2 := low_and h1 h2)
      | (go_at_call 60; refine (HLn.out _).mono ?_; rintro e w3 ⟨rfl, h3⟩; have h3 := low_and h2 h3)
      | (go_at_call 61; refine (HBg.out _).mono ?_; rintro e w5 ⟨b, rfl, hch, hb5⟩; have hbg := low_and h3 hb5; have HC := Lib.hid (ChAt.mono (B' := w.heap.size) hch (Nat.le_trans HWs.out (Below.size (by assumption : Below Wa.heap.size Wa _)))); clear hch)
      | (go_at_call 65; refine (HPt.out _ _ HC.out).mono ?_; rintro e w7 ⟨rfl, h7, hb7⟩)
      | (go_at_call 66; refine (HEnd.out _ _ h7).mono ?_; rintro e w9 ⟨⟨v, rfl, ho⟩, hb9⟩))
      go_ret2
      rw [HR.out]
      refine ⟨⟨_, rfl, ?_⟩, (low_and HB0.out hbg).trans (hb7.trans hb9)⟩
      rw [HIL.out, List.length_append (bs := [(base + 24, IntKind.u64.wrap (n.ct + 2))])]
      exact ho
set_option maxRecDepth 100000 in
set_option maxHeartbeats 8000000 in
theorem link_any {base : Int} (hb : 0 ≤ base) (n : Nd) (next : Int) (w : World) : Calls Try.prog 46 #[.int .u64 base, n.V, .int .u64 next] w (PutsOut w (linkP base n next)) := by
  have r0 := Row.new w 27 n.cl.toArray
  obtain ⟨Wa, hWa⟩ : ∃ Wa, Wa = w.alloc (.cells n.cl.toArray 27) := ⟨_, rfl⟩
  rw [← hWa] at r0
  have hb0 : Below w.heap.size w Wa := by rw [hWa]; exact alloc_low _ _
  have HB0 := Lib.hid hb0
  have HRR := Lib.hid (fun W' (hb : Below Wa.heap.size Wa W') => (show NdAt W' w.heap.size n from r0.below hb r0.lt))
  have HWa := Lib.hid hWa
  have HWs := Lib.hid (show w.heap.size ≤ Wa.heap.size from hb0.size)
  have hl8 := n.len_le
  have hr0 := Below.refl Wa.heap.size Wa
  have HRef := Lib.hid (refusal_any hb n (ads_nil Wa) (by simp))
  have hP : linkP base n next = (if refE base n [] ≠ 0 then ([], refE base n []) else (wholeL base n [(base + 16, next)], 0)) := rfl
  have hbb := fun h => refE_base (b := base) (n := n) (l := []) h
  generalize hR : linkP base n next = R at hP ⊢
  generalize refE base n [] = E at HRef hP hbb
  clear r0 hWa hb0 hR
  obtain hE | hE : E ≠ 0 ∨ E = 0 := by omega
  · have HR := Lib.hid (show R = ([], E) by rw [hP, if_pos hE])
    have hEb : (E != 0) = true := by simpa using hE
    clear hP hbb
    go_enter Try.func46, Try.ntmps46
    go_wp2_with (first
      | (rw [← HWa.out]; (refine wpList_load_mid rfl _ _ rfl w.heap.size 0 rfl n.cl _ (ndR (HRR.out _ (by assumption))) Try.underlying27 rfl ndI ?_))
      | (refine wpList_load_mid rfl _ _ rfl w.heap.size 0 rfl n.cl _ (ndR (HRR.out _ (by assumption))) Try.underlying27 rfl ndI ?_)
      | (go_at_call 57; refine HRef.out.mono ?_; rintro e w1 ⟨rfl, h1⟩; have h1 := low_and hr0 h1))
    go_ret2
    rw [HR.out]
    exact ⟨⟨_, rfl, World.ownsRow_nil _ _ _ _⟩, low_and HB0.out h1⟩
  · subst hE
    rw [if_neg (by simp)] at hP
    have hbse := hbb rfl
    have HBg := Lib.hid (fun W' => begin_any hbse n W')
    clear hbb
    have HR := Lib.hid hP
    have HSt := Lib.hid (fun W b (h : ChAt W w.heap.size b base n [(base + 24, IntKind.u64.wrap (n.ct + 1))]) => cstore_any h (by simp) hbse (at_ := 16) (by omega) next)
    have HEnd := Lib.hid (fun W b (h : ChAt W w.heap.size b base n ([(base + 24, IntKind.u64.wrap (n.ct + 1))] ++ [(base + 16, next)])) => cend_any h (by simp) hbse)
    have HIL := Lib.hid (show wholeL base n [(base + 16, next)] = [(base + 24, IntKind.u64.wrap (n.ct + 1))] ++ [(base + 16, next)] ++ [(base + 24, IntKind.u64.wrap (n.ct + 2))] by simp [wholeL])
    clear hP
    go_enter Try.func46, Try.ntmps46
    go_wp2_with (first
      | (rw [← HWa.out]; (refine wpList_load_mid rfl _ _ rfl w.heap.size 0 rfl n.cl _ (ndR (HRR.out _ (by assumption))) Try.underlying27 rfl ndI ?_))
      | (refine wpList_load_mid rfl _ _ rfl w.heap.size 0 rfl n.cl _ (ndR (HRR.out _ (by assumption))) Try.underlying27 rfl ndI ?_)
      | (go_at_call 57; refine HRef.out.mono ?_; rintro e w1 ⟨rfl, h1⟩; have h1 := low_and hr0 h1)
      | (go_at_call 61; refine (HBg.out _).mono ?_; rintro e w5 ⟨b, rfl, hch, hb5⟩; have hbg := low_and h1 hb5; have HC := Lib.hid (ChAt.mono (B' := w.heap.size) hch (Nat.le_trans HWs.out (Below.size (by assumption : Below Wa.heap.size Wa _)))); clear hch)
      | (go_at_call 70; refine (HSt.out _ _ HC.out).mono ?_; rintro e w7 ⟨rfl, h7, hb7⟩)
      | (go_at_call 66; refine (HEnd.out _ _ h7).mono ?_; rintro e w9 ⟨⟨v, rfl, ho⟩, hb9⟩))
    go_ret2
    rw [HR.out]
    refine ⟨⟨_, rfl, ?_⟩, (low_and HB0.out hbg).trans (hb7.trans hb9)⟩
    rw [HIL.out, List.length_append (bs := [(base + 24, IntKind.u64.wrap (n.ct + 2))])]
    exact ho
end Go.Proofs.Yteojhhfcfdkmdaa
/- Fast's stores as lists: what they do to a node's places; plain facts of lists; no conditions. -/
namespace Go.Proofs.Yteojhhfcfdkmdaa
open Go.RowKit
set_option linter.unusedVariables false
set_option linter.unusedSimpArgs false
theorem ent_get {n : Nd} {E Z : List (Int × Int)} (h : n.sl = E ++ Z) {i : Nat} (hi : i < E.length) : n.key i = E[i].1 ∧ n.ptr i = E[i].2 := by
  have hl : E.length + Z.length = 8 := by rw [← List.length_append, ← h]; exact n.sl_len
  have h8 : i < 8 := by omega
  have := n.sl_at h8
  rw [h, List.getD_eq_getElem?_getD, List.getElem?_append_left hi, List.getElem?_eq_getElem hi] at this
  have e : E[i] = n.ent i := this
  rw [e]
  exact ⟨rfl, rfl⟩
theorem dn_down {base : Int} {n : Nd} {E Z : List (Int × Int)} (h : n.sl = E ++ Z) : ∀ c i, i + 1 + c = E.length → dnL base n i c = downL base i (E.drop (i + 1))
  | 0, i, hc => by rw [List.drop_eq_nil_of_le (by omega)]; rfl
  | c + 1, i, hc => by
    have hi : i + 1 < E.length := by omega
    obtain ⟨e1, e2⟩ := ent_get h hi
    rw [List.drop_eq_getElem_cons hi, dnL, downL, dn_down h c (i + 1) (by omega), e1, e2]
theorem up_up {base : Int} {n : Nd} {E Z : List (Int × Int)} (h : n.sl = E ++ Z) (p : Nat) : ∀ c, p + c ≤ E.length → upN base n p c = upL base E p c
  | 0, hc => rfl
  | c + 1, hc => by
    have hi : p + c < E.length := by omega
    obtain ⟨e1, e2⟩ := ent_get h hi
    rw [upN, upL, up_up h p c (by omega), e1, e2, List.getD_eq_getElem?_getD, List.getElem?_eq_getElem hi]
    rfl
theorem ahd_last {n : Nd} {A T : List (Int × Int)} (h : n.sl = A ++ T) : n.ahd A.length = lastP n.fi A := by
  rcases List.eq_nil_or_concat A with rfl | ⟨A', e, rfl⟩
  · rfl
  · rw [List.concat_eq_append] at h ⊢
    rw [lastP_snoc, List.length_append, List.length_singleton, Nd.ahd_succ]
    obtain ⟨_, e2⟩ := ent_get (i := A'.length) h (by simp)
    rw [e2]
    simp
/-- A store of Count leaves the entries. -/
theorem has_ct {n : Nd} {E : List (Int × Int)} (h : Has E n) (x : Int) : Has E { n with ct := x } := h
theorem has_nx {n : Nd} {E : List (Int × Int)} (h : Has E n) (x : Int) : Has E { n with nx := x } := h
theorem sw_ct {n : Nd} {E Z : List (Int × Int)} (h : SW n E Z) (x : Int) : SW { n with ct := x } E Z := ⟨h.sl, h.z, h.good⟩
theorem SW.inv {n : Nd} {E Z : List (Int × Int)} (h : SW n E Z) : n.inv = -1 := by
  have h1 := congrArg List.length h.es
  have h2 := h.len
  unfold Nd.es at h1
  rw [List.length_map, ← h2] at h1
  refine n.inv_none fun i hi => ?_
  unfold Nd.vp Nd.vpTo at h1
  have h3 : ((List.range n.len).filter n.ok).length = (List.range n.len).length := by rw [h1, List.length_range]
  exact List.length_filter_eq_length_iff.1 h3 i (List.mem_range.2 hi)
/-- Delete: Count; the pointer ahead of it, which is the effect; then the gap is closed; Count. -/
theorem plan_del {base : Int} {n : Nd} (hm : n.may 0 false = true) (hi : n.inv = -1) {A B : List (Int × Int)} {e : Int × Int} (hE : n.es = A ++ e :: B) (x y : Int) :
    ∃ m1 m2 m3, Steps base (Has (A ++ e :: B)) n [(base + 24, x)] m1 ∧ ap base m1 (pA base A.length, n.ahd A.length) = some m2 ∧
      Steps base (Has (A ++ B)) m2 (dnL base n A.length (n.len - 1 - A.length) ++ [(base + 24, y)]) m3 ∧ m3.inv = -1 := by
  obtain ⟨E, Z, hw⟩ := n.whole hi
  obtain rfl : E = A ++ e :: B := hw.es.symm.trans hE
  have hf : Fit n (A ++ e :: B) := by have := (may_fit hm).1; rwa [hE] at this
  have hsl : n.sl = A ++ e :: (B ++ Z) := by simpa using hw.sl
  have hlen := hw.len
  have hsub : (A ++ B).Sublist (A ++ e :: B) := (List.sublist_cons_self e B).append_left A
  have hs1 : ({ n with ct := x } : Nd).sl = A ++ e :: (B ++ Z) := hsl
  obtain ⟨hl8, hs2⟩ := sl_p hs1 (n.ahd A.length)
  have ha : n.ahd A.length = lastP n.fi A := ahd_last hsl
  have hk1 : Kept n { n with ct := x } := ⟨rfl, rfl, rfl⟩
  have hk2 := hk1.trans (kept_p { n with ct := x } A.length (n.ahd A.length))
  have hf2 := (hf.sub hsub).kept hk2
  have hg := hf2.good (fun e he => good_nz hw.good e (hsub.subset he))
  have hSG : SG (({ n with ct := x } : Nd).setP A.length (n.ahd A.length)) A B Z e.1 := ⟨by rw [hs2, hk2.fi, ha], hw.z, hg, hf2.fi⟩
  obtain ⟨m, Z', hst, hwm, hk, hct, hnx⟩ := down_steps base B A _ e.1 Z hSG hf2
  have hd : dnL base n A.length (n.len - 1 - A.length) = downL base A.length B := by
    rw [dn_down hw.sl _ _ (by rw [hlen]; simp; omega)]
    congr 1
    simp
  rw [hd]
  have hh : Has (A ++ B) m := hwm.has (hf2.kept hk)
  refine ⟨{ n with ct := x }, _, { m with ct := y }, ⟨hw.has hf, _, ap_ct base n x, has_ct (hw.has hf) x, rfl⟩, ap_p base _ hl8 _, hst.append ⟨hh, _, ap_ct base m y, has_ct hh y, rfl⟩, (sw_ct hwm y).inv⟩
/-- Swap: Count; the other pointer, which is the effect; Count. -/
theorem plan_swap {base : Int} {n : Nd} (hm : n.may 0 false = true) (hi : n.inv = -1) {A B : List (Int × Int)} {k o p : Int} (hE : n.es = A ++ (k, o) :: B) (hp0 : p ≠ 0) (hp : p ≠ n.fi) (hpE : ∀ e ∈ A ++ B, p ≠ e.2) (x y : Int) :
    ∃ m1 m2 m3, Steps base (Has (A ++ (k, o) :: B)) n [(base + 24, x)] m1 ∧ ap base m1 (pA base A.length, p) = some m2 ∧
      Steps base (Has (A ++ (k, p) :: B)) m2 [(base + 24, y)] m3 ∧ m3.inv = -1 := by
  obtain ⟨E, Z, hw⟩ := n.whole hi
  obtain rfl : E = A ++ (k, o) :: B := hw.es.symm.trans hE
  have hf : Fit n (A ++ (k, o) :: B) := by have := (may_fit hm).1; rwa [hE] at this
  have hs1 : ({ n with ct := x } : Nd).sl = A ++ (k, o) :: (B ++ Z) := by show n.sl = _; simpa using hw.sl
  obtain ⟨hl8, hs2⟩ := sl_p hs1 p
  have hk1 : Kept n { n with ct := x } := ⟨rfl, rfl, rfl⟩
  have hk2 := hk1.trans (kept_p { n with ct := x } A.length p)
  have hf2 := (fit_swap hf hp hpE).kept hk2
  have hg := hf2.good (fun e he => by
    rcases List.mem_append.1 he with h | h
    · exact good_nz hw.good e (List.mem_append_left _ h)
    · rcases List.mem_cons.1 h with rfl | h
      · exact hp0
      · exact good_nz hw.good e (List.mem_append_right _ (List.mem_cons_of_mem _ h)))
  have hw2 : SW (({ n with ct := x } : Nd).setP A.length p) (A ++ (k, p) :: B) Z := ⟨by rw [hs2]; simp, hw.z, hg⟩
  have hh := hw2.has hf2
  exact ⟨{ n with ct := x }, _, { ({ n with ct := x } : Nd).setP A.length p with ct := y }, ⟨hw.has hf, _, ap_ct base n x, has_ct (hw.has hf) x, rfl⟩, ap_p base _ hl8 _, ⟨hh, _, ap_ct base _ y, has_ct hh y, rfl⟩, (sw_ct hw2 y).inv⟩
/-- Cut: Count; a nought behind the entries below the bound, which is the effect; Count. -/
theorem plan_cut {base : Int} {n : Nd} (hm : n.may 0 false = true) (hi : n.inv = -1) {A B : List (Int × Int)} {e : Int × Int} (hE : n.es = A ++ e :: B) (x y : Int) :
    ∃ m1 m2 m3, Steps base (Has (A ++ e :: B)) n [(base + 24, x)] m1 ∧ ap base m1 (pA base A.length, 0) = some m2 ∧
      Steps base (Has A) m2 [(base + 24, y)] m3 ∧ m3.inv = -1 := by
  obtain ⟨E, Z, hw⟩ := n.whole hi
  obtain rfl : E = A ++ e :: B := hw.es.symm.trans hE
  have hf : Fit n (A ++ e :: B) := by have := (may_fit hm).1; rwa [hE] at this
  have hs1 : ({ n with ct := x } : Nd).sl = A ++ e :: (B ++ Z) := by show n.sl = _; simpa using hw.sl
  obtain ⟨hl8, hs2⟩ := sl_p hs1 0
  have hk1 : Kept n { n with ct := x } := ⟨rfl, rfl, rfl⟩
  have hk2 := hk1.trans (kept_p { n with ct := x } A.length 0)
  have hsub : A.Sublist (A ++ e :: B) := List.sublist_append_left A _
  have hf2 := (hf.sub hsub).kept hk2
  have hw2 : SW (({ n with ct := x } : Nd).setP A.length 0) A ((e.1, 0) :: (B ++ Z)) := ⟨hs2, Or.inr ⟨_, _, rfl⟩, hf2.good (fun e he => good_nz hw.good e (hsub.subset he))⟩
  have hh := hw2.has hf2
  exact ⟨{ n with ct := x }, _, { ({ n with ct := x } : Nd).setP A.length 0 with ct := y }, ⟨hw.has hf, _, ap_ct base n x, has_ct (hw.has hf) x, rfl⟩, ap_p base _ hl8 _, ⟨hh, _, ap_ct base _ y, has_ct hh y, rfl⟩, (sw_ct hw2 y).inv⟩
/-- Link: Count, Next, Count: the entries stay. -/
theorem plan_link {base : Int} {n : Nd} (hm : n.may 0 false = true) (hi : n.inv = -1) (x y nx : Int) :
    ∃ m, Steps base (Has n.es) n [(base + 24, x), (base + 16, nx), (base + 24, y)] m ∧ m.inv = -1 := by
  obtain ⟨E, Z, hw⟩ := n.whole hi
  have hh : Has n.es n := ⟨hm, rfl⟩
  have h1 := has_ct hh x
  have h2 := has_nx h1 nx
  have h3 := has_ct h2 y
  exact ⟨_, ⟨hh, _, ap_ct base n x, h1, _, ap_nx base _ nx, h2, _, ap_ct base _ y, h3, rfl⟩, (show SW _ E Z from ⟨hw.sl, hw.z, hw.good⟩).inv⟩
theorem vpTo_grow (n : Nd) (a : Nat) : ∀ c, (n.vpTo (a + c)).length ≤ (n.vpTo a).length + c
  | 0 => Nat.le_refl _
  | c + 1 => by
    have := vpTo_grow n a c
    rw [← Nat.add_assoc, n.vpTo_succ, List.length_append]
    have h1 : (if n.ok (a + c) = true then [a + c] else []).length ≤ 1 := by split <;> simp
    omega
/-- A node that may be has one entry at most that is not valid: all behind it are. -/
theorem one_gap {n : Nd} (hm : n.may 0 false = true) {p : Nat} (hi : n.inv = (p : Int)) : p < n.len ∧ n.ok p = false ∧ (∀ i, i < p → n.ok i = true) ∧ ∀ i, p < i → i < n.len → n.ok i = true := by
  have hp : p < n.len ∧ n.ok p = false ∧ ∀ i, i < p → n.ok i = true := by
    unfold Nd.inv at hi
    split at hi
    · rename_i j hj
      rw [List.find?_range_eq_some] at hj
      obtain ⟨h1, h2, h3⟩ := hj
      have : j = p := by omega
      subst this
      exact ⟨by simpa using h2, by simpa using h1, fun i h => by simpa using h3 i h⟩
    · omega
  obtain ⟨hpl, hno, hall⟩ := hp
  have hlen := (may_fit hm).2
  refine ⟨hpl, hno, hall, fun i h1 h2 => ?_⟩
  cases ho : n.ok i with
  | true => rfl
  | false =>
    exfalso
    have g1 := n.vpTo_len p
    have g2 := n.vpTo_no hno
    have g3 := vpTo_grow n (p + 1) (i - (p + 1))
    rw [show p + 1 + (i - (p + 1)) = i by omega, g2] at g3
    have g4 := n.vpTo_no ho
    have g5 := vpTo_grow n (i + 1) (n.len - (i + 1))
    rw [show i + 1 + (n.len - (i + 1)) = n.len by omega, g4] at g5
    unfold Nd.es at hlen
    rw [List.length_map] at hlen
    unfold Nd.vp at hlen
    omega
theorem ahL_at (n : Nd) {i : Nat} (hi : i ≤ 8) : ahL n.fi n.sl i = n.ahd i := by
  unfold ahL Nd.ahd
  by_cases h : i = 0
  · rw [if_pos h, if_pos h]
  · rw [if_neg h, if_neg h, n.sl_at (by omega)]
    rfl
theorem erase_get (L : List (Int × Int)) {p i : Nat} : (L.take p ++ L.drop (p + 1)).getD i (0, 0) = if i < p then L.getD i (0, 0) else if p ≤ L.length then L.getD (i + 1) (0, 0) else L.getD i (0, 0) := by
  rw [List.getD_eq_getElem?_getD, List.getD_eq_getElem?_getD, List.getD_eq_getElem?_getD]
  by_cases h : i < p
  · rw [if_pos h]
    by_cases hl : i < L.length
    · rw [List.getElem?_append_left (by rw [List.length_take]; omega), List.getElem?_take_of_lt h]
    · rw [List.getElem?_eq_none (by rw [List.length_append, List.length_take, List.length_drop]; omega), List.getElem?_eq_none (by omega)]
  · rw [if_neg h]
    by_cases hp : p ≤ L.length
    · rw [if_pos hp, List.getElem?_append_right (by rw [List.length_take]; omega), List.length_take, List.getElem?_drop, Nat.min_eq_left hp, show p + 1 + (i - p) = i + 1 by omega]
    · rw [if_neg hp, List.getElem?_eq_none (by rw [List.length_append, List.length_take, List.length_drop]; omega), List.getElem?_eq_none (by omega)]
/-- A node with one entry that is not valid: the places ahead of it and behind it. -/
theorem gap_of {n : Nd} (hm : n.may 0 false = true) {p : Nat} (hi : n.inv = (p : Int)) : ∃ A B Z x, SG n A B Z x ∧ A.length = p := by
  obtain ⟨hpl, hno, hall, hrest⟩ := one_gap hm hi
  have h8 := n.len_le
  have hfi := (may_fit hm).1.fi
  have hsl := n.sl_len
  have hno' : n.ptr p = n.ahd p := by simpa [Nd.ok] using hno
  obtain ⟨L, hL⟩ : ∃ L, L = n.sl.take p ++ n.sl.drop (p + 1) := ⟨_, rfl⟩
  have hLl : L.length = 7 := by rw [hL, List.length_append, List.length_take, List.length_drop, hsl]; omega
  have hg : ∀ i, L.getD i (0, 0) = if i < p then n.sl.getD i (0, 0) else n.sl.getD (i + 1) (0, 0) := fun i => by
    rw [hL, erase_get, if_pos (show p ≤ n.sl.length by omega)]
  have hap : ahL n.fi L p = n.ahd p := by
    unfold ahL Nd.ahd
    by_cases h : p = 0
    · rw [if_pos h, if_pos h]
    · rw [if_neg h, if_neg h, hg, if_pos (by omega), n.sl_at (by omega)]
      rfl
  have hllp : p ≤ ll L := by
    apply Classical.byContradiction
    intro hlt
    have h1 := ll_at L (by omega)
    rw [hg, if_pos (by omega), n.sl_at (by omega)] at h1
    exact n.len_before (show ll L < n.len by omega) h1
  have hll8 : ∀ i, i < ll L → p ≤ i → i + 1 < n.len := fun i h1 h2 => by
    apply Classical.byContradiction
    intro h3
    have h4 : n.len - 1 < ll L := by omega
    have h5 := ll_before L _ h4
    have h7 := ll_le L
    rw [hg, if_neg (by omega), show n.len - 1 + 1 = n.len by omega, n.sl_at (by omega)] at h5
    have h6 : n.len = ll n.sl := n.len_ll
    have := ll_at n.sl (by omega)
    rw [← h6, n.sl_at (by omega)] at this
    exact h5 this
  obtain ⟨E, Z, hEZ, hz, hgood⟩ := good_of L n.fi (fun i h => by
    by_cases hip : i < p
    · have ho := hall i hip
      rw [n.ok_sl (by omega)] at ho
      have : ahL n.fi L i = ahL n.fi n.sl i := by
        unfold ahL
        by_cases h0 : i = 0
        · rw [if_pos h0, if_pos h0]
        · rw [if_neg h0, if_neg h0, hg, if_pos (by omega)]
      rw [hg, if_pos hip, this]
      simpa using ho
    · have h1 := hll8 i h (by omega)
      have ho := hrest (i + 1) (by omega) h1
      rw [n.ok_sl (by omega), ahL_at n (by omega), Nd.ahd_succ] at ho
      have : ahL n.fi L i = n.ptr i := by
        by_cases h0 : i = p
        · rw [h0, hap, hno']
        · unfold ahL
          rw [if_neg (by omega), hg, if_neg (by omega), show i - 1 + 1 = i by omega, n.sl_at (by omega)]
          rfl
      rw [hg, if_neg hip, this]
      simpa using ho)
  have hEl : ll L = E.length := by rw [hEZ]; exact (vl_good hz n.fi hgood).2
  have hA : L.take p = n.sl.take p := by
    rw [hL, List.take_append_of_le_length (by rw [List.length_take]; omega), List.take_take, Nat.min_self]
  have hB : L.drop p = n.sl.drop (p + 1) := by
    rw [hL, List.drop_append_of_le_length (by rw [List.length_take]; omega), List.drop_eq_nil_of_le (by rw [List.length_take]; omega), List.nil_append]
  have hEA : E.take p = n.sl.take p := by rw [← hA, hEZ, List.take_append_of_le_length (by omega)]
  have hEB : E.drop p ++ Z = n.sl.drop (p + 1) := by rw [← hB, hEZ, List.drop_append_of_le_length (by omega)]
  have hlen : (E.take p).length = p := by rw [List.length_take]; omega
  have hlast : n.ahd p = lastP n.fi (E.take p) := by
    have := ahd_last (n := n) (A := E.take p) (T := n.sl.drop p) (by rw [hEA, List.take_append_drop])
    rwa [hlen] at this
  refine ⟨E.take p, E.drop p, Z, n.key p, ⟨?_, hz, by rw [List.take_append_drop]; exact hgood, hfi⟩, hlen⟩
  rw [hEB, ← hlast, hEA, ← hno']
  have h9 : p < n.sl.length := by omega
  have := n.sl_at (show p < 8 by omega)
  rw [List.getD_eq_getElem?_getD, List.getElem?_eq_getElem h9] at this
  have e : n.sl[p] = (n.key p, n.ptr p) := this
  rw [← e, ← List.drop_eq_getElem_cons h9, List.take_append_drop]
/-- Repair: Count; the gap is closed; Count: the entries stay. -/
theorem plan_rep {base : Int} {n : Nd} (hm : n.may 0 false = true) {p : Nat} (hi : n.inv = (p : Int)) (x y : Int) :
    ∃ m, Steps base (Has n.es) n ((base + 24, x) :: dnL base n p (n.len - 1 - p) ++ [(base + 24, y)]) m ∧ m.inv = -1 := by
  obtain ⟨A, B, Z, g, hG, hAl⟩ := gap_of hm hi
  have hf := (may_fit hm).1
  have hes := hG.es
  have hlen := hG.len
  rw [hes] at hf ⊢
  have hk1 : Kept n { n with ct := x } := ⟨rfl, rfl, rfl⟩
  have hG1 : SG { n with ct := x } A B Z g := ⟨hG.sl, hG.z, hG.good, hG.fi⟩
  obtain ⟨m, Z', hst, hwm, hk, hct, hnx⟩ := down_steps base B A _ g Z hG1 (hf.kept hk1)
  have hd : dnL base n p (n.len - 1 - p) = downL base A.length B := by
    have hs : n.sl = (A ++ (g, lastP n.fi A) :: B) ++ Z := by rw [hG.sl]; simp
    rw [← hAl, dn_down hs _ _ (by rw [hlen]; simp; omega)]
    congr 1
    simp
  rw [hd]
  have hh : Has (A ++ B) m := hwm.has ((hf.kept hk1).kept hk)
  have h0 : Has (A ++ B) n := ⟨hm, hes⟩
  exact ⟨{ m with ct := y }, ⟨h0, _, ap_ct base n x, hst.append ⟨hh, _, ap_ct base m y, has_ct hh y, rfl⟩⟩, (sw_ct hwm y).inv⟩
/-- Insert: Count; a nought behind the place that is to come; the entries go one place up; a gap; the key; the pointer, which is the effect; Count. -/
theorem plan_ins {base : Int} {n : Nd} (hm : n.may 0 false = true) (hi : n.inv = -1) (h7 : n.len ≤ 7) {A B : List (Int × Int)} (hE : n.es = A ++ B) {k p : Int} (hA : ∀ e ∈ A, e.1 < k) (hB : ∀ e ∈ B, k < e.1) (hk : n.lo < k ∨ (n.lo = k ∧ n.l = 0)) (hp0 : p ≠ 0) (hp : p ≠ n.fi) (hpE : ∀ e ∈ A ++ B, p ≠ e.2) (x y : Int) :
    ∃ m1 m2 m3, Steps base (Has (A ++ B)) n ((base + 24, x) :: (mkRoom base n A.length ++ [(kA base A.length, k)])) m1 ∧ ap base m1 (pA base A.length, p) = some m2 ∧
      Steps base (Has (A ++ (k, p) :: B)) m2 [(base + 24, y)] m3 ∧ m3.inv = -1 := by
  obtain ⟨E, Z, hw⟩ := n.whole hi
  obtain rfl : E = A ++ B := hw.es.symm.trans hE
  have hf : Fit n (A ++ B) := by have := (may_fit hm).1; rwa [hE] at this
  have hlen := hw.len
  have hzl : (A ++ B).length + Z.length = 8 := by rw [← List.length_append, ← hw.sl]; exact n.sl_len
  have ha : n.ahd A.length = lastP n.fi A := ahd_last (T := B ++ Z) (by rw [hw.sl, List.append_assoc])
  have hup : upN base n A.length (n.len - A.length) = upL base (A ++ B) A.length (n.len - A.length) := up_up hw.sl _ _ (by rw [hlen]; simp)
  have hh0 : Has (A ++ B) n := ⟨hm, hE⟩
  have hk1 : Kept n { n with ct := x } := ⟨rfl, rfl, rfl⟩
  -- ahead of the entries' moves
  obtain ⟨n1, z, Z1, hst1, hs1, hz1, hkn⟩ : ∃ n1 z Z1, Steps base (Has (A ++ B)) { n with ct := x } (if n.len < 7 then [(pA base (n.len + 1), 0)] else []) n1 ∧ n1.sl = (A ++ B) ++ z :: Z1 ∧ Zok Z1 ∧ Kept n n1 := by
    match Z, hw, hzl with
    | [], hw, hzl => simp at hzl hlen; omega
    | [z], hw, hzl =>
      rw [if_neg (by rw [hlen]; simp at hzl ⊢; omega)]
      exact ⟨{ n with ct := x }, z, [], ⟨has_ct hh0 x, rfl⟩, hw.sl, Or.inl rfl, hk1⟩
    | z :: z2 :: Z0, hw, hzl =>
      rw [if_pos (by rw [hlen]; simp at hzl ⊢; omega)]
      have hs0 : ({ n with ct := x } : Nd).sl = (A ++ B ++ [z]) ++ z2 :: Z0 := by show n.sl = _; rw [hw.sl]; simp
      obtain ⟨hl8, hs2⟩ := sl_p hs0 0
      have hll : (A ++ B ++ [z]).length = n.len + 1 := by rw [hlen, List.length_append]; rfl
      rw [hll] at hl8 hs2
      have hk2 := hk1.trans (kept_p { n with ct := x } (n.len + 1) 0)
      have hzz : Zok (z :: (z2.1, 0) :: Z0) := by
        rcases hw.z with h | ⟨k', t', h⟩
        · cases h
        · cases h; exact Or.inr ⟨_, _, rfl⟩
      have hw2 : SW (({ n with ct := x } : Nd).setP (n.len + 1) 0) (A ++ B) (z :: (z2.1, 0) :: Z0) := ⟨by rw [hs2]; simp, hzz, by rw [hk2.fi]; exact hw.good⟩
      exact ⟨_, z, (z2.1, 0) :: Z0, ⟨has_ct hh0 x, _, by have := ap_p base { n with ct := x } hl8 0; simpa using this, hw2.has (hf.kept hk2), rfl⟩, by rw [hs2]; simp, Or.inr ⟨_, _, rfl⟩, hk2⟩
  have hf1 := hf.kept hkn
  have hh1 := hst1.last
  have hpc : A.length + (n.len - A.length) = (A ++ B).length := by rw [hlen]; simp
  obtain ⟨m, z', hst2, hsm, hkm, _, _⟩ := up_steps base (A ++ B) A.length (n.len - A.length) n1 z Z1 (by omega) (by rw [hpc, List.take_length, List.drop_length]; exact hs1) hz1 (by rw [hkn.fi]; exact hw.good) hf1 hh1
  rw [List.take_left, List.drop_left] at hsm
  have hkm' := hkn.trans hkm
  -- the gap
  obtain ⟨hl8, hs3⟩ := sl_p hsm (n.ahd A.length)
  have hk3 := hkm'.trans (kept_p m A.length (n.ahd A.length))
  have h3 : SG (m.setP A.length (n.ahd A.length)) A B Z1 z'.1 := ⟨by rw [hs3, hk3.fi, ha], hz1, by rw [hk3.fi]; exact hw.good, by rw [hk3.fi]; exact hf.fi⟩
  have hh3 := h3.has (hf.kept hk3)
  -- the key
  obtain ⟨_, hs4⟩ := sl_k h3.sl k
  have hk4 := hk3.trans (kept_k (m.setP A.length (n.ahd A.length)) A.length k)
  have h4 : SG ((m.setP A.length (n.ahd A.length)).setK A.length k) A B Z1 k := ⟨by rw [hs4, hk4.fi, hk3.fi], hz1, by rw [hk4.fi]; exact hw.good, by rw [hk4.fi]; exact hf.fi⟩
  have hh4 := h4.has (hf.kept hk4)
  -- the pointer
  obtain ⟨_, hs5⟩ := sl_p h4.sl p
  have hk5 := hk4.trans (kept_p ((m.setP A.length (n.ahd A.length)).setK A.length k) A.length p)
  have hf5 := (fit_ins hf hA hB hk hp hpE).kept hk5
  have h5 : SW (((m.setP A.length (n.ahd A.length)).setK A.length k).setP A.length p) (A ++ (k, p) :: B) Z1 := ⟨by rw [hs5]; simp, hz1, hf5.good (fun e he => by
    rcases List.mem_append.1 he with h | h
    · exact good_nz hw.good e (List.mem_append_left _ h)
    · rcases List.mem_cons.1 h with rfl | h
      · exact hp0
      · exact good_nz hw.good e (List.mem_append_right _ h))⟩
  have hh5 := h5.has hf5
  refine ⟨_, _, _, ⟨hh0, _, ap_ct base n x, ?_⟩, ap_p base _ hl8 p, ⟨hh5, _, ap_ct base _ y, has_ct hh5 y, rfl⟩, (sw_ct h5 y).inv⟩
  unfold mkRoom
  rw [hup, List.append_assoc, List.append_assoc]
  exact hst1.append (hst2.append ⟨hst2.last, _, ap_p base m hl8 _, hh3, _, ap_k base _ hl8 k, hh4, rfl⟩)
end Go.Proofs.Yteojhhfcfdkmdaa
/- The document's gap and whole: stores in new memory; of any node; conditions: a base that may be. -/
namespace Go.Proofs.Yteojhhfcfdkmdaa
open Go.RowKit
set_option linter.unusedVariables false
theorem flatE_two (l : List (Int × Int)) (a b : Int × Int) : flatE (l ++ [a, b]) = flatE l ++ [uw a.1, uw a.2, uw b.1, uw b.2] := by simp [flatE]
end Go.Proofs.Yteojhhfcfdkmdaa
/- The document's whole: a change's stores, Count ahead and behind; of any node, any few stores; conditions: a base that may be. -/
namespace Go.Proofs.Yteojhhfcfdkmdaa
open Go.RowKit
set_option linter.unusedVariables false
theorem own_made {w : World} {B : Nat} (e : TypeId) (cs : List Value) {k s : Nat} (hk : cs.length = k * s) (hB : B ≤ w.heap.size) (hm : k ≤ maxLen) : (w.alloc (.cells cs.toArray e)).ownsRow B e s (.slice (some ⟨w.heap.size, 0, none⟩) k k) k cs :=
  ⟨hk, .inr ⟨w.heap.size, k, cs.toArray, rfl, hB, heap_alloc_new9 _ _, Nat.le_refl _, hm, by simpa using hk, by simp [← hk]⟩⟩
theorem ent_news {w : World} {g o : Nat} : ∀ {l : List (Int × Int)} {k : Nat}, (∀ i e, l[i]? = some e → w.cell? ⟨g, o + (k + i) * 2, none⟩ = some (uw e.1) ∧ w.cell? ⟨g, o + (k + i) * 2 + 1, none⟩ = some (uw e.2)) → ∀ j u, (flatE l)[j]? = some u → w.cell? ⟨g, o + (k * 2 + j), none⟩ = some u
  | [], k, h, j, u, hu => by simp [flatE] at hu
  | a :: t, k, h, j, u, hu => by
    have h0 := h 0 a rfl
    match j, hu with
    | 0, hu => cases hu; rw [Nat.add_zero] at h0 ⊢; exact h0.1
    | 1, hu =>
      cases hu
      have := h0.2
      rw [Nat.add_zero, Nat.add_assoc] at this
      exact this
    | j + 2, hu =>
      have := ent_news (w := w) (g := g) (o := o) (l := t) (k := k + 1) (fun i e he => by
        have := h (i + 1) e he
        rw [show k + (i + 1) = k + 1 + i by omega] at this
        exact this) j u hu
      rw [show k * 2 + (j + 2) = (k + 1) * 2 + j by omega]
      exact this
theorem flatE_ones (l : List (Int × Int)) : ∀ u ∈ flatE l, u.oneCell' = true := by
  intro u hu
  unfold flatE at hu
  rw [List.mem_flatMap] at hu
  obtain ⟨e, _, he⟩ := hu
  simp at he
  rcases he with rfl | rfl <;> rfl
theorem flatE_app (l m : List (Int × Int)) : flatE (l ++ m) = flatE l ++ flatE m := by simp [flatE]
end Go.Proofs.Yteojhhfcfdkmdaa
/- The document's Same of two lists of stores: any two lists; no conditions but on memory. -/
namespace Go.Proofs.Yteojhhfcfdkmdaa
open Go.RowKit
set_option linter.unusedVariables false
theorem ent_ownG {w : World} {B : Nat} {e : TypeId} {v : Value} {l : List (Int × Int)} (h : w.ownsRow B e 2 v l.length (flatE l)) : EntAt w v l := by
  rcases h.2 with ⟨rfl, h0⟩ | ⟨g, cap, cur, rfl, _, _, _⟩
  · exact ⟨none, 0, by rw [h0], fun h1 => by omega⟩
  · refine ⟨_, cap, rfl, fun h0 => ⟨g, 0, rfl, fun i e he => ?_⟩⟩
    obtain ⟨f1, f2⟩ := flatE_at l i e he
    have c1 := h.cells (g := g) rfl _ _ f1
    have c2 := h.cells (g := g) rfl _ _ f2
    rw [Addr.add_mid] at c1 c2
    exact ⟨c1, by rw [Nat.add_assoc]; exact c2⟩
set_option maxRecDepth 100000 in
theorem eqPut (a b c d : Int) (w : World) : (Op.equalIn 10000 64 (.agg #[.int .u64 a, .int .u64 b]) (.agg #[.int .u64 c, .int .u64 d])).run Try.prog w = .ok (a == c && b == d) w := by
  have u3 := Try.underlying22
  have a3 := Try.isAgg22
  have z3 := Try.sizeOf22
  have u4 := Try.underlying23
  have a4 := Try.isAgg23
  have z4 := Try.sizeOf23
  have hS : Try.prog.underlying 64 = some (.struct (Try.prog.fieldsOf 64)) := by kernel_rfl
  have hp : Try.prog.stoodInHeld 64 = false := by kernel_rfl
  rw [show (10000 : Nat) = 9999 + 1 from rfl, run_equalIn_agg w 9999 64 _ _ hS hp]
  simp only [Program.fieldsOf, Try.underlying64]
  go_simp
  by_cases h1 : a = c <;> by_cases h2 : b = d <;> simp [h1, h2]
end Go.Proofs.Yteojhhfcfdkmdaa
/- fast's set: a word of a node is stored, or refused; of any node in memory; conditions: numbers of the width. -/
namespace Go.Proofs.Yteojhhfcfdkmdaa
open Go.RowKit
set_option linter.unusedVariables false
/-- What a store makes of a node in a block, and of the world. -/
def SetOut (w : World) (b : Nat) (r : Option Nd) (e : Ending) (w' : World) : Prop :=
  match r with
  | some m => e = .returned (.bool true) ∧ ∃ i u, w' = w.setCell ⟨b, i, none⟩ u ∧ NdAt w' b m
  | none => e = .returned (.bool false) ∧ w' = w
theorem at_k {at_ : Int} (h : 64 ≤ at_ ∧ at_ < 192) (h16 : at_ % 16 = 0) : ∃ i : Nat, i < 8 ∧ at_ = 64 + 16 * (i : Int) := ⟨((at_ - 64) / 16).toNat, by omega, by omega⟩
theorem at_p {at_ : Int} (h : 64 ≤ at_ ∧ at_ < 192) (h8 : at_ % 8 = 0) (h16 : at_ % 16 ≠ 0) : ∃ i : Nat, i < 8 ∧ at_ = 72 + 16 * (i : Int) := ⟨((at_ - 64) / 16).toNat, by omega, by omega⟩
theorem setK_cl (n : Nd) {i : Nat} (hi : i < 8) (x : Int) : n.cl.set (5 + i) (uw x) = (n.setK i x).cl := by
  rcases lt8 hi with rfl | rfl | rfl | rfl | rfl | rfl | rfl | rfl <;> rfl
theorem setP_cl (n : Nd) {i : Nat} (hi : i < 8) (x : Int) : n.cl.set (13 + i) (uw x) = (n.setP i x).cl := by
  rcases lt8 hi with rfl | rfl | rfl | rfl | rfl | rfl | rfl | rfl <;> rfl
theorem set_row {w : World} {b i : Nat} {n m : Nd} {u : Value} (h : NdAt w b n) (hm : n.cl.set i u = m.cl) : NdAt (w.setCell ⟨b, i, none⟩ u) b m := by
  have := Row.set h i u
  rw [List.setIfInBounds_toArray, hm] at this
  exact this
set_option maxRecDepth 100000 in
set_option maxHeartbeats 4000000 in
theorem set_any {w : World} {b : Nat} {n : Nd} (h : NdAt w b n) {at_ : Int} (ha : 0 ≤ at_ ∧ at_ < 18446744073709551616) (word : Int) : Calls Try.prog 48 #[.pointer (some ⟨b, 0, none⟩), .int .u64 at_, .int .u64 word] w (SetOut w b (ap 0 n (at_, word))) := by
  have HR := Lib.hid h
  have hfree := fun i => h.free i
  have hcells := fun i => ndAt_at h i
  have hlt := h.lt
  obtain h1 | h1 : at_ = 8 ∨ at_ ≠ 8 := by omega
  · subst h1
    have f := hfree 1
    have c := hcells 1
    have HE := Lib.hid (show ap 0 n (8, word) = some { n with lo := word } from rfl)
    clear h hfree hcells
    go_enter Try.func48, Try.ntmps48
    go_wp2
    go_ret
    rw [HE.out]
    exact ⟨rfl, 1, _, rfl, set_row HR.out (rfl)⟩
  · have b1 : (at_ == 8) = false := by simpa using h1
    obtain h2 | h2 : at_ = 16 ∨ at_ ≠ 16 := by omega
    · subst h2
      have f := hfree 2
      have c := hcells 2
      have HE := Lib.hid (show ap 0 n (16, word) = some { n with nx := word } from rfl)
      clear h hfree hcells
      go_enter Try.func48, Try.ntmps48
      go_wp2
      go_ret
      rw [HE.out]
      exact ⟨rfl, 2, _, rfl, set_row HR.out (rfl)⟩
    · have b2 : (at_ == 16) = false := by simpa using h2
      obtain h3 | h3 : at_ = 24 ∨ at_ ≠ 24 := by omega
      · subst h3
        have f := hfree 3
        have c := hcells 3
        have HE := Lib.hid (show ap 0 n (24, word) = some { n with ct := word } from rfl)
        clear h hfree hcells
        go_enter Try.func48, Try.ntmps48
        go_wp2
        go_ret
        rw [HE.out]
        exact ⟨rfl, 3, _, rfl, set_row HR.out (rfl)⟩
      · have b3 : (at_ == 24) = false := by simpa using h3
        obtain h4 | h4 : at_ = 32 ∨ at_ ≠ 32 := by omega
        · subst h4
          have f := hfree 4
          have c := hcells 4
          have HE := Lib.hid (show ap 0 n (32, word) = some { n with fi := word } from rfl)
          clear h hfree hcells
          go_enter Try.func48, Try.ntmps48
          go_wp2
          go_ret
          rw [HE.out]
          exact ⟨rfl, 4, _, rfl, set_row HR.out (rfl)⟩
        · have b4 : (at_ == 32) = false := by simpa using h4
          obtain h5 | h5 : at_ = 0 ∨ at_ ≠ 0 := by omega
          · have b5 : (at_ == 0) = true := by simpa using h5
            have HE := Lib.hid (show ap 0 n (at_, word) = none by unfold ap; dsimp only; rw [if_neg (by omega), if_neg (by omega), if_neg (by omega), if_neg (by omega), if_neg (by omega)])
            clear h hfree hcells
            go_enter Try.func48, Try.ntmps48
            go_wp2
            go_ret
            rw [HE.out]
            exact ⟨rfl, rfl⟩
          · have b5 : (at_ == 0) = false := by simpa using h5
            obtain h6 | h6 : at_ < 64 ∨ ¬ at_ < 64 := by omega
            · obtain h7 | h7 : 32 < at_ ∨ ¬ 32 < at_ := by omega
              · have HE := Lib.hid (show ap 0 n (at_, word) = none by unfold ap; dsimp only; rw [if_neg (by omega), if_neg (by omega), if_neg (by omega), if_neg (by omega), if_neg (by omega)])
                clear h hfree hcells
                go_enter Try.func48, Try.ntmps48
                go_wp2
                go_ret
                rw [HE.out]
                exact ⟨rfl, rfl⟩
              · have hm : at_.tmod 8 = at_ % 8 := Int.tmod_eq_emod_of_nonneg ha.1
                have h8 : at_ % 8 ≠ 0 := by omega
                have b8 : (at_ % 8 != 0) = true := by simpa using h8
                have b8' : (at_.tmod 8 != 0) = true := by rw [hm]; simpa using h8
                have h9 : ¬ 192 ≤ at_ := by omega
                clear hm
                have HE := Lib.hid (show ap 0 n (at_, word) = none by unfold ap; dsimp only; rw [if_neg (by omega), if_neg (by omega), if_neg (by omega), if_neg (by omega), if_neg (by omega)])
                clear h hfree hcells
                go_enter Try.func48, Try.ntmps48
                go_wp2
                go_ret
                rw [HE.out]
                exact ⟨rfl, rfl⟩
            · obtain h7 | h7 : 192 ≤ at_ ∨ ¬ 192 ≤ at_ := by omega
              · have h8 : 32 < at_ := by omega
                have HE := Lib.hid (show ap 0 n (at_, word) = none by unfold ap; dsimp only; rw [if_neg (by omega), if_neg (by omega), if_neg (by omega), if_neg (by omega), if_neg (by omega)])
                clear h hfree hcells
                go_enter Try.func48, Try.ntmps48
                go_wp2
                go_ret
                rw [HE.out]
                exact ⟨rfl, rfl⟩
              · have h8 : 32 < at_ := by omega
                have hm : at_.tmod 8 = at_ % 8 := Int.tmod_eq_emod_of_nonneg ha.1
                have hm16 : at_.tmod 16 = at_ % 16 := Int.tmod_eq_emod_of_nonneg ha.1
                obtain h9 | h9 : at_ % 8 ≠ 0 ∨ at_ % 8 = 0 := by omega
                · have b8 : (at_ % 8 != 0) = true := by simpa using h9
                  have b8' : (at_.tmod 8 != 0) = true := by rw [hm]; simpa using h9
                  clear hm hm16
                  have HE := Lib.hid (show ap 0 n (at_, word) = none by unfold ap; dsimp only; rw [if_neg (by omega), if_neg (by omega), if_neg (by omega), if_neg (by omega), if_neg (by omega)])
                  clear h hfree hcells
                  go_enter Try.func48, Try.ntmps48
                  go_wp2
                  go_ret
                  rw [HE.out]
                  exact ⟨rfl, rfl⟩
                · obtain h10 | h10 : at_ % 16 = 0 ∨ at_ % 16 ≠ 0 := by omega
                  · obtain ⟨i, hi, he⟩ := at_k (by omega) h10
                    have HE := Lib.hid (show ap 0 n (at_, word) = some (n.setK i word) by have := ap_k 0 n hi word; unfold kA at this; rw [he, show (64 + 16 * (i : Int)) = 0 + 64 + 16 * (i : Int) by omega]; exact this)
                    have f := hfree (5 + i)
                    have c := ndAt_key h hi
                    have b8 : (at_ % 8 != 0) = false := by simpa using h9
                    have hs : IntKind.u64.wrap (at_ - 64) = at_ - 64 := by rw [IntKind.wrap_u64]; omega
                    have hq : (at_ - 64).tdiv 16 = (i : Int) := by rw [Int.tdiv_eq_ediv_of_nonneg (by omega)]; omega
                    have hq2 : (at_ - 64) / 16 = (i : Int) := by omega
                    have hi8 : (i : Int) < 8 := by omega
                    have b16 : (at_ % 16 == 0) = true := by simpa using h10
                    clear h hfree hcells hm hm16 he h9 h10
                    go_enter Try.func48, Try.ntmps48
                    go_wp2
                    go_ret
                    rw [HE.out]
                    exact ⟨rfl, 5 + i, _, rfl, set_row HR.out (setK_cl n hi word)⟩
                  · obtain ⟨i, hi, he⟩ := at_p (by omega) h9 h10
                    have HE := Lib.hid (show ap 0 n (at_, word) = some (n.setP i word) by have := ap_p 0 n hi word; unfold pA at this; rw [he, show (72 + 16 * (i : Int)) = 0 + 72 + 16 * (i : Int) by omega]; exact this)
                    have f := hfree (13 + i)
                    have c := ndAt_ptr h hi
                    have b8 : (at_ % 8 != 0) = false := by simpa using h9
                    have hs : IntKind.u64.wrap (at_ - 64) = at_ - 64 := by rw [IntKind.wrap_u64]; omega
                    have hq : (at_ - 64).tdiv 16 = (i : Int) := by rw [Int.tdiv_eq_ediv_of_nonneg (by omega)]; omega
                    have hq2 : (at_ - 64) / 16 = (i : Int) := by omega
                    have hi8 : (i : Int) < 8 := by omega
                    have b16 : (at_ % 16 == 0) = false := by simpa using h10
                    clear h hfree hcells hm hm16 he h9 h10
                    go_enter Try.func48, Try.ntmps48
                    go_wp2
                    go_ret
                    rw [HE.out]
                    exact ⟨rfl, 13 + i, _, rfl, set_row HR.out (setP_cl n hi word)⟩
end Go.Proofs.Yteojhhfcfdkmdaa
