/- fast's Delete, Swap, Cut, Link, Repair: of any node; conditions: numbers of the width. -/
import Derived.Test.YtbadlmicbbjkaaaN9Ins
namespace Go.Proofs.Ytbadlmicbbjkaaa
open Go.RowKit
set_option linter.unusedVariables false
def delP (base : Int) (n : Nd) (key : Int) : List (Int × Int) × Int :=
  if refE base n [] ≠ 0 then ([], refE base n []) else match n.find key with | none => ([], 5) | some p => (wholeL base n ((pA base p, n.ahd p) :: dnL base n p (n.len - 1 - p)), 0)
def swapP (base : Int) (n : Nd) (key ptr : Int) : List (Int × Int) × Int :=
  if refE base n [ptr] ≠ 0 then ([], refE base n [ptr]) else match n.find key with | none => ([], 5) | some p => (wholeL base n [(pA base p, ptr)], 0)
def cutP (base : Int) (n : Nd) (high : Int) : List (Int × Int) × Int :=
  if refE base n [] ≠ 0 then ([], refE base n []) else if (n.act high true).length = n.len then ([], 5) else (wholeL base n [(pA base (n.act high true).length, 0)], 0)
def linkP (base : Int) (n : Nd) (next : Int) : List (Int × Int) × Int :=
  if refE base n [] ≠ 0 then ([], refE base n []) else (wholeL base n [(base + 16, next)], 0)
def repP (base : Int) (n : Nd) : List (Int × Int) × Int :=
  if (bOk base && n.may 0 false) = true then (if n.inv < 0 then ([], 7) else (wholeL base n (dnL base n n.inv.toNat (n.len - 1 - n.inv.toNat)), 0)) else ([], 2)
theorem ads_nil (w : World) : AdsAt w (.slice none 0 0) [] := ⟨none, 0, rfl, fun h => by simp at h⟩
theorem find_lt {n : Nd} {key : Int} {p : Nat} (h : n.find key = some p) : p < n.len := (n.vp_lt (List.mem_of_find?_eq_some h)).1
theorem inv_lt {n : Nd} (h : ¬ n.inv < 0) : ∃ p : Nat, n.inv = (p : Int) ∧ p < n.len := by
  unfold Nd.inv at h ⊢
  split at h
  · rename_i i hi
    exact ⟨i, rfl, List.mem_range.1 (List.mem_of_find?_eq_some hi)⟩
  · omega
set_option maxRecDepth 100000 in
set_option maxHeartbeats 8000000 in
theorem del_any {base : Int} (hb : 0 ≤ base) (n : Nd) (key : Int) (w : World) : Calls Try.prog 25 #[.int .u64 base, n.V, .int .u64 key] w (PutsOut w (delP base n key)) := by
  have r0 := Row.new w 27 n.cl.toArray
  obtain ⟨Wa, hWa⟩ : ∃ Wa, Wa = w.alloc (.cells n.cl.toArray 27) := ⟨_, rfl⟩
  rw [← hWa] at r0
  have hb0 : Below w.heap.size w Wa := by rw [hWa]; exact alloc_low _ _
  have HB0 := Lib.hid hb0
  have HRR := Lib.hid (fun W' (hb : Below Wa.heap.size Wa W') => (show NdAt W' w.heap.size n from r0.below hb r0.lt))
  have HWa := Lib.hid hWa
  have HWs := Lib.hid (show w.heap.size ≤ Wa.heap.size from hb0.size)
  have hl8 := n.len_le
  have hr0 := Below.refl Wa.heap.size Wa
  have HRef := Lib.hid (refusal_any hb n (ads_nil Wa) (by simp))
  have hP : delP base n key = (if refE base n [] ≠ 0 then ([], refE base n []) else match n.find key with | none => ([], 5) | some p => (wholeL base n ((pA base p, n.ahd p) :: dnL base n p (n.len - 1 - p)), 0)) := rfl
  have hbb := fun h => refE_base (b := base) (n := n) (l := []) h
  have HFd := Lib.hid (fun W' => nFind_any n key W')
  have hfl := fun p h => find_lt (n := n) (key := key) (p := p) h
  obtain ⟨f, hf⟩ : ∃ f, f = n.find key := ⟨_, rfl⟩
  rw [← hf] at HFd hP hfl
  clear hf
  generalize hR : delP base n key = R at hP ⊢
  generalize refE base n [] = E at HRef hP hbb
  clear r0 hWa hb0 hR
  obtain hE | hE : E ≠ 0 ∨ E = 0 := by omega
  · have HR := Lib.hid (show R = ([], E) by rw [hP, if_pos hE])
    have hEb : (E != 0) = true := by simpa using hE
    clear hP hbb
    go_enter Try.func25, Try.ntmps25
    go_wp2_with (first
      | (rw [← HWa.out]; (refine wpList_load_mid rfl _ _ rfl w.heap.size 0 rfl n.cl _ (ndR (HRR.out _ (by assumption))) Try.underlying27 rfl ndI ?_))
      | (refine wpList_load_mid rfl _ _ rfl w.heap.size 0 rfl n.cl _ (ndR (HRR.out _ (by assumption))) Try.underlying27 rfl ndI ?_)
      | (go_at_call 51; refine HRef.out.mono ?_; rintro e w1 ⟨rfl, h1⟩; have h1 := low_and hr0 h1))
    go_ret2
    rw [HR.out]
    exact ⟨⟨_, rfl, World.ownsRow_nil _ _ _ _⟩, low_and HB0.out h1⟩
  · subst hE
    rw [if_neg (by simp)] at hP
    have hbse := hbb rfl
    have HBg := Lib.hid (fun W' => begin_any hbse n W')
    clear hbb
    cases f with
    | none =>
      have HFd2 := Lib.hid (fun W' => (HFd.out W').mono fun e w' h => (show e = .returned (.tuple #[.int .i64 0, .bool false]) ∧ Below W'.heap.size W' w' from h))
      have HR := Lib.hid (show R = ([], 5) from hP)
      clear HFd hP hfl
      go_enter Try.func25, Try.ntmps25
      go_wp2_with (first
      | (rw [← HWa.out]; (refine wpList_load_mid rfl _ _ rfl w.heap.size 0 rfl n.cl _ (ndR (HRR.out _ (by assumption))) Try.underlying27 rfl ndI ?_))
      | (refine wpList_load_mid rfl _ _ rfl w.heap.size 0 rfl n.cl _ (ndR (HRR.out _ (by assumption))) Try.underlying27 rfl ndI ?_)
      | (go_at_call 51; refine HRef.out.mono ?_; rintro e w1 ⟨rfl, h1⟩; have h1 := low_and hr0 h1)
      | (go_at_call 52; refine (HFd2.out _).mono ?_; rintro e w2 ⟨rfl, h2⟩; have h2 := low_and h1 h2))
      go_ret2
      rw [HR.out]
      exact ⟨⟨_, rfl, World.ownsRow_nil _ _ _ _⟩, low_and HB0.out h2⟩
    | some p =>
      have HFd2 := Lib.hid (fun W' => (HFd.out W').mono fun e w' h => (show e = .returned (.tuple #[.int .i64 (p : Int), .bool true]) ∧ Below W'.heap.size W' w' from h))
      have hpl := hfl p rfl
      have HR := Lib.hid (show R = (wholeL base n ((pA base p, n.ahd p) :: dnL base n p (n.len - 1 - p)), 0) from hP)
      have HA := Lib.hid (fun W' => fahead_any n (p := p) (by omega) W')
      have HT := Lib.hid (fun W b (h : ChAt W w.heap.size b base n ([(base + 24, IntKind.u64.wrap (n.ct + 1))] ++ [(pA base p, n.ahd p)])) => takeOut_any h (by simp) hbse hpl)
      have hdl := dnL_len base n (n.len - 1 - p) p
      generalize hD : dnL base n p (n.len - 1 - p) = D at HR HT hdl
      generalize hy : n.ahd p = y at HA HR HT
      have HPt := Lib.hid (fun W b (h : ChAt W w.heap.size b base n [(base + 24, IntKind.u64.wrap (n.ct + 1))]) => cptr_any h (by simp) hbse (p := p) (by omega) y)
      have HEnd := Lib.hid (fun W b (h : ChAt W w.heap.size b base n ([(base + 24, IntKind.u64.wrap (n.ct + 1))] ++ [(pA base p, y)] ++ D)) => cend_any h (by simp only [List.length_append, List.length_singleton]; omega) hbse)
      have HIL := Lib.hid (show wholeL base n ((pA base p, y) :: D) = [(base + 24, IntKind.u64.wrap (n.ct + 1))] ++ [(pA base p, y)] ++ D ++ [(base + 24, IntKind.u64.wrap (n.ct + 2))] by simp [wholeL])
      clear HFd hP hfl hD hy hdl
      go_enter Try.func25, Try.ntmps25
      go_wp2_with (first
      | (rw [← HWa.out]; (refine wpList_load_mid rfl _ _ rfl w.heap.size 0 rfl n.cl _ (ndR (HRR.out _ (by assumption))) Try.underlying27 rfl ndI ?_))
      | (refine wpList_load_mid rfl _ _ rfl w.heap.size 0 rfl n.cl _ (ndR (HRR.out _ (by assumption))) Try.underlying27 rfl ndI ?_)
      | (go_at_call 51; refine HRef.out.mono ?_; rintro e w1 ⟨rfl, h1⟩; have h1 := low_and hr0 h1)
      | (go_at_call 52; refine (HFd2.out _).mono ?_; rintro e w2 ⟨rfl, h2⟩; have h2 := low_and h1 h2)
      | (go_at_call 45; refine (HBg.out _).mono ?_; rintro e w5 ⟨b, rfl, hch, hb5⟩; have hbg := low_and h2 hb5; have HC := Lib.hid (ChAt.mono (B' := w.heap.size) hch (Nat.le_trans HWs.out (Below.size (by assumption : Below Wa.heap.size Wa _)))); clear hch)
      | (go_at_call 58; refine (HA.out _).mono ?_; rintro e w6 ⟨rfl, hb6⟩; have HC6 := Lib.hid (HC.out.low hb6); have HBA := Lib.hid (Below.mono hb6 (Nat.le_trans HWs.out hbg.size)); have hbg6 := low_and hbg hb6)
      | (go_at_call 57; refine (HPt.out _ _ HC6.out).mono ?_; rintro e w7 ⟨rfl, h7, hb7⟩)
      | (go_at_call 46; refine (HT.out _ _ h7).mono ?_; rintro e w8 ⟨rfl, h8, hb8⟩)
      | (go_at_call 47; refine (HEnd.out _ _ h8).mono ?_; rintro e w9 ⟨⟨v, rfl, ho⟩, hb9⟩))
      go_ret2
      rw [HR.out]
      refine ⟨⟨_, rfl, ?_⟩, (low_and HB0.out hbg).trans (HBA.out.trans (hb7.trans (hb8.trans hb9)))⟩
      rw [HIL.out, List.length_append (bs := [(base + 24, IntKind.u64.wrap (n.ct + 2))])]
      exact ho
set_option maxRecDepth 100000 in
set_option maxHeartbeats 8000000 in
theorem swap_any {base : Int} (hb : 0 ≤ base) (n : Nd) (key ptr : Int) (w : World) : Calls Try.prog 26 #[.int .u64 base, n.V, .int .u64 key, .int .u64 ptr] w (PutsOut w (swapP base n key ptr)) := by
  have r0 := Row.new w 27 n.cl.toArray
  obtain ⟨Wa, hWa⟩ : ∃ Wa, Wa = w.alloc (.cells n.cl.toArray 27) := ⟨_, rfl⟩
  rw [← hWa] at r0
  have hb0 : Below w.heap.size w Wa := by rw [hWa]; exact alloc_low _ _
  have HB0 := Lib.hid hb0
  have HRR := Lib.hid (fun W' (hb : Below Wa.heap.size Wa W') => (show NdAt W' w.heap.size n from r0.below hb r0.lt))
  have HWa := Lib.hid hWa
  have HWs := Lib.hid (show w.heap.size ≤ Wa.heap.size from hb0.size)
  have hl8 := n.len_le
  have hr0 := Below.refl Wa.heap.size Wa
  have HAl := Lib.hid (alloc_low Wa (.cells #[.int .u64 ptr] 23))
  have HRef := Lib.hid (refusal_any hb n (ads_single Wa ptr) (by simp))
  have hP : swapP base n key ptr = (if refE base n [ptr] ≠ 0 then ([], refE base n [ptr]) else match n.find key with | none => ([], 5) | some p => (wholeL base n [(pA base p, ptr)], 0)) := rfl
  have hbb := fun h => refE_base (b := base) (n := n) (l := [ptr]) h
  have HFd := Lib.hid (fun W' => nFind_any n key W')
  have hfl := fun p h => find_lt (n := n) (key := key) (p := p) h
  obtain ⟨f, hf⟩ : ∃ f, f = n.find key := ⟨_, rfl⟩
  rw [← hf] at HFd hP hfl
  clear hf
  generalize hR : swapP base n key ptr = R at hP ⊢
  generalize refE base n [ptr] = E at HRef hP hbb
  clear r0 hWa hb0 hR
  obtain hE | hE : E ≠ 0 ∨ E = 0 := by omega
  · have HR := Lib.hid (show R = ([], E) by rw [hP, if_pos hE])
    have hEb : (E != 0) = true := by simpa using hE
    clear hP hbb
    go_enter Try.func26, Try.ntmps26
    go_wp2_with (first
      | (rw [← HWa.out]; (refine wpList_load_mid rfl _ _ rfl w.heap.size 0 rfl n.cl _ (ndR (HRR.out _ (by assumption))) Try.underlying27 rfl ndI ?_))
      | (refine wpList_load_mid rfl _ _ rfl w.heap.size 0 rfl n.cl _ (ndR (HRR.out _ (by assumption))) Try.underlying27 rfl ndI ?_)
      | (go_at_call 51; refine HRef.out.mono ?_; rintro e w1 ⟨rfl, h1⟩; have h1 := low_and HAl.out h1))
    go_ret2
    rw [HR.out]
    exact ⟨⟨_, rfl, World.ownsRow_nil _ _ _ _⟩, low_and HB0.out h1⟩
  · subst hE
    rw [if_neg (by simp)] at hP
    have hbse := hbb rfl
    have HBg := Lib.hid (fun W' => begin_any hbse n W')
    clear hbb
    cases f with
    | none =>
      have HFd2 := Lib.hid (fun W' => (HFd.out W').mono fun e w' h => (show e = .returned (.tuple #[.int .i64 0, .bool false]) ∧ Below W'.heap.size W' w' from h))
      have HR := Lib.hid (show R = ([], 5) from hP)
      clear HFd hP hfl
      go_enter Try.func26, Try.ntmps26
      go_wp2_with (first
      | (rw [← HWa.out]; (refine wpList_load_mid rfl _ _ rfl w.heap.size 0 rfl n.cl _ (ndR (HRR.out _ (by assumption))) Try.underlying27 rfl ndI ?_))
      | (refine wpList_load_mid rfl _ _ rfl w.heap.size 0 rfl n.cl _ (ndR (HRR.out _ (by assumption))) Try.underlying27 rfl ndI ?_)
      | (go_at_call 51; refine HRef.out.mono ?_; rintro e w1 ⟨rfl, h1⟩; have h1 := low_and HAl.out h1)
      | (go_at_call 52; refine (HFd2.out _).mono ?_; rintro e w2 ⟨rfl, h2⟩; have h2 := low_and h1 h2))
      go_ret2
      rw [HR.out]
      exact ⟨⟨_, rfl, World.ownsRow_nil _ _ _ _⟩, low_and HB0.out h2⟩
    | some p =>
      have HFd2 := Lib.hid (fun W' => (HFd.out W').mono fun e w' h => (show e = .returned (.tuple #[.int .i64 (p : Int), .bool true]) ∧ Below W'.heap.size W' w' from h))
      have hpl := hfl p rfl
      have HR := Lib.hid (show R = (wholeL base n [(pA base p, ptr)], 0) from hP)
      have HPt := Lib.hid (fun W b (h : ChAt W w.heap.size b base n [(base + 24, IntKind.u64.wrap (n.ct + 1))]) => cptr_any h (by simp) hbse (p := p) (by omega) ptr)
      have HEnd := Lib.hid (fun W b (h : ChAt W w.heap.size b base n ([(base + 24, IntKind.u64.wrap (n.ct + 1))] ++ [(pA base p, ptr)])) => cend_any h (by simp) hbse)
      have HIL := Lib.hid (show wholeL base n [(pA base p, ptr)] = [(base + 24, IntKind.u64.wrap (n.ct + 1))] ++ [(pA base p, ptr)] ++ [(base + 24, IntKind.u64.wrap (n.ct + 2))] by simp [wholeL])
      clear HFd hP hfl
      go_enter Try.func26, Try.ntmps26
      go_wp2_with (first
      | (rw [← HWa.out]; (refine wpList_load_mid rfl _ _ rfl w.heap.size 0 rfl n.cl _ (ndR (HRR.out _ (by assumption))) Try.underlying27 rfl ndI ?_))
      | (refine wpList_load_mid rfl _ _ rfl w.heap.size 0 rfl n.cl _ (ndR (HRR.out _ (by assumption))) Try.underlying27 rfl ndI ?_)
      | (go_at_call 51; refine HRef.out.mono ?_; rintro e w1 ⟨rfl, h1⟩; have h1 := low_and HAl.out h1)
      | (go_at_call 52; refine (HFd2.out _).mono ?_; rintro e w2 ⟨rfl, h2⟩; have h2 := low_and h1 h2)
      | (go_at_call 45; refine (HBg.out _).mono ?_; rintro e w5 ⟨b, rfl, hch, hb5⟩; have hbg := low_and h2 hb5; have HC := Lib.hid (ChAt.mono (B' := w.heap.size) hch (Nat.le_trans HWs.out (Below.size (by assumption : Below Wa.heap.size Wa _)))); clear hch)
      | (go_at_call 57; refine (HPt.out _ _ HC.out).mono ?_; rintro e w7 ⟨rfl, h7, hb7⟩)
      | (go_at_call 47; refine (HEnd.out _ _ h7).mono ?_; rintro e w9 ⟨⟨v, rfl, ho⟩, hb9⟩))
      go_ret2
      rw [HR.out]
      refine ⟨⟨_, rfl, ?_⟩, (low_and HB0.out hbg).trans (hb7.trans hb9)⟩
      rw [HIL.out, List.length_append (bs := [(base + 24, IntKind.u64.wrap (n.ct + 2))])]
      exact ho
theorem own_shape {w : World} {B s n : Nat} {e : TypeId} {v : Value} {xs : List Value} (h : w.ownsRow B e s v n xs) : ∃ A cap, v = .slice A n cap := by
  rcases h.2 with ⟨rfl, h0⟩ | ⟨g, cap, cur, rfl, _⟩
  · exact ⟨none, 0, by rw [h0]⟩
  · exact ⟨_, cap, rfl⟩
set_option maxRecDepth 100000 in
set_option maxHeartbeats 8000000 in
theorem cut_any {base : Int} (hb : 0 ≤ base) (n : Nd) (high : Int) (w : World) : Calls Try.prog 27 #[.int .u64 base, n.V, .int .u64 high] w (PutsOut w (cutP base n high)) := by
  have r0 := Row.new w 27 n.cl.toArray
  obtain ⟨Wa, hWa⟩ : ∃ Wa, Wa = w.alloc (.cells n.cl.toArray 27) := ⟨_, rfl⟩
  rw [← hWa] at r0
  have hb0 : Below w.heap.size w Wa := by rw [hWa]; exact alloc_low _ _
  have HB0 := Lib.hid hb0
  have HRR := Lib.hid (fun W' (hb : Below Wa.heap.size Wa W') => (show NdAt W' w.heap.size n from r0.below hb r0.lt))
  have HWa := Lib.hid hWa
  have HWs := Lib.hid (show w.heap.size ≤ Wa.heap.size from hb0.size)
  have hl8 := n.len_le
  have hr0 := Below.refl Wa.heap.size Wa
  have HRef := Lib.hid (refusal_any hb n (ads_nil Wa) (by simp))
  have hP : cutP base n high = (if refE base n [] ≠ 0 then ([], refE base n []) else if (n.act high true).length = n.len then ([], 5) else (wholeL base n [(pA base (n.act high true).length, 0)], 0)) := rfl
  have hbb := fun h => refE_base (b := base) (n := n) (l := []) h
  have HAc := Lib.hid (fun W' => nActive_any n high true W')
  have HLn := Lib.hid (fun W' => len_any n W')
  have hal := n.act_len high true
  generalize flatE (n.act high true) = fl at HAc
  obtain ⟨m, hm⟩ : ∃ m, m = (n.act high true).length := ⟨_, rfl⟩
  rw [← hm] at HAc hP hal
  have HMl := Lib.hid hm
  clear hm
  generalize hR : cutP base n high = R at hP ⊢
  generalize refE base n [] = E at HRef hP hbb
  clear r0 hWa hb0 hR
  obtain hE | hE : E ≠ 0 ∨ E = 0 := by omega
  · have HR := Lib.hid (show R = ([], E) by rw [hP, if_pos hE])
    have hEb : (E != 0) = true := by simpa using hE
    clear hP hbb
    go_enter Try.func27, Try.ntmps27
    go_wp2_with (first
      | (rw [← HWa.out]; (refine wpList_load_mid rfl _ _ rfl w.heap.size 0 rfl n.cl _ (ndR (HRR.out _ (by assumption))) Try.underlying27 rfl ndI ?_))
      | (refine wpList_load_mid rfl _ _ rfl w.heap.size 0 rfl n.cl _ (ndR (HRR.out _ (by assumption))) Try.underlying27 rfl ndI ?_)
      | (go_at_call 51; refine HRef.out.mono ?_; rintro e w1 ⟨rfl, h1⟩; have h1 := low_and hr0 h1))
    go_ret2
    rw [HR.out]
    exact ⟨⟨_, rfl, World.ownsRow_nil _ _ _ _⟩, low_and HB0.out h1⟩
  · subst hE
    rw [if_neg (by simp)] at hP
    have hbse := hbb rfl
    have HBg := Lib.hid (fun W' => begin_any hbse n W')
    clear hbb
    obtain hm | hm : m = n.len ∨ m ≠ n.len := by omega
    · have HR := Lib.hid (show R = ([], 5) by rw [hP, if_pos hm])
      clear hP
      rw [hm] at HAc
      have hmm : ((n.len : Int) == (n.len : Int)) = true := by simp
      go_enter Try.func27, Try.ntmps27
      go_wp2_with (first
      | (rw [← HWa.out]; (refine wpList_load_mid rfl _ _ rfl w.heap.size 0 rfl n.cl _ (ndR (HRR.out _ (by assumption))) Try.underlying27 rfl ndI ?_))
      | (refine wpList_load_mid rfl _ _ rfl w.heap.size 0 rfl n.cl _ (ndR (HRR.out _ (by assumption))) Try.underlying27 rfl ndI ?_)
      | (go_at_call 51; refine HRef.out.mono ?_; rintro e w1 ⟨rfl, h1⟩; have h1 := low_and hr0 h1)
      | (go_at_call 50; refine (HAc.out _).mono ?_; rintro e w2 ⟨⟨v0, rfl, ho0⟩, h2⟩; obtain ⟨A0, cap0, rfl⟩ := own_shape ho0; clear ho0; have h2 := low_and h1 h2)
      | (go_at_call 49; refine (HLn.out _).mono ?_; rintro e w3 ⟨rfl, h3⟩; have h3 := low_and h2 h3))
      go_ret2
      rw [HR.out]
      exact ⟨⟨_, rfl, World.ownsRow_nil _ _ _ _⟩, low_and HB0.out h3⟩
    · have hmb : ((m : Int) == (n.len : Int)) = false := by simp; omega
      have HR := Lib.hid (show R = (wholeL base n [(pA base m, 0)], 0) by rw [hP, if_neg hm])
      have hm8 : m < 8 := by have := actL_len n high true n.vp; have h2 := n.vpTo_len n.len; have h3 := HMl.out; unfold Nd.act at h3; unfold Nd.vp at this; unfold Nd.vp at h3; omega
      have HPt := Lib.hid (fun W b (h : ChAt W w.heap.size b base n [(base + 24, IntKind.u64.wrap (n.ct + 1))]) => cptr_any h (by simp) hbse (p := m) hm8 0)
      have HEnd := Lib.hid (fun W b (h : ChAt W w.heap.size b base n ([(base + 24, IntKind.u64.wrap (n.ct + 1))] ++ [(pA base m, 0)])) => cend_any h (by simp) hbse)
      have HIL := Lib.hid (show wholeL base n [(pA base m, 0)] = [(base + 24, IntKind.u64.wrap (n.ct + 1))] ++ [(pA base m, 0)] ++ [(base + 24, IntKind.u64.wrap (n.ct + 2))] by simp [wholeL])
      clear hP
      go_enter Try.func27, Try.ntmps27
      go_wp2_with (first
      | (rw [← HWa.out]; (refine wpList_load_mid rfl _ _ rfl w.heap.size 0 rfl n.cl _ (ndR (HRR.out _ (by assumption))) Try.underlying27 rfl ndI ?_))
      | (refine wpList_load_mid rfl _ _ rfl w.heap.size 0 rfl n.cl _ (ndR (HRR.out _ (by assumption))) Try.underlying27 rfl ndI ?_)
      | (go_at_call 51; refine HRef.out.mono ?_; rintro e w1 ⟨rfl, h1⟩; have h1 := low_and hr0 h1)
      | (go_at_call 50; refine (HAc.out _).mono ?_; rintro e w2 ⟨⟨v0, rfl, ho0⟩, h2⟩; obtain ⟨A0, cap0, rfl⟩ := own_shape ho0; clear ho0; have h2 := low_and h1 h2)
      | (go_at_call 49; refine (HLn.out _).mono ?_; rintro e w3 ⟨rfl, h3⟩; have h3 := low_and h2 h3)
      | (go_at_call 45; refine (HBg.out _).mono ?_; rintro e w5 ⟨b, rfl, hch, hb5⟩; have hbg := low_and h3 hb5; have HC := Lib.hid (ChAt.mono (B' := w.heap.size) hch (Nat.le_trans HWs.out (Below.size (by assumption : Below Wa.heap.size Wa _)))); clear hch)
      | (go_at_call 57; refine (HPt.out _ _ HC.out).mono ?_; rintro e w7 ⟨rfl, h7, hb7⟩)
      | (go_at_call 47; refine (HEnd.out _ _ h7).mono ?_; rintro e w9 ⟨⟨v, rfl, ho⟩, hb9⟩))
      go_ret2
      rw [HR.out]
      refine ⟨⟨_, rfl, ?_⟩, (low_and HB0.out hbg).trans (hb7.trans hb9)⟩
      rw [HIL.out, List.length_append (bs := [(base + 24, IntKind.u64.wrap (n.ct + 2))])]
      exact ho
set_option maxRecDepth 100000 in
set_option maxHeartbeats 8000000 in
theorem link_any {base : Int} (hb : 0 ≤ base) (n : Nd) (next : Int) (w : World) : Calls Try.prog 28 #[.int .u64 base, n.V, .int .u64 next] w (PutsOut w (linkP base n next)) := by
  have r0 := Row.new w 27 n.cl.toArray
  obtain ⟨Wa, hWa⟩ : ∃ Wa, Wa = w.alloc (.cells n.cl.toArray 27) := ⟨_, rfl⟩
  rw [← hWa] at r0
  have hb0 : Below w.heap.size w Wa := by rw [hWa]; exact alloc_low _ _
  have HB0 := Lib.hid hb0
  have HRR := Lib.hid (fun W' (hb : Below Wa.heap.size Wa W') => (show NdAt W' w.heap.size n from r0.below hb r0.lt))
  have HWa := Lib.hid hWa
  have HWs := Lib.hid (show w.heap.size ≤ Wa.heap.size from hb0.size)
  have hl8 := n.len_le
  have hr0 := Below.refl Wa.heap.size Wa
  have HRef := Lib.hid (refusal_any hb n (ads_nil Wa) (by simp))
  have hP : linkP base n next = (if refE base n [] ≠ 0 then ([], refE base n []) else (wholeL base n [(base + 16, next)], 0)) := rfl
  have hbb := fun h => refE_base (b := base) (n := n) (l := []) h
  generalize hR : linkP base n next = R at hP ⊢
  generalize refE base n [] = E at HRef hP hbb
  clear r0 hWa hb0 hR
  obtain hE | hE : E ≠ 0 ∨ E = 0 := by omega
  · have HR := Lib.hid (show R = ([], E) by rw [hP, if_pos hE])
    have hEb : (E != 0) = true := by simpa using hE
    clear hP hbb
    go_enter Try.func28, Try.ntmps28
    go_wp2_with (first
      | (rw [← HWa.out]; (refine wpList_load_mid rfl _ _ rfl w.heap.size 0 rfl n.cl _ (ndR (HRR.out _ (by assumption))) Try.underlying27 rfl ndI ?_))
      | (refine wpList_load_mid rfl _ _ rfl w.heap.size 0 rfl n.cl _ (ndR (HRR.out _ (by assumption))) Try.underlying27 rfl ndI ?_)
      | (go_at_call 51; refine HRef.out.mono ?_; rintro e w1 ⟨rfl, h1⟩; have h1 := low_and hr0 h1))
    go_ret2
    rw [HR.out]
    exact ⟨⟨_, rfl, World.ownsRow_nil _ _ _ _⟩, low_and HB0.out h1⟩
  · subst hE
    rw [if_neg (by simp)] at hP
    have hbse := hbb rfl
    have HBg := Lib.hid (fun W' => begin_any hbse n W')
    clear hbb
    have HR := Lib.hid hP
    have HSt := Lib.hid (fun W b (h : ChAt W w.heap.size b base n [(base + 24, IntKind.u64.wrap (n.ct + 1))]) => cstore_any h (by simp) hbse (at_ := 16) (by omega) next)
    have HEnd := Lib.hid (fun W b (h : ChAt W w.heap.size b base n ([(base + 24, IntKind.u64.wrap (n.ct + 1))] ++ [(base + 16, next)])) => cend_any h (by simp) hbse)
    have HIL := Lib.hid (show wholeL base n [(base + 16, next)] = [(base + 24, IntKind.u64.wrap (n.ct + 1))] ++ [(base + 16, next)] ++ [(base + 24, IntKind.u64.wrap (n.ct + 2))] by simp [wholeL])
    clear hP
    go_enter Try.func28, Try.ntmps28
    go_wp2_with (first
      | (rw [← HWa.out]; (refine wpList_load_mid rfl _ _ rfl w.heap.size 0 rfl n.cl _ (ndR (HRR.out _ (by assumption))) Try.underlying27 rfl ndI ?_))
      | (refine wpList_load_mid rfl _ _ rfl w.heap.size 0 rfl n.cl _ (ndR (HRR.out _ (by assumption))) Try.underlying27 rfl ndI ?_)
      | (go_at_call 51; refine HRef.out.mono ?_; rintro e w1 ⟨rfl, h1⟩; have h1 := low_and hr0 h1)
      | (go_at_call 45; refine (HBg.out _).mono ?_; rintro e w5 ⟨b, rfl, hch, hb5⟩; have hbg := low_and h1 hb5; have HC := Lib.hid (ChAt.mono (B' := w.heap.size) hch (Nat.le_trans HWs.out (Below.size (by assumption : Below Wa.heap.size Wa _)))); clear hch)
      | (go_at_call 59; refine (HSt.out _ _ HC.out).mono ?_; rintro e w7 ⟨rfl, h7, hb7⟩)
      | (go_at_call 47; refine (HEnd.out _ _ h7).mono ?_; rintro e w9 ⟨⟨v, rfl, ho⟩, hb9⟩))
    go_ret2
    rw [HR.out]
    refine ⟨⟨_, rfl, ?_⟩, (low_and HB0.out hbg).trans (hb7.trans hb9)⟩
    rw [HIL.out, List.length_append (bs := [(base + 24, IntKind.u64.wrap (n.ct + 2))])]
    exact ho
set_option maxRecDepth 100000 in
set_option maxHeartbeats 8000000 in
theorem rep_any {base : Int} (hb : 0 ≤ base) (n : Nd) (w : World) : Calls Try.prog 21 #[.int .u64 base, n.V] w (PutsOut w (repP base n)) := by
  have r0 := Row.new w 27 n.cl.toArray
  obtain ⟨Wa, hWa⟩ : ∃ Wa, Wa = w.alloc (.cells n.cl.toArray 27) := ⟨_, rfl⟩
  rw [← hWa] at r0
  have hb0 : Below w.heap.size w Wa := by rw [hWa]; exact alloc_low _ _
  have HB0 := Lib.hid hb0
  have HRR := Lib.hid (fun W' (hb : Below Wa.heap.size Wa W') => (show NdAt W' w.heap.size n from r0.below hb r0.lt))
  have HWa := Lib.hid hWa
  have HWs := Lib.hid (show w.heap.size ≤ Wa.heap.size from hb0.size)
  have hl8 := n.len_le
  have hr0 := Below.refl Wa.heap.size Wa
  have HM := Lib.hid (fun W' => fmay_any hb n W')
  have HI := Lib.hid (fun W' => nInv_any n W')
  have hP : repP base n = (if (bOk base && n.may 0 false) = true then (if n.inv < 0 then ([], 7) else (wholeL base n (dnL base n n.inv.toNat (n.len - 1 - n.inv.toNat)), 0)) else ([], 2)) := rfl
  have hbo := bOk_iff base
  generalize hR : repP base n = R at hP ⊢
  obtain ⟨c, hc⟩ : ∃ c, c = (bOk base && n.may 0 false) := ⟨_, rfl⟩
  rw [← hc] at HM hP
  clear r0 hWa hb0 hR
  cases c with
  | false =>
    have HR := Lib.hid (show R = ([], 2) by rw [hP]; rfl)
    clear hP hbo hc
    go_enter Try.func21, Try.ntmps21
    go_wp2_with (first
      | (rw [← HWa.out]; (refine wpList_load_mid rfl _ _ rfl w.heap.size 0 rfl n.cl _ (ndR (HRR.out _ (by assumption))) Try.underlying27 rfl ndI ?_))
      | (refine wpList_load_mid rfl _ _ rfl w.heap.size 0 rfl n.cl _ (ndR (HRR.out _ (by assumption))) Try.underlying27 rfl ndI ?_)
      | (go_at_call 44; refine (HM.out _).mono ?_; rintro e w1 ⟨rfl, h1⟩; have h1 := low_and hr0 h1)
      | (go_at_call 22; refine (HI.out _).mono ?_; rintro e w2 ⟨rfl, h2⟩; have h2 := low_and h1 h2))
    go_ret2
    rw [HR.out]
    exact ⟨⟨_, rfl, World.ownsRow_nil _ _ _ _⟩, low_and HB0.out h1⟩
  | true =>
    have hbse : 0 ≤ base ∧ base ≤ 1099511627776 := by
      have h2 : bOk base = true := by cases hq : bOk base <;> simp [hq] at hc ⊢
      have := hbo.1 h2
      omega
    rw [if_pos rfl] at hP
    clear hbo hc
    obtain hi | hi : n.inv < 0 ∨ ¬ n.inv < 0 := by omega
    · have HR := Lib.hid (show R = ([], 7) by rw [hP, if_pos hi])
      clear hP
      go_enter Try.func21, Try.ntmps21
      go_wp2_with (first
      | (rw [← HWa.out]; (refine wpList_load_mid rfl _ _ rfl w.heap.size 0 rfl n.cl _ (ndR (HRR.out _ (by assumption))) Try.underlying27 rfl ndI ?_))
      | (refine wpList_load_mid rfl _ _ rfl w.heap.size 0 rfl n.cl _ (ndR (HRR.out _ (by assumption))) Try.underlying27 rfl ndI ?_)
      | (go_at_call 44; refine (HM.out _).mono ?_; rintro e w1 ⟨rfl, h1⟩; have h1 := low_and hr0 h1)
      | (go_at_call 22; refine (HI.out _).mono ?_; rintro e w2 ⟨rfl, h2⟩; have h2 := low_and h1 h2))
      go_ret2
      rw [HR.out]
      exact ⟨⟨_, rfl, World.ownsRow_nil _ _ _ _⟩, low_and HB0.out h2⟩
    · rw [if_neg hi] at hP
      obtain ⟨p, hp, hpl⟩ := inv_lt hi
      rw [hp, Int.toNat_natCast] at hP
      rw [hp] at HI
      clear hi hp
      have HR := Lib.hid hP
      have HBg := Lib.hid (fun W' => begin_any hbse n W')
      have HT := Lib.hid (fun W b (h : ChAt W w.heap.size b base n [(base + 24, IntKind.u64.wrap (n.ct + 1))]) => takeOut_any h (by simp) hbse hpl)
      have hdl := dnL_len base n (n.len - 1 - p) p
      generalize hD : dnL base n p (n.len - 1 - p) = D at HR HT hdl
      have HEnd := Lib.hid (fun W b (h : ChAt W w.heap.size b base n ([(base + 24, IntKind.u64.wrap (n.ct + 1))] ++ D)) => cend_any h (by simp only [List.length_append, List.length_singleton]; omega) hbse)
      have HIL := Lib.hid (show wholeL base n D = [(base + 24, IntKind.u64.wrap (n.ct + 1))] ++ D ++ [(base + 24, IntKind.u64.wrap (n.ct + 2))] by simp [wholeL])
      clear hP hD hdl
      go_enter Try.func21, Try.ntmps21
      go_wp2_with (first
      | (rw [← HWa.out]; (refine wpList_load_mid rfl _ _ rfl w.heap.size 0 rfl n.cl _ (ndR (HRR.out _ (by assumption))) Try.underlying27 rfl ndI ?_))
      | (refine wpList_load_mid rfl _ _ rfl w.heap.size 0 rfl n.cl _ (ndR (HRR.out _ (by assumption))) Try.underlying27 rfl ndI ?_)
      | (go_at_call 44; refine (HM.out _).mono ?_; rintro e w1 ⟨rfl, h1⟩; have h1 := low_and hr0 h1)
      | (go_at_call 22; refine (HI.out _).mono ?_; rintro e w2 ⟨rfl, h2⟩; have h2 := low_and h1 h2)
      | (go_at_call 45; refine (HBg.out _).mono ?_; rintro e w5 ⟨b, rfl, hch, hb5⟩; have hbg := low_and h2 hb5; have HC := Lib.hid (ChAt.mono (B' := w.heap.size) hch (Nat.le_trans HWs.out (Below.size (by assumption : Below Wa.heap.size Wa _)))); clear hch)
      | (go_at_call 46; refine (HT.out _ _ HC.out).mono ?_; rintro e w8 ⟨rfl, h8, hb8⟩)
      | (go_at_call 47; refine (HEnd.out _ _ h8).mono ?_; rintro e w9 ⟨⟨v, rfl, ho⟩, hb9⟩))
      go_ret2
      rw [HR.out]
      refine ⟨⟨_, rfl, ?_⟩, (low_and HB0.out hbg).trans (hb8.trans hb9)⟩
      rw [HIL.out, List.length_append (bs := [(base + 24, IntKind.u64.wrap (n.ct + 2))])]
      exact ho
end Go.Proofs.Ytbadlmicbbjkaaa
