/- fast's Insert: of any node, any key, any pointer; conditions: numbers of the width. -/
import Derived.Test.YtbadlmicbbjkaaaN9Mv
import Derived.Test.YtbadlmicbbjkaaaN9Rfl
import Derived.Test.YtbadlmicbbjkaaaAnyTwo
namespace Go.Proofs.Ytbadlmicbbjkaaa
open Go.RowKit
set_option linter.unusedVariables false
/-- Stores, and an error, in new memory. -/
def PutsOut (w : World) (r : List (Int × Int) × Int) (e : Ending) (w' : World) : Prop :=
  (∃ v, e = .returned (.tuple #[v, .int .i64 r.2]) ∧ w'.ownsRow w.heap.size 45 2 v r.1.length (flatE r.1)) ∧ Below w.heap.size w w'
/-- A whole change. -/
def wholeL (base : Int) (n : Nd) (l : List (Int × Int)) : List (Int × Int) := [(base + 24, IntKind.u64.wrap (n.ct + 1))] ++ l ++ [(base + 24, IntKind.u64.wrap (n.ct + 2))]
def insL (base : Int) (n : Nd) (key ptr : Int) : List (Int × Int) := wholeL base n (mkRoom base n (n.at key) ++ [(kA base (n.at key), key), (pA base (n.at key), ptr)])
def insP (base : Int) (n : Nd) (key ptr : Int) : List (Int × Int) × Int :=
  if refE base n [ptr] ≠ 0 then ([], refE base n [ptr]) else if ((n.find key).isSome || !n.mayHave key) = true then ([], 2) else if n.len = 8 then ([], 4) else (insL base n key ptr, 0)
theorem refE_base {b : Int} {n : Nd} {l : List Int} (h : refE b n l = 0) : 0 ≤ b ∧ b ≤ 1099511627776 := by
  unfold refE at h
  split at h
  · rename_i hc
    rw [Bool.and_eq_true, Bool.and_eq_true] at hc
    have := (bOk_iff b).1 hc.1.1
    omega
  · omega
theorem at_len (n : Nd) (key : Int) : n.at key ≤ n.len := by
  unfold Nd.at
  have hv : ∀ x ∈ n.vp, x < n.len := fun x hx => (n.vp_lt hx).1
  generalize n.vp = l at hv
  suffices H : ∀ (q l : List Nat), l = q.reverse → (∀ x ∈ l, x < n.len) → atL n key l ≤ n.len from H l.reverse l (by simp) hv
  intro q
  induction q with
  | nil => intro l hl _; subst hl; exact Nat.zero_le _
  | cons a q ih =>
    intro l hl hz
    rw [List.reverse_cons] at hl
    subst hl
    rw [atL_snoc]
    split
    · exact hz a (by simp)
    · exact ih _ rfl (fun z hz' => hz z (List.mem_append_left _ hz'))
theorem ChAt.mono {w : World} {B B' b : Nat} {base : Int} {n : Nd} {l : List (Int × Int)} (h : ChAt w B b base n l) (hb : B' ≤ B) : ChAt w B' b base n l := by
  obtain ⟨hB, v, hr, ho, hn⟩ := h
  exact ⟨by omega, v, hr, ownS_mono ho hb, hn⟩
theorem ads_single (w : World) (a : Int) : AdsAt (w.alloc (.cells #[.int .u64 a] 23)) (.slice (some ⟨w.heap.size, 0, none⟩) 1 1) [a] := by
  have hr := Row.new w 23 #[.int .u64 a]
  refine ⟨_, 1, rfl, fun _ => ⟨w.heap.size, 0, rfl, fun i e he => ?_⟩⟩
  match i, he with
  | 0, he => cases he; exact hr.cell 0
theorem mkRoom_len (base : Int) (n : Nd) (p : Nat) (h7 : n.len ≤ 7) : (mkRoom base n p).length ≤ 20 := by
  unfold mkRoom
  rw [List.length_append, List.length_append, upN_len]
  split <;> simp <;> omega
set_option maxRecDepth 100000 in
set_option maxHeartbeats 8000000 in
theorem ins_any {base : Int} (hb : 0 ≤ base) (n : Nd) (key ptr : Int) (w : World) : Calls Try.prog 24 #[.int .u64 base, n.V, .int .u64 key, .int .u64 ptr] w (PutsOut w (insP base n key ptr)) := by
  have r0 := Row.new w 27 n.cl.toArray
  obtain ⟨Wa, hWa⟩ : ∃ Wa, Wa = w.alloc (.cells n.cl.toArray 27) := ⟨_, rfl⟩
  rw [← hWa] at r0
  have hb0 : Below w.heap.size w Wa := by rw [hWa]; exact alloc_low _ _
  have HB0 := Lib.hid hb0
  have HRR := Lib.hid (fun W' (hb : Below Wa.heap.size Wa W') => (show NdAt W' w.heap.size n from r0.below hb r0.lt))
  have HWa := Lib.hid hWa
  have HWs := Lib.hid (show w.heap.size ≤ Wa.heap.size from hb0.size)
  have HAl := Lib.hid (alloc_low Wa (.cells #[.int .u64 ptr] 23))
  have HRef := Lib.hid (refusal_any hb n (ads_single Wa ptr) (by simp))
  have HFd := Lib.hid (fun W' => nFind_any n key W')
  have HMH := Lib.hid (fun W' => mayHave_any n key W')
  have HLn := Lib.hid (fun W' => len_any n W')
  have HAt := Lib.hid (fun W' => nAt_any n key W')
  have hP : insP base n key ptr = if refE base n [ptr] ≠ 0 then ([], refE base n [ptr]) else if ((n.find key).isSome || !n.mayHave key) = true then ([], 2) else if n.len = 8 then ([], 4) else (insL base n key ptr, 0) := rfl
  have hbb := fun h => refE_base (b := base) (n := n) (l := [ptr]) h
  have hal := at_len n key
  have hl8 := n.len_le
  generalize hR : insP base n key ptr = R at hP ⊢
  clear hR
  have HIL := Lib.hid (show insL base n key ptr = wholeL base n (mkRoom base n (n.at key) ++ [(kA base (n.at key), key), (pA base (n.at key), ptr)]) from rfl)
  have HML := Lib.hid (fun p (h : n.len ≤ 7) => mkRoom_len base n p h)
  generalize insL base n key ptr = IL at hP HIL
  generalize refE base n [ptr] = E at HRef hP hbb
  obtain ⟨a, ha⟩ : ∃ a, a = n.at key := ⟨_, rfl⟩
  rw [← ha] at HAt hal HIL
  obtain ⟨f, hf⟩ : ∃ f, f = n.find key := ⟨_, rfl⟩
  rw [← hf] at HFd hP
  generalize n.mayHave key = mh at HMH hP
  have hr0 := Below.refl Wa.heap.size Wa
  clear r0 hWa hb0 ha hf
  obtain hE | hE : E ≠ 0 ∨ E = 0 := by omega
  · have HR := Lib.hid (show R = ([], E) by rw [hP, if_pos hE])
    have hEb : (E != 0) = true := by simpa using hE
    clear hP hbb
    go_enter Try.func24, Try.ntmps24
    go_wp2_with (first
      | (rw [← HWa.out]; refine wpList_load_mid rfl _ _ rfl w.heap.size 0 rfl n.cl _ (ndR (HRR.out _ (by assumption))) Try.underlying27 rfl ndI ?_)
      | (go_at_call 51; refine HRef.out.mono ?_; rintro e w1 ⟨rfl, h1⟩; have h1 := low_and HAl.out h1))
    go_ret2
    rw [HR.out]
    exact ⟨⟨_, rfl, World.ownsRow_nil _ _ _ _⟩, low_and HB0.out h1⟩
  · subst hE
    rw [if_neg (by simp)] at hP
    obtain ⟨g1, g2⟩ := hbb rfl
    have HP := Lib.hid hP
    clear hP hbb
    have hbse : 0 ≤ base ∧ base ≤ 1099511627776 := ⟨g1, g2⟩
    cases f with
    | some x =>
      have HFd2 := Lib.hid (fun W' => (HFd.out W').mono fun e w' h => (show e = .returned (.tuple #[.int .i64 (x : Int), .bool true]) ∧ Below W'.heap.size W' w' from h))
      have HR := Lib.hid (show R = ([], 2) by rw [HP.out]; rfl)
      clear HFd
      go_enter Try.func24, Try.ntmps24
      go_wp2_with (first
      | (rw [← HWa.out]; (refine wpList_load_mid rfl _ _ rfl w.heap.size 0 rfl n.cl _ (ndR (HRR.out _ (by assumption))) Try.underlying27 rfl ndI ?_))
      | (refine wpList_load_mid rfl _ _ rfl w.heap.size 0 rfl n.cl _ (ndR (HRR.out _ (by assumption))) Try.underlying27 rfl ndI ?_)
      | (refine wpList_load_midg (by rfl) _ _ rfl w.heap.size 0 rfl n.cl _ (ndR (HRR.out _ (by assumption))) Try.underlying27 rfl ndI ?_)
      | (go_at_call 51; refine HRef.out.mono ?_; rintro e w1 ⟨rfl, h1⟩; have h1 := low_and HAl.out h1)
      | (go_at_call 52; refine (HFd2.out _).mono ?_; rintro e w2 ⟨rfl, h2⟩; have h2 := low_and h1 h2)
      | (go_at_call 53; refine (HMH.out _).mono ?_; rintro e w3 ⟨rfl, h3⟩; have h3 := low_and h2 h3)
      | (go_at_call 49; refine (HLn.out _).mono ?_; rintro e w4 ⟨rfl, h4⟩; have h4 := low_and h3 h4))
      go_ret2
      rw [HR.out]
      exact ⟨⟨_, rfl, World.ownsRow_nil _ _ _ _⟩, low_and HB0.out h2⟩
    | none =>
      have HFd2 := Lib.hid (fun W' => (HFd.out W').mono fun e w' h => (show e = .returned (.tuple #[.int .i64 0, .bool false]) ∧ Below W'.heap.size W' w' from h))
      clear HFd
      cases mh with
      | false =>
        have HR := Lib.hid (show R = ([], 2) by rw [HP.out]; rfl)
        go_enter Try.func24, Try.ntmps24
        go_wp2_with (first
      | (rw [← HWa.out]; (refine wpList_load_mid rfl _ _ rfl w.heap.size 0 rfl n.cl _ (ndR (HRR.out _ (by assumption))) Try.underlying27 rfl ndI ?_))
      | (refine wpList_load_mid rfl _ _ rfl w.heap.size 0 rfl n.cl _ (ndR (HRR.out _ (by assumption))) Try.underlying27 rfl ndI ?_)
      | (refine wpList_load_midg (by rfl) _ _ rfl w.heap.size 0 rfl n.cl _ (ndR (HRR.out _ (by assumption))) Try.underlying27 rfl ndI ?_)
      | (go_at_call 51; refine HRef.out.mono ?_; rintro e w1 ⟨rfl, h1⟩; have h1 := low_and HAl.out h1)
      | (go_at_call 52; refine (HFd2.out _).mono ?_; rintro e w2 ⟨rfl, h2⟩; have h2 := low_and h1 h2)
      | (go_at_call 53; refine (HMH.out _).mono ?_; rintro e w3 ⟨rfl, h3⟩; have h3 := low_and h2 h3)
      | (go_at_call 49; refine (HLn.out _).mono ?_; rintro e w4 ⟨rfl, h4⟩; have h4 := low_and h3 h4))
        go_ret2
        rw [HR.out]
        exact ⟨⟨_, rfl, World.ownsRow_nil _ _ _ _⟩, low_and HB0.out h3⟩
      | true =>
        obtain h8 | h8 : n.len = 8 ∨ n.len ≤ 7 := by omega
        · have HR := Lib.hid (show R = ([], 4) by rw [HP.out, h8]; rfl)
          rw [h8] at HLn
          clear HP
          go_enter Try.func24, Try.ntmps24
          go_wp2_with (first
      | (rw [← HWa.out]; (refine wpList_load_mid rfl _ _ rfl w.heap.size 0 rfl n.cl _ (ndR (HRR.out _ (by assumption))) Try.underlying27 rfl ndI ?_))
      | (refine wpList_load_mid rfl _ _ rfl w.heap.size 0 rfl n.cl _ (ndR (HRR.out _ (by assumption))) Try.underlying27 rfl ndI ?_)
      | (refine wpList_load_midg (by rfl) _ _ rfl w.heap.size 0 rfl n.cl _ (ndR (HRR.out _ (by assumption))) Try.underlying27 rfl ndI ?_)
      | (go_at_call 51; refine HRef.out.mono ?_; rintro e w1 ⟨rfl, h1⟩; have h1 := low_and HAl.out h1)
      | (go_at_call 52; refine (HFd2.out _).mono ?_; rintro e w2 ⟨rfl, h2⟩; have h2 := low_and h1 h2)
      | (go_at_call 53; refine (HMH.out _).mono ?_; rintro e w3 ⟨rfl, h3⟩; have h3 := low_and h2 h3)
      | (go_at_call 49; refine (HLn.out _).mono ?_; rintro e w4 ⟨rfl, h4⟩; have h4 := low_and h3 h4))
          go_ret2
          rw [HR.out]
          exact ⟨⟨_, rfl, World.ownsRow_nil _ _ _ _⟩, low_and HB0.out h4⟩
        · have HR := Lib.hid (show R = (IL, 0) by rw [HP.out, if_neg (by simp), if_neg (by omega)])
          have h8b : ((n.len : Int) == 8) = false := by simp; omega
          have HBg := Lib.hid (fun W' => begin_any hbse n W')
          have eg1 := enters_of Try.func45 (by kernel_rfl) rfl
          have eg2 := enters_of Try.func54 (by kernel_rfl) rfl
          have EG1 := Lib.hid eg1
          have EG2 := Lib.hid eg2
          clear HP eg1 eg2
          go_enter Try.func24, Try.ntmps24
          go_wp2_with (first
      | (rw [← HWa.out]; (refine wpList_load_mid rfl _ _ rfl w.heap.size 0 rfl n.cl _ (ndR (HRR.out _ (by assumption))) Try.underlying27 rfl ndI ?_))
      | (refine wpList_load_mid rfl _ _ rfl w.heap.size 0 rfl n.cl _ (ndR (HRR.out _ (by assumption))) Try.underlying27 rfl ndI ?_)
      | (refine wpList_load_midg (by rfl) _ _ rfl w.heap.size 0 rfl n.cl _ (ndR (HRR.out _ (by assumption))) Try.underlying27 rfl ndI ?_)
      | (go_at_call 51; refine HRef.out.mono ?_; rintro e w1 ⟨rfl, h1⟩; have h1 := low_and HAl.out h1)
      | (go_at_call 52; refine (HFd2.out _).mono ?_; rintro e w2 ⟨rfl, h2⟩; have h2 := low_and h1 h2)
      | (go_at_call 53; refine (HMH.out _).mono ?_; rintro e w3 ⟨rfl, h3⟩; have h3 := low_and h2 h3)
      | (go_at_call 49; refine (HLn.out _).mono ?_; rintro e w4 ⟨rfl, h4⟩; have h4 := low_and h3 h4))
          refine wp_region_held_drew (S := fun W' => Below Wa.heap.size Wa W') (by kernel_rfl) (low_and h4 (drew_low9 _)) (fun hHeld => ?_)
          refine wpAnyH_take (i := 0) (oi := ⟨some 39, _, _, _, _, _⟩) (v := .int .u64 base) rfl (by kernel_rfl) (by kernel_rfl) (by kernel_rfl) (fun _ _ _ h => h) (Or.inl ⟨by rfl, by intro w hSw; go_simp⟩) (by assumption) ?_
          simp only [Act.put, List.setIfInBounds_toArray, List.set_cons_zero, List.set_cons_succ]
          refine wpAnyH_take (i := 1) (oi := ⟨some 40, _, _, _, _, _⟩) (v := .agg n.cl.toArray) rfl (by kernel_rfl) (by kernel_rfl) (by kernel_rfl) (fun _ _ _ h => h) (yieldsIf_load_mid (by rfl) _ _ rfl w.heap.size 0 rfl n.cl _ (fun w' hw' => ndR (HRR.out _ hw')) Try.underlying27 rfl ndI) (by assumption) ?_
          simp only [Act.put, List.setIfInBounds_toArray, List.set_cons_zero, List.set_cons_succ]
          refine wpAnyH_take (i := 3) (oi := ⟨some 42, _, _, _, _, _⟩) (v := .agg n.cl.toArray) rfl (by kernel_rfl) (by kernel_rfl) (by kernel_rfl) (fun _ _ _ h => h) (yieldsIf_load_mid (by rfl) _ _ rfl w.heap.size 0 rfl n.cl _ (fun w' hw' => ndR (HRR.out _ hw')) Try.underlying27 rfl ndI) (by assumption) ?_
          simp only [Act.put, List.setIfInBounds_toArray, List.set_cons_zero, List.set_cons_succ]
          refine wpAnyH_take (i := 4) (oi := ⟨some 43, _, _, _, _, _⟩) (v := .int .u64 key) rfl (by kernel_rfl) (by kernel_rfl) (by kernel_rfl) (fun _ _ _ h => h) (Or.inl ⟨by rfl, by intro w hSw; go_simp⟩) (by assumption) ?_
          simp only [Act.put, List.setIfInBounds_toArray, List.set_cons_zero, List.set_cons_succ]
          refine wpAnyH_one (i := 2) (oi := ⟨some 41, _, _, _, _, _⟩) rfl (by kernel_rfl) (fun K hK => ?_)
          refine step_calls (by rfl) 45 EG1.out [.tmp 39, .tmp 40] _ rfl [.int .u64 base, n.V] rfl (HBg.out _) ?_
          rintro e w5 ⟨b, rfl, hch, hb5⟩
          have h5 := low_and hHeld (hb5.mono (Nat.le_refl _))
          refine ⟨_, rfl, hK _ _ h5 (fun _ => ?_)⟩
          clear hK
          have HCh := Lib.hid (ChAt.mono (B' := w.heap.size) hch (Nat.le_trans HWs.out hHeld.size))
          clear hch
          simp only [Act.put, List.setIfInBounds_toArray, List.set_cons_zero, List.set_cons_succ]
          refine wpAnyH_one (i := 5) (oi := ⟨some 44, _, _, _, _, _⟩) rfl (by kernel_rfl) (fun K hK => ?_)
          refine step_calls (by rfl) 54 EG2.out [.tmp 42, .tmp 43] _ rfl [n.V, .int .u64 key] rfl (HAt.out _) ?_
          rintro e w6 ⟨rfl, hb6⟩
          have h6 := low_and h5 hb6
          refine ⟨_, rfl, hK _ _ h6 (fun _ => ?_)⟩
          clear hK
          have HCh6 := Lib.hid (HCh.out.low hb6)
          simp only [Act.put, List.setIfInBounds_toArray, List.set_cons_zero, List.set_cons_succ]
          refine wpAnyH_take (i := 6) (oi := ⟨some 13, _, _, _, _, _⟩) (v := .pointer (some ⟨b, 0, none⟩)) rfl (by kernel_rfl) (by kernel_rfl) (by kernel_rfl) (fun _ _ _ h => h) (Or.inl ⟨by rfl, by intro w hSw; go_simp⟩) (by assumption) ?_
          simp only [Act.put, List.setIfInBounds_toArray, List.set_cons_zero, List.set_cons_succ]
          refine wpAnyH_take (i := 7) (oi := ⟨some 14, _, _, _, _, _⟩) (v := .int .i64 (a : Int)) rfl (by kernel_rfl) (by kernel_rfl) (by kernel_rfl) (fun _ _ _ h => h) (Or.inl ⟨by rfl, by intro w hSw; go_simp⟩) (by assumption) ?_
          simp only [Act.put, List.setIfInBounds_toArray, List.set_cons_zero, List.set_cons_succ]
          refine wpAnyH_done (by kernel_rfl) ?_ _
          have ha7 : a ≤ 7 := by omega
          have HMR := Lib.hid (makeRoom_any HCh6.out (by simp) hbse (p := a) hal h8)
          have hml := HML.out a h8
          generalize hmk : mkRoom base n a = M at HMR hml HIL
          have HKey := Lib.hid (fun W (h : ChAt W w.heap.size b base n ([(base + 24, IntKind.u64.wrap (n.ct + 1))] ++ M)) => ckey_any h (by rw [List.length_append, List.length_singleton]; omega) hbse (p := a) (by omega) key)
          have HPtr := Lib.hid (fun W (h : ChAt W w.heap.size b base n ([(base + 24, IntKind.u64.wrap (n.ct + 1))] ++ M ++ [(kA base a, key)])) => cptr_any h (by rw [List.length_append, List.length_append, List.length_singleton, List.length_singleton]; omega) hbse (p := a) (by omega) ptr)
          have HEnd := Lib.hid (fun W (h : ChAt W w.heap.size b base n ([(base + 24, IntKind.u64.wrap (n.ct + 1))] ++ M ++ [(kA base a, key)] ++ [(pA base a, ptr)])) => cend_any h (by simp only [List.length_append, List.length_singleton]; omega) hbse)
          have HILf := Lib.hid (show IL = [(base + 24, IntKind.u64.wrap (n.ct + 1))] ++ M ++ [(kA base a, key)] ++ [(pA base a, ptr)] ++ [(base + 24, IntKind.u64.wrap (n.ct + 2))] by rw [HIL.out]; simp [wholeL])
          have H06 := Lib.hid (low_and HB0.out h6)
          clear hmk hml HIL HML
          go_wp2_with (first
            | (go_at_call 55; refine HMR.out.mono ?_; rintro e w7 ⟨rfl, h7, hb7⟩)
            | (go_at_call 56; refine (HKey.out _ h7).mono ?_; rintro e w8 ⟨rfl, h8c, hb8⟩)
            | (go_at_call 57; refine (HPtr.out _ h8c).mono ?_; rintro e w9 ⟨rfl, h9, hb9⟩)
            | (go_at_call 47; refine (HEnd.out _ h9).mono ?_; rintro e w10 ⟨⟨v, rfl, ho⟩, hb10⟩))
          go_ret2
          rw [HR.out]
          refine ⟨⟨_, rfl, ?_⟩, H06.out.trans (hb7.trans (hb8.trans (hb9.trans hb10)))⟩
          rw [HILf.out, List.length_append (bs := [(base + 24, IntKind.u64.wrap (n.ct + 2))])]
          exact ho
end Go.Proofs.Ytbadlmicbbjkaaa
