/- The document's Apply of one store: of any node; conditions: numbers of the width. -/
import Derived.Test.YtbadlmicbbjkaaaN9App
namespace Go.Proofs.Ytbadlmicbbjkaaa
open Go.RowKit
set_option linter.unusedVariables false
theorem ap_else {base x y : Int} {n : Nd} (h : ∀ i : Nat, i < 8 → x ≠ kA base i ∧ x ≠ pA base i) (h1 : x ≠ base + 8) (h2 : x ≠ base + 16) (h3 : x ≠ base + 24) (h4 : x ≠ base + 32) : ap base n (x, y) = none := by
  unfold ap
  dsimp only
  rw [if_neg h1, if_neg h2, if_neg h3, if_neg h4]
  refine if_neg ?_
  rintro ⟨g1, g2, g3⟩
  have := h ((x - base - 64) / 16).toNat (by omega)
  unfold kA pA at this
  omega
theorem results9 {fn : Func} {p u : Tmp} (h : fn.results = #[.cell p 27, .tmp u]) : True := trivial
set_option maxRecDepth 100000 in
set_option maxHeartbeats 8000000 in
theorem r9apply_any {base : Int} (hb : 0 ≤ base) (n : Nd) (x y : Int) (w : World) :
    Calls Try.prog 15 #[.int .u64 base, n.V, .agg #[.int .u64 x, .int .u64 y]] w fun e w' => e = .returned (.tuple #[(applyR base n [(x, y)]).1.V, .int .i64 (applyR base n [(x, y)]).2]) ∧ Below w.heap.size w w' := by
  have rx := Row.new w 27 n.cl.toArray
  have ry := Row.new (w.alloc (.cells n.cl.toArray 27)) 45 #[.int .u64 x, .int .u64 y]
  have rz := Row.new ((w.alloc (.cells n.cl.toArray 27)).alloc (.cells #[.int .u64 x, .int .u64 y] 45)) 27 zeroNd.cl.toArray
  simp only [World.size_alloc] at ry rz
  obtain ⟨W1, hW1⟩ : ∃ W1, W1 = ((w.alloc (.cells n.cl.toArray 27)).alloc (.cells #[.int .u64 x, .int .u64 y] 45)).alloc (.cells #[.int .i64 0, .int .u64 0, .int .u64 0, .int .u64 0, .int .u64 0, .int .u64 0, .int .u64 0, .int .u64 0, .int .u64 0, .int .u64 0, .int .u64 0, .int .u64 0, .int .u64 0, .int .u64 0, .int .u64 0, .int .u64 0, .int .u64 0, .int .u64 0, .int .u64 0, .int .u64 0, .int .u64 0] 27) := ⟨_, rfl⟩
  have hb1 : Below w.heap.size w W1 := by rw [hW1]; exact low_and (low_and (alloc_low _ _) (alloc_low _ _)) (alloc_low _ _)
  have r0 : NdAt W1 w.heap.size n := by rw [hW1]; exact (rx.alloc _).alloc _
  have r1 : Row W1 (w.heap.size + 1) 45 #[.int .u64 x, .int .u64 y] := by rw [hW1]; exact ry.alloc _
  have r2 : NdAt W1 (w.heap.size + 1 + 1) zeroNd := by rw [hW1]; exact rz
  have HW1 := Lib.hid hW1
  have HB1 := Lib.hid hb1
  have R0 := Lib.hid r0
  have R1 := Lib.hid r1
  have R2 := Lib.hid r2
  have hm64 := tmod64 hb
  have hbo := bOk_iff base
  have hP : applyR base n [(x, y)] = if bOk base = true then aftR (ap base n (x, y)) else (zeroNd, 2) := by
    unfold applyR apL
    split
    · cases ap base n (x, y) <;> rfl
    · rfl
  generalize applyR base n [(x, y)] = R at hP ⊢
  obtain ⟨c, hc⟩ : ∃ c, c = bOk base := ⟨_, rfl⟩
  rw [← hc] at hP hbo
  clear hW1 hb1 r0 r1 r2 rx ry rz hc
  cases c with
  | false =>
    have HR := Lib.hid (show R = (zeroNd, 2) by rw [hP]; rfl)
    have hno : base = 0 ∨ (base ≠ 0 ∧ 1099511627776 < base) ∨ (base ≠ 0 ∧ ¬ 1099511627776 < base ∧ base % 64 ≠ 0) := by
      have : ¬ (base % 64 = 0 ∧ 0 < base ∧ base ≤ 1099511627776) := fun h => by have := hbo.2 h; cases this
      omega
    clear hP hbo
    rcases hno with rfl | ⟨h1, h2⟩ | ⟨h1, h2, h3⟩
    · clear hm64
      go_enter Try.func15, Try.ntmps15
      go_wp2_with (first
        | (rw [← HW1.out])
        | (refine wpList_store_row rfl _ _ _ rfl (w.heap.size + 1 + 1) zeroNd.cl rfl rfl R2.out rfl ndI (cl_one zeroNd) ?_))
      refine bodyPost_ret (results_node_tmp rfl _ _ (w.heap.size + 1 + 1) zeroNd rfl (row_setCells R2.out rfl)) rfl ⟨?_, setCells_low _ (by omega) HB1.out⟩
      rw [HR.out]
      rfl
    · have h1b : (base == 0) = false := by simpa using h1
      clear hm64
      go_enter Try.func15, Try.ntmps15
      go_wp2_with (first
        | (rw [← HW1.out])
        | (refine wpList_store_row rfl _ _ _ rfl (w.heap.size + 1 + 1) zeroNd.cl rfl rfl R2.out rfl ndI (cl_one zeroNd) ?_))
      refine bodyPost_ret (results_node_tmp rfl _ _ (w.heap.size + 1 + 1) zeroNd rfl (row_setCells R2.out rfl)) rfl ⟨?_, setCells_low _ (by omega) HB1.out⟩
      rw [HR.out]
      rfl
    · have h1b : (base == 0) = false := by simpa using h1
      have h3b : (base % 64 != 0) = true := by simpa using h3
      clear hm64
      go_enter Try.func15, Try.ntmps15
      go_wp2_with (first
        | (rw [← HW1.out])
        | (refine wpList_store_row rfl _ _ _ rfl (w.heap.size + 1 + 1) zeroNd.cl rfl rfl R2.out rfl ndI (cl_one zeroNd) ?_))
      refine bodyPost_ret (results_node_tmp rfl _ _ (w.heap.size + 1 + 1) zeroNd rfl (row_setCells R2.out rfl)) rfl ⟨?_, setCells_low _ (by omega) HB1.out⟩
      rw [HR.out]
      rfl
  | true =>
    obtain ⟨g1, g2, g3⟩ := hbo.1 rfl
    have hbse : 0 ≤ base ∧ base ≤ 1099511627776 := ⟨hb, g3⟩
    have h1b : (base == 0) = false := by simp; omega
    have h2b : ¬ 1099511627776 < base := by omega
    have h3b : (base % 64 != 0) = false := by simpa using g1
    rw [if_pos rfl] at hP
    have HPl := Lib.hid hP
    clear hm64 hbo g1 hP
    go_enter Try.func15, Try.ntmps15
    go_wp2_with (first
      | (rw [← HW1.out]))
    go_loopw [8] (fun i wr => ∃ k : Nat, k ≤ 8 ∧ i = .int .i64 (k : Int) ∧ (∀ j, j < k → x ≠ kA base j ∧ x ≠ pA base j) ∧ NdAt wr w.heap.size n ∧ Row wr (w.heap.size + 1) 45 #[.int .u64 x, .int .u64 y] ∧ NdAt wr (w.heap.size + 1 + 1) zeroNd ∧ Below w.heap.size w wr) (fun i _ => 8 - (intOf i).toNat)
    case atStart => exact ⟨0, by omega, rfl, fun j hj => by omega, R0.out, R1.out, R2.out, HB1.out⟩
    case round =>
      rename World => wr
      obtain ⟨k, hk, rfl, hne, h0, h1, h2, hbl⟩ := hrel
      have HNE := Lib.hid hne
      have H0 := Lib.hid (fun W' (hb : Below wr.heap.size wr W') => (show NdAt W' w.heap.size n from h0.below hb h0.lt))
      have H1 := Lib.hid (fun W' (hb : Below wr.heap.size wr W') => h1.below hb h1.lt)
      have H2 := Lib.hid (fun W' (hb : Below wr.heap.size wr W') => (show NdAt W' (w.heap.size + 1 + 1) zeroNd from h2.below hb h2.lt))
      have HBl := Lib.hid hbl
      have HSz := Lib.hid hbl.size
      have hsz2 := h2.lt
      clear hne h0 h1 h2 hbl
      by_cases hlt : k < 8
      · have hki : (k : Int) < 8 := by omega
        have HKt := Lib.hid (fun (p : LowBy wr) => Calls.low_of_same (kt_any hbse (i := k) (by omega) p.W))
        have HPt0 := Lib.hid (fun W => pt_any hbse (i := k) (by omega) W)
        have cx := fun p : LowBy wr => (show p.W.cell? ⟨w.heap.size + 1, 0, none⟩ = some (.int .u64 x) from (H1.out p.W p.low).cell 0)
        have HAk := Lib.hid (ap_k base n hlt y)
        have HApp := Lib.hid (ap_p base n hlt y)
        obtain ⟨ka, hka⟩ : ∃ ka, ka = kA base k := ⟨_, rfl⟩
        obtain ⟨pa, hpa⟩ : ∃ pa, pa = pA base k := ⟨_, rfl⟩
        rw [← hka] at HKt HAk
        rw [← hpa] at HPt0 HApp
        have HKa := Lib.hid hka
        have HPa := Lib.hid hpa
        clear hka hpa
        obtain hxk | hxk : x = ka ∨ x ≠ ka := by omega
        · have hxb : (x == ka) = true := by simpa using hxk
          have HRk := Lib.hid (show R = (n.setK k y, 0) by rw [HPl.out, hxk, HAk.out]; rfl)
          clear hxk
          go_wp2_with fail
          refine wp_region_quiet_low (by kernel_rfl) (by kernel_rfl) ?_
          repeat (go_big_quiet_step ((go_at_call 37; with_reducible exact HKt.out _)))
          refine wpQuiet_nil ?_
          intro _ hw'
          obtain ⟨p, hw''⟩ := hw'
          subst hw''
          have hm4 := p.low
          clear cx
          generalize p.W = w4 at *
          have h04 := H0.out w4 hm4
          have ck := ndAt_key h04 hlt
          have fk := h04.free (5 + k)
          have c1 := (H1.out w4 hm4).cell 1
          simp only [List.getElem?_toArray, List.getElem?_cons_succ, List.getElem?_cons_zero] at c1
          have HN5 := Lib.hid (set_row (u := .int .u64 y) h04 (setK_cl n hlt y))
          have HZ5 := Lib.hid (show NdAt (w4.setCell ⟨w.heap.size, 5 + k, none⟩ (.int .u64 y)) (w.heap.size + 1 + 1) zeroNd from Row.other (H2.out w4 hm4) (p := ⟨w.heap.size, 5 + k, none⟩) (by simp; omega) _)
          have HB5 := Lib.hid ((low_and HBl.out hm4).setCell (p := ⟨w.heap.size, 5 + k, none⟩) (Nat.le_refl _) (.int .u64 y))
          clear h04
          go_wp2_with (first
            | (refine wpList_load_mid rfl _ _ rfl w.heap.size 0 rfl (n.setK k y).cl _ (ndR HN5.out) Try.underlying27 rfl ndI ?_)
            | (refine wpList_store_row rfl _ _ _ rfl (w.heap.size + 1 + 1) (n.setK k y).cl rfl rfl HZ5.out rfl ndI (cl_one _) ?_))
          refine bodyPost_ret (results_node_tmp rfl _ _ (w.heap.size + 1 + 1) (n.setK k y) rfl (row_setCells HZ5.out rfl)) rfl ⟨?_, setCells_low _ (by omega) HB5.out⟩
          rw [HRk.out]
          rfl
        · have hxb : (x == ka) = false := by simpa using hxk
          obtain hxp | hxp : x = pa ∨ x ≠ pa := by omega
          · have hxc : (x == pa) = true := by simpa using hxp
            have HRk := Lib.hid (show R = (n.setP k y, 0) by rw [HPl.out, hxp, HApp.out]; rfl)
            clear hxp
            go_wp2_with fail
            refine wp_region_quiet_low (by kernel_rfl) (by kernel_rfl) ?_
            repeat (go_big_quiet_step ((go_at_call 37; with_reducible exact HKt.out _)))
            refine wpQuiet_nil ?_
            intro _ hw'
            obtain ⟨p, hw''⟩ := hw'
            subst hw''
            have hm4 := p.low
            clear cx
            generalize p.W = w4 at *
            have HPt4 := Lib.hid (fun (p : LowBy w4) => Calls.low_of_same (HPt0.out p.W))
            have cx := fun p : LowBy w4 => (show p.W.cell? ⟨w.heap.size + 1, 0, none⟩ = some (.int .u64 x) from (H1.out p.W (low_and hm4 p.low)).cell 0)
            go_wp2_with fail
            refine wp_region_quiet_low (by kernel_rfl) (by kernel_rfl) ?_
            repeat (go_big_quiet_step ((go_at_call 38; with_reducible exact HPt4.out _)))
            refine wpQuiet_nil ?_
            intro _ hw'
            obtain ⟨p, hw''⟩ := hw'
            subst hw''
            have hm5 := low_and hm4 p.low
            clear cx hm4 HPt4
            generalize p.W = w5 at *
            have h05 := H0.out w5 hm5
            have ck := ndAt_ptr h05 hlt
            have fk := h05.free (13 + k)
            have c1 := (H1.out w5 hm5).cell 1
            simp only [List.getElem?_toArray, List.getElem?_cons_succ, List.getElem?_cons_zero] at c1
            have HN5 := Lib.hid (set_row (u := .int .u64 y) h05 (setP_cl n hlt y))
            have HZ5 := Lib.hid (show NdAt (w5.setCell ⟨w.heap.size, 13 + k, none⟩ (.int .u64 y)) (w.heap.size + 1 + 1) zeroNd from Row.other (H2.out w5 hm5) (p := ⟨w.heap.size, 13 + k, none⟩) (by simp; omega) _)
            have HB5 := Lib.hid ((low_and HBl.out hm5).setCell (p := ⟨w.heap.size, 13 + k, none⟩) (Nat.le_refl _) (.int .u64 y))
            clear h05
            go_wp2_with (first
              | (refine wpList_load_mid rfl _ _ rfl w.heap.size 0 rfl (n.setP k y).cl _ (ndR HN5.out) Try.underlying27 rfl ndI ?_)
              | (refine wpList_store_row rfl _ _ _ rfl (w.heap.size + 1 + 1) (n.setP k y).cl rfl rfl HZ5.out rfl ndI (cl_one _) ?_))
            refine bodyPost_ret (results_node_tmp rfl _ _ (w.heap.size + 1 + 1) (n.setP k y) rfl (row_setCells HZ5.out rfl)) rfl ⟨?_, setCells_low _ (by omega) HB5.out⟩
            rw [HRk.out]
            rfl
          · have hxc : (x == pa) = false := by simpa using hxp
            have HNx := Lib.hid (show ∀ j, j < k + 1 → x ≠ kA base j ∧ x ≠ pA base j from fun j hj => by
              rcases Nat.lt_or_eq_of_le (Nat.le_of_lt_succ hj) with h | rfl
              · exact HNE.out j h
              · rw [← HKa.out, ← HPa.out]; exact ⟨hxk, hxp⟩)
            clear hxp hxk
            go_wp2_with fail
            refine wp_region_quiet_low (by kernel_rfl) (by kernel_rfl) ?_
            repeat (go_big_quiet_step ((go_at_call 37; with_reducible exact HKt.out _)))
            refine wpQuiet_nil ?_
            intro _ hw'
            obtain ⟨p, hw''⟩ := hw'
            subst hw''
            have hm4 := p.low
            clear cx
            generalize p.W = w4 at *
            have HPt4 := Lib.hid (fun (p : LowBy w4) => Calls.low_of_same (HPt0.out p.W))
            have cx := fun p : LowBy w4 => (show p.W.cell? ⟨w.heap.size + 1, 0, none⟩ = some (.int .u64 x) from (H1.out p.W (low_and hm4 p.low)).cell 0)
            go_wp2_with fail
            refine wp_region_quiet_low (by kernel_rfl) (by kernel_rfl) ?_
            repeat (go_big_quiet_step ((go_at_call 38; with_reducible exact HPt4.out _)))
            refine wpQuiet_nil ?_
            intro _ hw'
            obtain ⟨p, hw''⟩ := hw'
            subst hw''
            have hm5 := low_and hm4 p.low
            clear cx hm4 HPt4
            generalize p.W = w5 at *
            go_wp2
            exact ⟨⟨k + 1, by omega, by go_num, HNx.out, H0.out _ hm5, H1.out _ hm5, H2.out _ hm5, low_and HBl.out hm5⟩, by simp [intOf]; omega⟩
      · obtain rfl : k = 8 := by omega
        have h0' := H0.out wr (Below.refl _ _)
        have hf := fun i => h0'.free i
        have hc := fun i => ndAt_at h0' i
        have c0 := (H1.out wr (Below.refl _ _)).cell 0
        have c1 := (H1.out wr (Below.refl _ _)).cell 1
        simp only [List.getElem?_toArray, List.getElem?_cons_succ, List.getElem?_cons_zero] at c0 c1
        have HZ := Lib.hid (H2.out wr (Below.refl _ _))
        have HH0 := Lib.hid h0'
        have HAE := Lib.hid (fun a b c d => ap_else (y := y) (n := n) HNE.out a b c d)
        have hw8 : IntKind.u64.wrap (base + 8) = base + 8 := by rw [IntKind.wrap_u64]; omega
        have hw16 : IntKind.u64.wrap (base + 16) = base + 16 := by rw [IntKind.wrap_u64]; omega
        have hw24 : IntKind.u64.wrap (base + 24) = base + 24 := by rw [IntKind.wrap_u64]; omega
        have hw32 : IntKind.u64.wrap (base + 32) = base + 32 := by rw [IntKind.wrap_u64]; omega
        clear h0'
        obtain h8 | h8 : x = base + 8 ∨ x ≠ base + 8 := by omega
        · have b8 : (x == base + 8) = true := by simpa using h8
          have f := hf 1
          have c := hc 1
          have HRk := Lib.hid (show R = ({ n with lo := y }, 0) by rw [HPl.out]; unfold ap; dsimp only; rw [if_pos h8]; rfl)
          have HN5 := Lib.hid (set_row (u := .int .u64 y) (m := { n with lo := y }) HH0.out (i := 1) rfl)
          have HZ5 := Lib.hid (show NdAt (wr.setCell ⟨w.heap.size, 1, none⟩ (.int .u64 y)) (w.heap.size + 1 + 1) zeroNd from Row.other HZ.out (p := ⟨w.heap.size, 1, none⟩) (by simp; omega) _)
          have HB5 := Lib.hid (HBl.out.setCell (p := ⟨w.heap.size, 1, none⟩) (Nat.le_refl _) (.int .u64 y))
          generalize hM : ({ n with lo := y } : Nd) = M at HRk HN5
          clear hM hf hc h8
          go_wp2_with (first
            | (refine wpList_load_mid rfl _ _ rfl w.heap.size 0 rfl M.cl _ (ndR HN5.out) Try.underlying27 rfl ndI ?_)
            | (refine wpList_store_row rfl _ _ _ rfl (w.heap.size + 1 + 1) M.cl rfl rfl HZ5.out rfl ndI (cl_one _) ?_))
          refine bodyPost_ret (results_node_tmp rfl _ _ (w.heap.size + 1 + 1) M rfl (row_setCells HZ5.out rfl)) rfl ⟨?_, setCells_low _ (by omega) HB5.out⟩
          rw [HRk.out]
          rfl
        · have b8 : (x == base + 8) = false := by simpa using h8
          obtain h16 | h16 : x = base + 16 ∨ x ≠ base + 16 := by omega
          · have b16 : (x == base + 16) = true := by simpa using h16
            have f := hf 2
            have c := hc 2
            have HRk := Lib.hid (show R = ({ n with nx := y }, 0) by rw [HPl.out]; unfold ap; dsimp only; rw [if_neg h8, if_pos h16]; rfl)
            have HN5 := Lib.hid (set_row (u := .int .u64 y) (m := { n with nx := y }) HH0.out (i := 2) rfl)
            have HZ5 := Lib.hid (show NdAt (wr.setCell ⟨w.heap.size, 2, none⟩ (.int .u64 y)) (w.heap.size + 1 + 1) zeroNd from Row.other HZ.out (p := ⟨w.heap.size, 2, none⟩) (by simp; omega) _)
            have HB5 := Lib.hid (HBl.out.setCell (p := ⟨w.heap.size, 2, none⟩) (Nat.le_refl _) (.int .u64 y))
            generalize hM : ({ n with nx := y } : Nd) = M at HRk HN5
            clear hM hf hc h8 h16
            go_wp2_with (first
              | (refine wpList_load_mid rfl _ _ rfl w.heap.size 0 rfl M.cl _ (ndR HN5.out) Try.underlying27 rfl ndI ?_)
              | (refine wpList_store_row rfl _ _ _ rfl (w.heap.size + 1 + 1) M.cl rfl rfl HZ5.out rfl ndI (cl_one _) ?_))
            refine bodyPost_ret (results_node_tmp rfl _ _ (w.heap.size + 1 + 1) M rfl (row_setCells HZ5.out rfl)) rfl ⟨?_, setCells_low _ (by omega) HB5.out⟩
            rw [HRk.out]
            rfl
          · have b16 : (x == base + 16) = false := by simpa using h16
            obtain h24 | h24 : x = base + 24 ∨ x ≠ base + 24 := by omega
            · have b24 : (x == base + 24) = true := by simpa using h24
              have f := hf 3
              have c := hc 3
              have HRk := Lib.hid (show R = ({ n with ct := y }, 0) by rw [HPl.out]; unfold ap; dsimp only; rw [if_neg h8, if_neg h16, if_pos h24]; rfl)
              have HN5 := Lib.hid (set_row (u := .int .u64 y) (m := { n with ct := y }) HH0.out (i := 3) rfl)
              have HZ5 := Lib.hid (show NdAt (wr.setCell ⟨w.heap.size, 3, none⟩ (.int .u64 y)) (w.heap.size + 1 + 1) zeroNd from Row.other HZ.out (p := ⟨w.heap.size, 3, none⟩) (by simp; omega) _)
              have HB5 := Lib.hid (HBl.out.setCell (p := ⟨w.heap.size, 3, none⟩) (Nat.le_refl _) (.int .u64 y))
              generalize hM : ({ n with ct := y } : Nd) = M at HRk HN5
              clear hM hf hc h8 h16 h24
              go_wp2_with (first
                | (refine wpList_load_mid rfl _ _ rfl w.heap.size 0 rfl M.cl _ (ndR HN5.out) Try.underlying27 rfl ndI ?_)
                | (refine wpList_store_row rfl _ _ _ rfl (w.heap.size + 1 + 1) M.cl rfl rfl HZ5.out rfl ndI (cl_one _) ?_))
              refine bodyPost_ret (results_node_tmp rfl _ _ (w.heap.size + 1 + 1) M rfl (row_setCells HZ5.out rfl)) rfl ⟨?_, setCells_low _ (by omega) HB5.out⟩
              rw [HRk.out]
              rfl
            · have b24 : (x == base + 24) = false := by simpa using h24
              obtain h32 | h32 : x = base + 32 ∨ x ≠ base + 32 := by omega
              · have b32 : (x == base + 32) = true := by simpa using h32
                have f := hf 4
                have c := hc 4
                have HRk := Lib.hid (show R = ({ n with fi := y }, 0) by rw [HPl.out]; unfold ap; dsimp only; rw [if_neg h8, if_neg h16, if_neg h24, if_pos h32]; rfl)
                have HN5 := Lib.hid (set_row (u := .int .u64 y) (m := { n with fi := y }) HH0.out (i := 4) rfl)
                have HZ5 := Lib.hid (show NdAt (wr.setCell ⟨w.heap.size, 4, none⟩ (.int .u64 y)) (w.heap.size + 1 + 1) zeroNd from Row.other HZ.out (p := ⟨w.heap.size, 4, none⟩) (by simp; omega) _)
                have HB5 := Lib.hid (HBl.out.setCell (p := ⟨w.heap.size, 4, none⟩) (Nat.le_refl _) (.int .u64 y))
                generalize hM : ({ n with fi := y } : Nd) = M at HRk HN5
                clear hM hf hc h8 h16 h24 h32
                go_wp2_with (first
                  | (refine wpList_load_mid rfl _ _ rfl w.heap.size 0 rfl M.cl _ (ndR HN5.out) Try.underlying27 rfl ndI ?_)
                  | (refine wpList_store_row rfl _ _ _ rfl (w.heap.size + 1 + 1) M.cl rfl rfl HZ5.out rfl ndI (cl_one _) ?_))
                refine bodyPost_ret (results_node_tmp rfl _ _ (w.heap.size + 1 + 1) M rfl (row_setCells HZ5.out rfl)) rfl ⟨?_, setCells_low _ (by omega) HB5.out⟩
                rw [HRk.out]
                rfl
              · have b32 : (x == base + 32) = false := by simpa using h32
                have HRz := Lib.hid (show R = (zeroNd, 2) by rw [HPl.out, HAE.out h8 h16 h24 h32]; rfl)
                clear hf hc h8 h16 h24 h32
                go_wp2_with (first
                  | (refine wpList_store_row rfl _ _ _ rfl (w.heap.size + 1 + 1) zeroNd.cl rfl rfl HZ.out rfl ndI (cl_one zeroNd) ?_))
                refine bodyPost_ret (results_node_tmp rfl _ _ (w.heap.size + 1 + 1) zeroNd rfl (row_setCells HZ.out rfl)) rfl ⟨?_, setCells_low _ (by omega) HBl.out⟩
                rw [HRz.out]
                rfl
end Go.Proofs.Ytbadlmicbbjkaaa
