/- The law's behind: a node's entries behind a change, by what it is; no conditions. -/
import Derived.Test.YtbadlmicbbjkaaaPe26
namespace Go.Proofs.Ytbadlmicbbjkaaa
open Go.RowKit
set_option linter.unusedVariables false
set_option linter.unusedSimpArgs false
set_option linter.unnecessarySimpa false
attribute [local go_sem] Oper.semAt_some
theorem low_up9 {w1 X W : World} (h : Below w1.heap.size w1 X) (hb : Below X.heap.size X W) : Below w1.heap.size w1 W := h.trans (hb.mono h.size)
theorem alloc_below9 (w : World) (o : Obj) : Below w.heap.size w (w.alloc o) := (Below.refl _ _).alloc (Nat.le_refl _) _
theorem bh_step {d key ptr : Int} {T E L X : List (Int × Int)} {b b' : Bool} {i : Nat} {e : Int × Int} (heq : T = L ++ bhL d key ptr b (E.drop i)) (hd : E.drop i = e :: E.drop (i + 1))
    (h1 : (if b = true ∧ key < e.1 then [(key, ptr)] else []) ++ (if d = 1 ∧ e.1 = key then [] else if d = 3 ∧ e.1 = key then [(key, ptr)] else if d = 4 ∧ key ≤ e.1 then [] else [e]) = X) (hb : (b && !decide (key < e.1)) = b') : T = (L ++ X) ++ bhL d key ptr b' (E.drop (i + 1)) := by
  rw [heq, hd, bhL_cons, h1, hb, List.append_assoc]
set_option maxRecDepth 100000 in
set_option maxHeartbeats 4000000 in
theorem behind9_any (n : Nd) (k key ptr : Int) (w : World) : Calls Try.prog 14 #[n.V, .agg #[.int .i64 k, .int .u64 key, .int .u64 ptr]] w fun e w' => (∃ v, e = .returned v ∧ w'.ownsRow w.heap.size 67 2 v (bhL (kd9 k) key ptr (decide (kd9 k = 0)) n.es).length (flatE (bhL (kd9 k) key ptr (decide (kd9 k = 0)) n.es))) ∧ Below w.heap.size w w' := by
  have mixed : Try.prog.follows .mixedOrders = true := by kernel_rfl
  obtain ⟨i0, hi, hz0, hz1, hz2⟩ := info_parts infoE8
  have r0 := Row.new w 27 n.cl.toArray
  have r1 := r0.below (alloc_low (w.alloc (.cells n.cl.toArray 27)) (.cells #[.int .i64 k, .int .u64 key, .int .u64 ptr] 29)) r0.lt
  have ra := Row.new (w.alloc (.cells n.cl.toArray 27)) 29 #[.int .i64 k, .int .u64 key, .int .u64 ptr]
  rw [show (w.alloc (.cells n.cl.toArray 27)).heap.size = w.heap.size + 1 by simp] at ra
  have hb0 := low_and (alloc_low w (.cells n.cl.toArray 27)) (alloc_low (w.alloc (.cells n.cl.toArray 27)) (.cells #[.int .i64 k, .int .u64 key, .int .u64 ptr] 29))
  obtain ⟨Wa, hWa⟩ : ∃ Wa, Wa = (w.alloc (.cells n.cl.toArray 27)).alloc (.cells #[.int .i64 k, .int .u64 key, .int .u64 ptr] 29) := ⟨_, rfl⟩
  rw [← hWa] at r1 ra hb0
  have HR1 := Lib.hid (show NdAt Wa w.heap.size n from r1)
  have HRA := Lib.hid ra
  have HB0 := Lib.hid hb0
  have HWa := Lib.hid hWa
  have HV := Lib.hid (r8Valid_any n Wa)
  have hel := n.es_len
  obtain ⟨E, hE⟩ : ∃ E, E = n.es := ⟨_, rfl⟩
  rw [← hE] at HV hel ⊢
  have hkd : kd9 k = (IntKind.u64.wrap k).tmod 6 := rfl
  obtain ⟨hd0, hd6⟩ := kd9_lt k
  obtain ⟨d, hd⟩ : ∃ d, d = kd9 k := ⟨_, rfl⟩
  rw [← hd] at hkd hd0 hd6 ⊢
  obtain ⟨T, hT⟩ : ∃ T, T = bhL d key ptr (decide (d = 0)) E := ⟨_, rfl⟩
  rw [← hT]
  have HT := Lib.hid hT
  clear hWa hb0 r0 r1 ra hd hE hT
  obtain rfl | rfl | rfl | rfl | rfl | rfl : d = 0 ∨ d = 1 ∨ d = 2 ∨ d = 3 ∨ d = 4 ∨ d = 5 := by omega
  · have t0 : ((IntKind.u64.wrap k).tmod 6 == 0) = true := by rw [← hkd]; rfl
    have t1 : ((IntKind.u64.wrap k).tmod 6 == 1) = false := by rw [← hkd]; rfl
    have t2 : ((IntKind.u64.wrap k).tmod 6 == 2) = false := by rw [← hkd]; rfl
    have t3 : ((IntKind.u64.wrap k).tmod 6 == 3) = false := by rw [← hkd]; rfl
    have t4 : ((IntKind.u64.wrap k).tmod 6 == 4) = false := by rw [← hkd]; rfl
    go_enter Try.func14, Try.ntmps14
    have a0 : Wa.cell? ⟨w.heap.size + 1, 0, none⟩ = some (.int .i64 k) := HRA.out.cell 0
    go_wp2_with (first
      | (rw [← HWa.out]; go_simp)
      | ((with_reducible refine show_loadN9 ?_); refine wpList_load_mid rfl _ _ rfl w.heap.size 0 rfl n.cl _ (ndR HR1.out) Try.underlying27 rfl ndI ?_)
      | (go_at_call 13; refine HV.out.mono ?_; rintro e w1 ⟨⟨v1, rfl, ho1⟩, h1⟩; obtain ⟨A, cap, rfl, hA⟩ := ent_ownG ho1; have HE1 := Lib.hid hA; have HB1 := Lib.hid h1; have HRA1 := Lib.hid (HRA.out.below h1 HRA.out.lt); have b0 : w1.cell? ⟨w.heap.size + 1, 0, none⟩ = some (.int .i64 k) := HRA1.out.cell 0; clear ho1 h1 hA))
    obtain ⟨N, hN⟩ : ∃ N, N = E.length := ⟨_, rfl⟩
    rw [← hN] at hel ⊢
    have HN := Lib.hid hN
    clear hN b0 a0
    go_loopw [6, 7, 8] (fun o b_ i wr => ∃ (i' : Nat) (b : Bool) (L : List (Int × Int)), i' ≤ N ∧ i = .int .i64 (i' : Int) ∧ b_ = .bool b ∧ Below w1.heap.size w1 wr ∧ wr.ownsRow w1.heap.size 67 2 o L.length (flatE L) ∧ T = L ++ bhL 0 key ptr b (E.drop i') ∧ (b = true → (0 : Int) = 0) ∧ L.length ≤ 2 * i') (fun _ _ i _ => N - (intOf i).toNat)
    case atStart => exact ⟨0, decide ((0 : Int) = 0), [], Nat.zero_le _, rfl, by simp, Below.refl _ _, World.ownsRow_nil _ _ _ _, HT.out, fun h => by simpa using h, Nat.zero_le _⟩
    case round =>
      rename World => wr
      obtain ⟨i, b, L, hil, rfl, rfl, hlow, hown, heq, hbd, hln⟩ := hrel
      have HXwr := Lib.hid hlow
      have HOwr := Lib.hid hown
      have HLn := Lib.hid (show L.length ≤ 16 by omega)
      have HEQ := Lib.hid heq
      by_cases hlt : i < N
      · have hget : E[i]? = some (E.getD i (0, 0)) := by rw [List.getD_eq_getElem?_getD, List.getElem?_eq_getElem (by rw [← HN.out]; exact hlt)]; rfl
        obtain ⟨g, o0, rfl, hcs⟩ := HE1.out (by rw [← HN.out]; omega)
        have hdr : E.drop i = E.getD i (0, 0) :: E.drop (i + 1) := by
          rw [List.drop_eq_getElem_cons (by rw [← HN.out]; exact hlt), List.getD_eq_getElem?_getD, List.getElem?_eq_getElem (by rw [← HN.out]; exact hlt)]
          rfl
        obtain ⟨⟨ek, ep⟩, he⟩ : ∃ e, e = E.getD i (0, 0) := ⟨_, rfl⟩
        rw [← he] at hget hdr
        obtain ⟨q1, q2⟩ := hcs i _ hget
        have HC := Lib.hid (show ∀ W, Below w1.heap.size w1 W → W.cell? ⟨g, o0 + i * 2, none⟩ = some (.int .u64 ek) ∧ W.cell? ⟨g, o0 + i * 2 + 1, none⟩ = some (.int .u64 ep) ∧ W.cell? ⟨w.heap.size + 1, 0, none⟩ = some (.int .i64 k) ∧ W.cell? ⟨w.heap.size + 1, 1, none⟩ = some (.int .u64 key) ∧ W.cell? ⟨w.heap.size + 1, 2, none⟩ = some (.int .u64 ptr) from fun W hb =>
          ⟨(hb.cell (block_lt_of_cell q1)).trans q1, (hb.cell (block_lt_of_cell q2)).trans q2, (HRA1.out.below hb HRA1.out.lt).cell 0, (HRA1.out.below hb HRA1.out.lt).cell 1, (HRA1.out.below hb HRA1.out.lt).cell 2⟩)
        have HDR := Lib.hid hdr
        clear hget hdr he q1 q2 hcs hlow hown heq
        cases b with
        | false =>
          clear hbd
          go_wp2_with fail
          have z1 := fun q : LowBy wr => (HC.out q.W (low_up9 HXwr.out q.low)).1
          have z2 := fun q : LowBy wr => (HC.out q.W (low_up9 HXwr.out q.low)).2.1
          have z3 := fun q : LowBy wr => (HC.out q.W (low_up9 HXwr.out q.low)).2.2.1
          have z4 := fun q : LowBy wr => (HC.out q.W (low_up9 HXwr.out q.low)).2.2.2.1
          have z5 := fun q : LowBy wr => (HC.out q.W (low_up9 HXwr.out q.low)).2.2.2.2
          refine wp_region_quiet_low (by assumption) (by kernel_rfl) ?_
          repeat (go_big_quiet_step (fail))
          refine wpQuiet_nil ?_
          intro _ hw'
          obtain ⟨q, hw''⟩ := hw'
          subst hw''
          clear z1 z2 z3 z4 z5
          have HXX1 := Lib.hid (low_up9 HXwr.out q.low)
          have HOX1 := Lib.hid (ownS_low HOwr.out q.low)
          obtain ⟨X1, hX1⟩ : ∃ X1, X1 = q.W := ⟨_, rfl⟩
          rw [← hX1] at HXX1 HOX1 ⊢
          clear hX1
          have y1 := (HC.out X1 HXX1.out).1
          have y2 := (HC.out X1 HXX1.out).2.1
          have y3 := (HC.out X1 HXX1.out).2.2.1
          have y4 := (HC.out X1 HXX1.out).2.2.2.1
          have y5 := (HC.out X1 HXX1.out).2.2.2.2
          go_wp2_with (at_builtin; refine wpList_append_own _ rfl _ _ 39 rfl w1.heap.size 67 i0 (.agg #[.int .u64 0, .int .u64 0]) 2 16 Try.underlying39 hi hz0 hz1 hz2 rfl (by decide) _ _ _ rfl (ownS_low HOX1.out (alloc_below9 _ _)) ⟨X1.heap.size, 0, none⟩ 1 1 [.int .u64 ek, .int .u64 ep] rfl ?d0q1_1 ?d0q1_2 ?d0q1_3 ?d0q1_4 ?d0q1_5 ?d0q1_6 ?_)
          case d0q1_1 => rfl
          case d0q1_2 =>
            intro j u hj
            rw [Addr.add_lit, Nat.zero_add, (Row.new _ _ _).cell, ← Array.getElem?_toList]
            exact hj
          case d0q1_3 => first | (intro u hu; simp at hu; rcases hu with rfl | rfl <;> rfl) | exact ⟨rfl, rfl⟩
          case d0q1_4 => have := HLn.out; (try simp only [List.length_append, List.length_cons, List.length_nil]); unfold maxLen; omega
          case d0q1_5 => have := HLn.out; (try simp only [List.length_append, List.length_cons, List.length_nil]); omega
          case d0q1_6 => have := HXX1.out.size; simp; omega
          intro vX9 X9 hown hgrow hnil
          have HXX9 := Lib.hid (show Below w1.heap.size w1 X9 from (HXX1.out.trans ((alloc_below9 X1 _).mono HXX1.out.size)).grown hgrow (by have := HXX1.out.size; simp; omega) (fun g hg => (ownS_from HOX1.out g hg).1))
          have HOX9 := Lib.hid (show X9.ownsRow w1.heap.size 67 2 vX9 (L ++ [(ek, ep)]).length (flatE (L ++ [(ek, ep)])) by rw [flatE_snoc]; simp only [List.length_append, List.length_cons, List.length_nil, Nat.zero_add]; exact hown)
          clear hown hgrow hnil y1 y2 y3 y4 y5
          go_wp2_with fail
          exact ⟨⟨i + 1, false, L ++ [(ek, ep)], by omega, by go_num, rfl, HXX9.out, HOX9.out, bh_step (X := [(ek, ep)]) (b' := false) HEQ.out HDR.out (by simp) rfl, (fun h => by cases h), by (try simp only [List.length_append, List.length_cons, List.length_nil]); have := HLn.out; omega⟩, by simp [intOf]; omega⟩
        | true =>
          by_cases hk : key < ek
          · have hkd2 : decide (key < ek) = true := by rw [decide_eq_true_eq]; exact hk
            clear hbd
            go_wp2_with fail
            have z1 := fun q : LowBy wr => (HC.out q.W (low_up9 HXwr.out q.low)).1
            have z2 := fun q : LowBy wr => (HC.out q.W (low_up9 HXwr.out q.low)).2.1
            have z3 := fun q : LowBy wr => (HC.out q.W (low_up9 HXwr.out q.low)).2.2.1
            have z4 := fun q : LowBy wr => (HC.out q.W (low_up9 HXwr.out q.low)).2.2.2.1
            have z5 := fun q : LowBy wr => (HC.out q.W (low_up9 HXwr.out q.low)).2.2.2.2
            refine wp_region_quiet_low (by assumption) (by kernel_rfl) ?_
            repeat (go_big_quiet_step (fail))
            refine wpQuiet_nil ?_
            intro _ hw'
            obtain ⟨q, hw''⟩ := hw'
            subst hw''
            clear z1 z2 z3 z4 z5
            have HXX1 := Lib.hid (low_up9 HXwr.out q.low)
            have HOX1 := Lib.hid (ownS_low HOwr.out q.low)
            obtain ⟨X1, hX1⟩ : ∃ X1, X1 = q.W := ⟨_, rfl⟩
            rw [← hX1] at HXX1 HOX1 ⊢
            clear hX1
            have y1 := (HC.out X1 HXX1.out).1
            have y2 := (HC.out X1 HXX1.out).2.1
            have y3 := (HC.out X1 HXX1.out).2.2.1
            have y4 := (HC.out X1 HXX1.out).2.2.2.1
            have y5 := (HC.out X1 HXX1.out).2.2.2.2
            go_wp2_with (at_builtin; refine wpList_append_own _ rfl _ _ 39 rfl w1.heap.size 67 i0 (.agg #[.int .u64 0, .int .u64 0]) 2 16 Try.underlying39 hi hz0 hz1 hz2 rfl (by decide) _ _ _ rfl (ownS_low HOX1.out (alloc_below9 _ _)) ⟨X1.heap.size, 0, none⟩ 1 1 [.int .u64 key, .int .u64 ptr] rfl ?d0q2_1 ?d0q2_2 ?d0q2_3 ?d0q2_4 ?d0q2_5 ?d0q2_6 ?_)
            case d0q2_1 => rfl
            case d0q2_2 =>
              intro j u hj
              rw [Addr.add_lit, Nat.zero_add, (Row.new _ _ _).cell, ← Array.getElem?_toList]
              exact hj
            case d0q2_3 => first | (intro u hu; simp at hu; rcases hu with rfl | rfl <;> rfl) | exact ⟨rfl, rfl⟩
            case d0q2_4 => have := HLn.out; (try simp only [List.length_append, List.length_cons, List.length_nil]); unfold maxLen; omega
            case d0q2_5 => have := HLn.out; (try simp only [List.length_append, List.length_cons, List.length_nil]); omega
            case d0q2_6 => have := HXX1.out.size; simp; omega
            intro vX2 X2 hown hgrow hnil
            have HXX2 := Lib.hid (show Below w1.heap.size w1 X2 from (HXX1.out.trans ((alloc_below9 X1 _).mono HXX1.out.size)).grown hgrow (by have := HXX1.out.size; simp; omega) (fun g hg => (ownS_from HOX1.out g hg).1))
            have HOX2 := Lib.hid (show X2.ownsRow w1.heap.size 67 2 vX2 (L ++ [(key, ptr)]).length (flatE (L ++ [(key, ptr)])) by rw [flatE_snoc]; simp only [List.length_append, List.length_cons, List.length_nil, Nat.zero_add]; exact hown)
            clear hown hgrow hnil y1 y2 y3 y4 y5
            have y1 := (HC.out X2 HXX2.out).1
            have y2 := (HC.out X2 HXX2.out).2.1
            have y3 := (HC.out X2 HXX2.out).2.2.1
            have y4 := (HC.out X2 HXX2.out).2.2.2.1
            have y5 := (HC.out X2 HXX2.out).2.2.2.2
            go_wp2_with (at_builtin; refine wpList_append_own _ rfl _ _ 39 rfl w1.heap.size 67 i0 (.agg #[.int .u64 0, .int .u64 0]) 2 16 Try.underlying39 hi hz0 hz1 hz2 rfl (by decide) _ _ _ rfl (ownS_low HOX2.out (alloc_below9 _ _)) ⟨X2.heap.size, 0, none⟩ 1 1 [.int .u64 ek, .int .u64 ep] rfl ?d0q3_1 ?d0q3_2 ?d0q3_3 ?d0q3_4 ?d0q3_5 ?d0q3_6 ?_)
            case d0q3_1 => rfl
            case d0q3_2 =>
              intro j u hj
              rw [Addr.add_lit, Nat.zero_add, (Row.new _ _ _).cell, ← Array.getElem?_toList]
              exact hj
            case d0q3_3 => first | (intro u hu; simp at hu; rcases hu with rfl | rfl <;> rfl) | exact ⟨rfl, rfl⟩
            case d0q3_4 => have := HLn.out; (try simp only [List.length_append, List.length_cons, List.length_nil]); unfold maxLen; omega
            case d0q3_5 => have := HLn.out; (try simp only [List.length_append, List.length_cons, List.length_nil]); omega
            case d0q3_6 => have := HXX2.out.size; simp; omega
            intro vX9 X9 hown hgrow hnil
            have HXX9 := Lib.hid (show Below w1.heap.size w1 X9 from (HXX2.out.trans ((alloc_below9 X2 _).mono HXX2.out.size)).grown hgrow (by have := HXX2.out.size; simp; omega) (fun g hg => (ownS_from HOX2.out g hg).1))
            have HOX9 := Lib.hid (show X9.ownsRow w1.heap.size 67 2 vX9 ((L ++ [(key, ptr)]) ++ [(ek, ep)]).length (flatE ((L ++ [(key, ptr)]) ++ [(ek, ep)])) by rw [flatE_snoc]; simp only [List.length_append, List.length_cons, List.length_nil, Nat.zero_add]; exact hown)
            clear hown hgrow hnil y1 y2 y3 y4 y5
            go_wp2_with fail
            exact ⟨⟨i + 1, false, (L ++ [(key, ptr)]) ++ [(ek, ep)], by omega, by go_num, rfl, HXX9.out, HOX9.out, by have := bh_step (X := [(key, ptr), (ek, ep)]) (b' := false) HEQ.out HDR.out (by simp [hk]) (by simp [hk]); rw [this]; simp, (fun h => by cases h), by (try simp only [List.length_append, List.length_cons, List.length_nil]); have := HLn.out; omega⟩, by simp [intOf]; omega⟩
          · have hkd2 : decide (key < ek) = false := by rw [decide_eq_false_iff_not]; exact hk
            clear hbd
            go_wp2_with fail
            have z1 := fun q : LowBy wr => (HC.out q.W (low_up9 HXwr.out q.low)).1
            have z2 := fun q : LowBy wr => (HC.out q.W (low_up9 HXwr.out q.low)).2.1
            have z3 := fun q : LowBy wr => (HC.out q.W (low_up9 HXwr.out q.low)).2.2.1
            have z4 := fun q : LowBy wr => (HC.out q.W (low_up9 HXwr.out q.low)).2.2.2.1
            have z5 := fun q : LowBy wr => (HC.out q.W (low_up9 HXwr.out q.low)).2.2.2.2
            refine wp_region_quiet_low (by assumption) (by kernel_rfl) ?_
            repeat (go_big_quiet_step (fail))
            refine wpQuiet_nil ?_
            intro _ hw'
            obtain ⟨q, hw''⟩ := hw'
            subst hw''
            clear z1 z2 z3 z4 z5
            have HXX1 := Lib.hid (low_up9 HXwr.out q.low)
            have HOX1 := Lib.hid (ownS_low HOwr.out q.low)
            obtain ⟨X1, hX1⟩ : ∃ X1, X1 = q.W := ⟨_, rfl⟩
            rw [← hX1] at HXX1 HOX1 ⊢
            clear hX1
            have y1 := (HC.out X1 HXX1.out).1
            have y2 := (HC.out X1 HXX1.out).2.1
            have y3 := (HC.out X1 HXX1.out).2.2.1
            have y4 := (HC.out X1 HXX1.out).2.2.2.1
            have y5 := (HC.out X1 HXX1.out).2.2.2.2
            go_wp2_with (at_builtin; refine wpList_append_own _ rfl _ _ 39 rfl w1.heap.size 67 i0 (.agg #[.int .u64 0, .int .u64 0]) 2 16 Try.underlying39 hi hz0 hz1 hz2 rfl (by decide) _ _ _ rfl (ownS_low HOX1.out (alloc_below9 _ _)) ⟨X1.heap.size, 0, none⟩ 1 1 [.int .u64 ek, .int .u64 ep] rfl ?d0q4_1 ?d0q4_2 ?d0q4_3 ?d0q4_4 ?d0q4_5 ?d0q4_6 ?_)
            case d0q4_1 => rfl
            case d0q4_2 =>
              intro j u hj
              rw [Addr.add_lit, Nat.zero_add, (Row.new _ _ _).cell, ← Array.getElem?_toList]
              exact hj
            case d0q4_3 => first | (intro u hu; simp at hu; rcases hu with rfl | rfl <;> rfl) | exact ⟨rfl, rfl⟩
            case d0q4_4 => have := HLn.out; (try simp only [List.length_append, List.length_cons, List.length_nil]); unfold maxLen; omega
            case d0q4_5 => have := HLn.out; (try simp only [List.length_append, List.length_cons, List.length_nil]); omega
            case d0q4_6 => have := HXX1.out.size; simp; omega
            intro vX9 X9 hown hgrow hnil
            have HXX9 := Lib.hid (show Below w1.heap.size w1 X9 from (HXX1.out.trans ((alloc_below9 X1 _).mono HXX1.out.size)).grown hgrow (by have := HXX1.out.size; simp; omega) (fun g hg => (ownS_from HOX1.out g hg).1))
            have HOX9 := Lib.hid (show X9.ownsRow w1.heap.size 67 2 vX9 (L ++ [(ek, ep)]).length (flatE (L ++ [(ek, ep)])) by rw [flatE_snoc]; simp only [List.length_append, List.length_cons, List.length_nil, Nat.zero_add]; exact hown)
            clear hown hgrow hnil y1 y2 y3 y4 y5
            go_wp2_with fail
            exact ⟨⟨i + 1, true, L ++ [(ek, ep)], by omega, by go_num, rfl, HXX9.out, HOX9.out, bh_step (X := [(ek, ep)]) (b' := true) HEQ.out HDR.out (by simp [hk]) (by simp [hk]), (fun _ => by simp), by (try simp only [List.length_append, List.length_cons, List.length_nil]); have := HLn.out; omega⟩, by simp [intOf]; omega⟩
      · have hiN : i = N := by omega
        have HRt := Lib.hid (show T = L ++ (if b = true then [(key, ptr)] else []) from by
          rw [HEQ.out, hiN, HN.out, List.drop_length]
          rfl)
        have y3 := (HRA1.out.below HXwr.out HRA1.out.lt).cell 1
        have y4 : wr.cell? ⟨w.heap.size + 1, 2, none⟩ = some (.int .u64 ptr) := (HRA1.out.below HXwr.out HRA1.out.lt).cell 2
        have y1 := hlt
        have y2 := hlt
        have y5 := hlt
        clear hlow hown heq hiN
        cases b with
        | false =>
          go_wp2_with fail
          go_ret
          refine ⟨⟨_, rfl, ?_⟩, (low_and HB0.out HB1.out).trans (HXwr.out.mono (low_and HB0.out HB1.out).size)⟩
          rw [HRt.out, if_neg (by simp), List.append_nil]
          exact ownS_mono HOwr.out (low_and HB0.out HB1.out).size
        | true =>
          go_wp2_with (at_builtin; refine wpList_append_own _ rfl _ _ 39 rfl w1.heap.size 67 i0 (.agg #[.int .u64 0, .int .u64 0]) 2 16 Try.underlying39 hi hz0 hz1 hz2 rfl (by decide) _ _ _ rfl (ownS_low HOwr.out (alloc_below9 _ _)) ⟨wr.heap.size, 0, none⟩ 1 1 [.int .u64 key, .int .u64 ptr] rfl ?d0q11_1 ?d0q11_2 ?d0q11_3 ?d0q11_4 ?d0q11_5 ?d0q11_6 ?_)
          case d0q11_3 => first | (intro u hu; simp at hu; rcases hu with rfl | rfl <;> rfl) | exact ⟨rfl, rfl⟩
          case d0q11_4 => have := HLn.out; (try simp only [List.length_append, List.length_cons, List.length_nil]); unfold maxLen; omega
          case d0q11_5 => have := HLn.out; (try simp only [List.length_append, List.length_cons, List.length_nil]); omega
          case d0q11_6 => have := HXwr.out.size; simp; omega
          intro vX2 X2 hown hgrow hnil
          have HXX2 := Lib.hid (show Below w1.heap.size w1 X2 from (HXwr.out.trans ((alloc_below9 wr _).mono HXwr.out.size)).grown hgrow (by have := HXwr.out.size; simp; omega) (fun g hg => (ownS_from HOwr.out g hg).1))
          have HOX2 := Lib.hid (show X2.ownsRow w1.heap.size 67 2 vX2 (L ++ [(key, ptr)]).length (flatE (L ++ [(key, ptr)])) by rw [flatE_snoc]; simp only [List.length_append, List.length_cons, List.length_nil, Nat.zero_add]; exact hown)
          clear hown hgrow hnil y1 y2 y3 y4 y5
          go_wp2_with fail
          go_ret
          refine ⟨⟨_, rfl, ?_⟩, (low_and HB0.out HB1.out).trans (HXX2.out.mono (low_and HB0.out HB1.out).size)⟩
          rw [show T = L ++ [(key, ptr)] by rw [HRt.out]; simp]
          exact ownS_mono HOX2.out (low_and HB0.out HB1.out).size
  · have t0 : ((IntKind.u64.wrap k).tmod 6 == 0) = false := by rw [← hkd]; rfl
    have t1 : ((IntKind.u64.wrap k).tmod 6 == 1) = true := by rw [← hkd]; rfl
    have t2 : ((IntKind.u64.wrap k).tmod 6 == 2) = false := by rw [← hkd]; rfl
    have t3 : ((IntKind.u64.wrap k).tmod 6 == 3) = false := by rw [← hkd]; rfl
    have t4 : ((IntKind.u64.wrap k).tmod 6 == 4) = false := by rw [← hkd]; rfl
    go_enter Try.func14, Try.ntmps14
    have a0 : Wa.cell? ⟨w.heap.size + 1, 0, none⟩ = some (.int .i64 k) := HRA.out.cell 0
    go_wp2_with (first
      | (rw [← HWa.out]; go_simp)
      | ((with_reducible refine show_loadN9 ?_); refine wpList_load_mid rfl _ _ rfl w.heap.size 0 rfl n.cl _ (ndR HR1.out) Try.underlying27 rfl ndI ?_)
      | (go_at_call 13; refine HV.out.mono ?_; rintro e w1 ⟨⟨v1, rfl, ho1⟩, h1⟩; obtain ⟨A, cap, rfl, hA⟩ := ent_ownG ho1; have HE1 := Lib.hid hA; have HB1 := Lib.hid h1; have HRA1 := Lib.hid (HRA.out.below h1 HRA.out.lt); have b0 : w1.cell? ⟨w.heap.size + 1, 0, none⟩ = some (.int .i64 k) := HRA1.out.cell 0; clear ho1 h1 hA))
    obtain ⟨N, hN⟩ : ∃ N, N = E.length := ⟨_, rfl⟩
    rw [← hN] at hel ⊢
    have HN := Lib.hid hN
    clear hN b0 a0
    go_loopw [6, 7, 8] (fun o b_ i wr => ∃ (i' : Nat) (b : Bool) (L : List (Int × Int)), i' ≤ N ∧ i = .int .i64 (i' : Int) ∧ b_ = .bool b ∧ Below w1.heap.size w1 wr ∧ wr.ownsRow w1.heap.size 67 2 o L.length (flatE L) ∧ T = L ++ bhL 1 key ptr b (E.drop i') ∧ (b = true → (1 : Int) = 0) ∧ L.length ≤ 2 * i') (fun _ _ i _ => N - (intOf i).toNat)
    case atStart => exact ⟨0, decide ((1 : Int) = 0), [], Nat.zero_le _, rfl, by simp, Below.refl _ _, World.ownsRow_nil _ _ _ _, HT.out, fun h => by simpa using h, Nat.zero_le _⟩
    case round =>
      rename World => wr
      obtain ⟨i, b, L, hil, rfl, rfl, hlow, hown, heq, hbd, hln⟩ := hrel
      have HXwr := Lib.hid hlow
      have HOwr := Lib.hid hown
      have HLn := Lib.hid (show L.length ≤ 16 by omega)
      have HEQ := Lib.hid heq
      by_cases hlt : i < N
      · have hget : E[i]? = some (E.getD i (0, 0)) := by rw [List.getD_eq_getElem?_getD, List.getElem?_eq_getElem (by rw [← HN.out]; exact hlt)]; rfl
        obtain ⟨g, o0, rfl, hcs⟩ := HE1.out (by rw [← HN.out]; omega)
        have hdr : E.drop i = E.getD i (0, 0) :: E.drop (i + 1) := by
          rw [List.drop_eq_getElem_cons (by rw [← HN.out]; exact hlt), List.getD_eq_getElem?_getD, List.getElem?_eq_getElem (by rw [← HN.out]; exact hlt)]
          rfl
        obtain ⟨⟨ek, ep⟩, he⟩ : ∃ e, e = E.getD i (0, 0) := ⟨_, rfl⟩
        rw [← he] at hget hdr
        obtain ⟨q1, q2⟩ := hcs i _ hget
        have HC := Lib.hid (show ∀ W, Below w1.heap.size w1 W → W.cell? ⟨g, o0 + i * 2, none⟩ = some (.int .u64 ek) ∧ W.cell? ⟨g, o0 + i * 2 + 1, none⟩ = some (.int .u64 ep) ∧ W.cell? ⟨w.heap.size + 1, 0, none⟩ = some (.int .i64 k) ∧ W.cell? ⟨w.heap.size + 1, 1, none⟩ = some (.int .u64 key) ∧ W.cell? ⟨w.heap.size + 1, 2, none⟩ = some (.int .u64 ptr) from fun W hb =>
          ⟨(hb.cell (block_lt_of_cell q1)).trans q1, (hb.cell (block_lt_of_cell q2)).trans q2, (HRA1.out.below hb HRA1.out.lt).cell 0, (HRA1.out.below hb HRA1.out.lt).cell 1, (HRA1.out.below hb HRA1.out.lt).cell 2⟩)
        have HDR := Lib.hid hdr
        clear hget hdr he q1 q2 hcs hlow hown heq
        have hb0 : b = false := by cases b with
          | false => rfl
          | true => exact absurd (hbd rfl) (by omega)
        subst hb0
        clear hbd
        by_cases hk : ek = key
        · have hkq : (ek == key) = true := by simpa using hk
          go_wp2_with fail
          have z1 := fun q : LowBy wr => (HC.out q.W (low_up9 HXwr.out q.low)).1
          have z2 := fun q : LowBy wr => (HC.out q.W (low_up9 HXwr.out q.low)).2.1
          have z3 := fun q : LowBy wr => (HC.out q.W (low_up9 HXwr.out q.low)).2.2.1
          have z4 := fun q : LowBy wr => (HC.out q.W (low_up9 HXwr.out q.low)).2.2.2.1
          have z5 := fun q : LowBy wr => (HC.out q.W (low_up9 HXwr.out q.low)).2.2.2.2
          refine wp_region_quiet_low (by assumption) (by kernel_rfl) ?_
          repeat (go_big_quiet_step (fail))
          refine wpQuiet_nil ?_
          intro _ hw'
          obtain ⟨q, hw''⟩ := hw'
          subst hw''
          clear z1 z2 z3 z4 z5
          have HXX1 := Lib.hid (low_up9 HXwr.out q.low)
          have HOX1 := Lib.hid (ownS_low HOwr.out q.low)
          obtain ⟨X1, hX1⟩ : ∃ X1, X1 = q.W := ⟨_, rfl⟩
          rw [← hX1] at HXX1 HOX1 ⊢
          clear hX1
          have y1 := (HC.out X1 HXX1.out).1
          have y2 := (HC.out X1 HXX1.out).2.1
          have y3 := (HC.out X1 HXX1.out).2.2.1
          have y4 := (HC.out X1 HXX1.out).2.2.2.1
          have y5 := (HC.out X1 HXX1.out).2.2.2.2
          go_wp2_with fail
          clear y1 y2 y3 y4 y5
          have z1 := fun q : LowBy X1 => (HC.out q.W (low_up9 HXX1.out q.low)).1
          have z2 := fun q : LowBy X1 => (HC.out q.W (low_up9 HXX1.out q.low)).2.1
          have z3 := fun q : LowBy X1 => (HC.out q.W (low_up9 HXX1.out q.low)).2.2.1
          have z4 := fun q : LowBy X1 => (HC.out q.W (low_up9 HXX1.out q.low)).2.2.2.1
          have z5 := fun q : LowBy X1 => (HC.out q.W (low_up9 HXX1.out q.low)).2.2.2.2
          refine wp_region_quiet_low (by assumption) (by kernel_rfl) ?_
          repeat (go_big_quiet_step (fail))
          refine wpQuiet_nil ?_
          intro _ hw'
          obtain ⟨q, hw''⟩ := hw'
          subst hw''
          clear z1 z2 z3 z4 z5
          have HXX3 := Lib.hid (low_up9 HXX1.out q.low)
          have HOX3 := Lib.hid (ownS_low HOX1.out q.low)
          obtain ⟨X3, hX3⟩ : ∃ X3, X3 = q.W := ⟨_, rfl⟩
          rw [← hX3] at HXX3 HOX3 ⊢
          clear hX3
          go_wp2_with fail
          exact ⟨⟨i + 1, false, L, by omega, by go_num, rfl, HXX3.out, HOX3.out, by have := bh_step (X := []) (b' := false) HEQ.out HDR.out (by simp [hk]) rfl; rw [this]; simp, (fun h => by cases h), by (try simp only [List.length_append, List.length_cons, List.length_nil]); have := HLn.out; omega⟩, by simp [intOf]; omega⟩
        · have hkq : (ek == key) = false := by simpa using hk
          go_wp2_with fail
          have z1 := fun q : LowBy wr => (HC.out q.W (low_up9 HXwr.out q.low)).1
          have z2 := fun q : LowBy wr => (HC.out q.W (low_up9 HXwr.out q.low)).2.1
          have z3 := fun q : LowBy wr => (HC.out q.W (low_up9 HXwr.out q.low)).2.2.1
          have z4 := fun q : LowBy wr => (HC.out q.W (low_up9 HXwr.out q.low)).2.2.2.1
          have z5 := fun q : LowBy wr => (HC.out q.W (low_up9 HXwr.out q.low)).2.2.2.2
          refine wp_region_quiet_low (by assumption) (by kernel_rfl) ?_
          repeat (go_big_quiet_step (fail))
          refine wpQuiet_nil ?_
          intro _ hw'
          obtain ⟨q, hw''⟩ := hw'
          subst hw''
          clear z1 z2 z3 z4 z5
          have HXX1 := Lib.hid (low_up9 HXwr.out q.low)
          have HOX1 := Lib.hid (ownS_low HOwr.out q.low)
          obtain ⟨X1, hX1⟩ : ∃ X1, X1 = q.W := ⟨_, rfl⟩
          rw [← hX1] at HXX1 HOX1 ⊢
          clear hX1
          have y1 := (HC.out X1 HXX1.out).1
          have y2 := (HC.out X1 HXX1.out).2.1
          have y3 := (HC.out X1 HXX1.out).2.2.1
          have y4 := (HC.out X1 HXX1.out).2.2.2.1
          have y5 := (HC.out X1 HXX1.out).2.2.2.2
          go_wp2_with fail
          clear y1 y2 y3 y4 y5
          have z1 := fun q : LowBy X1 => (HC.out q.W (low_up9 HXX1.out q.low)).1
          have z2 := fun q : LowBy X1 => (HC.out q.W (low_up9 HXX1.out q.low)).2.1
          have z3 := fun q : LowBy X1 => (HC.out q.W (low_up9 HXX1.out q.low)).2.2.1
          have z4 := fun q : LowBy X1 => (HC.out q.W (low_up9 HXX1.out q.low)).2.2.2.1
          have z5 := fun q : LowBy X1 => (HC.out q.W (low_up9 HXX1.out q.low)).2.2.2.2
          refine wp_region_quiet_low (by assumption) (by kernel_rfl) ?_
          repeat (go_big_quiet_step (fail))
          refine wpQuiet_nil ?_
          intro _ hw'
          obtain ⟨q, hw''⟩ := hw'
          subst hw''
          clear z1 z2 z3 z4 z5
          have HXX3 := Lib.hid (low_up9 HXX1.out q.low)
          have HOX3 := Lib.hid (ownS_low HOX1.out q.low)
          obtain ⟨X3, hX3⟩ : ∃ X3, X3 = q.W := ⟨_, rfl⟩
          rw [← hX3] at HXX3 HOX3 ⊢
          clear hX3
          have y1 := (HC.out X3 HXX3.out).1
          have y2 := (HC.out X3 HXX3.out).2.1
          have y3 := (HC.out X3 HXX3.out).2.2.1
          have y4 := (HC.out X3 HXX3.out).2.2.2.1
          have y5 := (HC.out X3 HXX3.out).2.2.2.2
          go_wp2_with (at_builtin; refine wpList_append_own _ rfl _ _ 39 rfl w1.heap.size 67 i0 (.agg #[.int .u64 0, .int .u64 0]) 2 16 Try.underlying39 hi hz0 hz1 hz2 rfl (by decide) _ _ _ rfl (ownS_low HOX3.out (alloc_below9 _ _)) ⟨X3.heap.size, 0, none⟩ 1 1 [.int .u64 ek, .int .u64 ep] rfl ?d1q5_1 ?d1q5_2 ?d1q5_3 ?d1q5_4 ?d1q5_5 ?d1q5_6 ?_)
          case d1q5_1 => rfl
          case d1q5_2 =>
            intro j u hj
            rw [Addr.add_lit, Nat.zero_add, (Row.new _ _ _).cell, ← Array.getElem?_toList]
            exact hj
          case d1q5_3 => first | (intro u hu; simp at hu; rcases hu with rfl | rfl <;> rfl) | exact ⟨rfl, rfl⟩
          case d1q5_4 => have := HLn.out; (try simp only [List.length_append, List.length_cons, List.length_nil]); unfold maxLen; omega
          case d1q5_5 => have := HLn.out; (try simp only [List.length_append, List.length_cons, List.length_nil]); omega
          case d1q5_6 => have := HXX3.out.size; simp; omega
          intro vX9 X9 hown hgrow hnil
          have HXX9 := Lib.hid (show Below w1.heap.size w1 X9 from (HXX3.out.trans ((alloc_below9 X3 _).mono HXX3.out.size)).grown hgrow (by have := HXX3.out.size; simp; omega) (fun g hg => (ownS_from HOX3.out g hg).1))
          have HOX9 := Lib.hid (show X9.ownsRow w1.heap.size 67 2 vX9 (L ++ [(ek, ep)]).length (flatE (L ++ [(ek, ep)])) by rw [flatE_snoc]; simp only [List.length_append, List.length_cons, List.length_nil, Nat.zero_add]; exact hown)
          clear hown hgrow hnil y1 y2 y3 y4 y5
          go_wp2_with fail
          exact ⟨⟨i + 1, false, L ++ [(ek, ep)], by omega, by go_num, rfl, HXX9.out, HOX9.out, bh_step (X := [(ek, ep)]) (b' := false) HEQ.out HDR.out (by simp [hk]) rfl, (fun h => by cases h), by (try simp only [List.length_append, List.length_cons, List.length_nil]); have := HLn.out; omega⟩, by simp [intOf]; omega⟩
      · have hiN : i = N := by omega
        have HRt := Lib.hid (show T = L ++ (if b = true then [(key, ptr)] else []) from by
          rw [HEQ.out, hiN, HN.out, List.drop_length]
          rfl)
        have y3 := (HRA1.out.below HXwr.out HRA1.out.lt).cell 1
        have y4 : wr.cell? ⟨w.heap.size + 1, 2, none⟩ = some (.int .u64 ptr) := (HRA1.out.below HXwr.out HRA1.out.lt).cell 2
        have y1 := hlt
        have y2 := hlt
        have y5 := hlt
        clear hlow hown heq hiN
        cases b with
        | false =>
          go_wp2_with fail
          go_ret
          refine ⟨⟨_, rfl, ?_⟩, (low_and HB0.out HB1.out).trans (HXwr.out.mono (low_and HB0.out HB1.out).size)⟩
          rw [HRt.out, if_neg (by simp), List.append_nil]
          exact ownS_mono HOwr.out (low_and HB0.out HB1.out).size
        | true =>
          exact absurd (hbd rfl) (by omega)
  · have t0 : ((IntKind.u64.wrap k).tmod 6 == 0) = false := by rw [← hkd]; rfl
    have t1 : ((IntKind.u64.wrap k).tmod 6 == 1) = false := by rw [← hkd]; rfl
    have t2 : ((IntKind.u64.wrap k).tmod 6 == 2) = true := by rw [← hkd]; rfl
    have t3 : ((IntKind.u64.wrap k).tmod 6 == 3) = false := by rw [← hkd]; rfl
    have t4 : ((IntKind.u64.wrap k).tmod 6 == 4) = false := by rw [← hkd]; rfl
    go_enter Try.func14, Try.ntmps14
    have a0 : Wa.cell? ⟨w.heap.size + 1, 0, none⟩ = some (.int .i64 k) := HRA.out.cell 0
    go_wp2_with (first
      | (rw [← HWa.out]; go_simp)
      | ((with_reducible refine show_loadN9 ?_); refine wpList_load_mid rfl _ _ rfl w.heap.size 0 rfl n.cl _ (ndR HR1.out) Try.underlying27 rfl ndI ?_)
      | (go_at_call 13; refine HV.out.mono ?_; rintro e w1 ⟨⟨v1, rfl, ho1⟩, h1⟩; obtain ⟨A, cap, rfl, hA⟩ := ent_ownG ho1; have HE1 := Lib.hid hA; have HB1 := Lib.hid h1; have HRA1 := Lib.hid (HRA.out.below h1 HRA.out.lt); have b0 : w1.cell? ⟨w.heap.size + 1, 0, none⟩ = some (.int .i64 k) := HRA1.out.cell 0; clear ho1 h1 hA))
    obtain ⟨N, hN⟩ : ∃ N, N = E.length := ⟨_, rfl⟩
    rw [← hN] at hel ⊢
    have HN := Lib.hid hN
    clear hN b0 a0
    go_loopw [6, 7, 8] (fun o b_ i wr => ∃ (i' : Nat) (b : Bool) (L : List (Int × Int)), i' ≤ N ∧ i = .int .i64 (i' : Int) ∧ b_ = .bool b ∧ Below w1.heap.size w1 wr ∧ wr.ownsRow w1.heap.size 67 2 o L.length (flatE L) ∧ T = L ++ bhL 2 key ptr b (E.drop i') ∧ (b = true → (2 : Int) = 0) ∧ L.length ≤ 2 * i') (fun _ _ i _ => N - (intOf i).toNat)
    case atStart => exact ⟨0, decide ((2 : Int) = 0), [], Nat.zero_le _, rfl, by simp, Below.refl _ _, World.ownsRow_nil _ _ _ _, HT.out, fun h => by simpa using h, Nat.zero_le _⟩
    case round =>
      rename World => wr
      obtain ⟨i, b, L, hil, rfl, rfl, hlow, hown, heq, hbd, hln⟩ := hrel
      have HXwr := Lib.hid hlow
      have HOwr := Lib.hid hown
      have HLn := Lib.hid (show L.length ≤ 16 by omega)
      have HEQ := Lib.hid heq
      by_cases hlt : i < N
      · have hget : E[i]? = some (E.getD i (0, 0)) := by rw [List.getD_eq_getElem?_getD, List.getElem?_eq_getElem (by rw [← HN.out]; exact hlt)]; rfl
        obtain ⟨g, o0, rfl, hcs⟩ := HE1.out (by rw [← HN.out]; omega)
        have hdr : E.drop i = E.getD i (0, 0) :: E.drop (i + 1) := by
          rw [List.drop_eq_getElem_cons (by rw [← HN.out]; exact hlt), List.getD_eq_getElem?_getD, List.getElem?_eq_getElem (by rw [← HN.out]; exact hlt)]
          rfl
        obtain ⟨⟨ek, ep⟩, he⟩ : ∃ e, e = E.getD i (0, 0) := ⟨_, rfl⟩
        rw [← he] at hget hdr
        obtain ⟨q1, q2⟩ := hcs i _ hget
        have HC := Lib.hid (show ∀ W, Below w1.heap.size w1 W → W.cell? ⟨g, o0 + i * 2, none⟩ = some (.int .u64 ek) ∧ W.cell? ⟨g, o0 + i * 2 + 1, none⟩ = some (.int .u64 ep) ∧ W.cell? ⟨w.heap.size + 1, 0, none⟩ = some (.int .i64 k) ∧ W.cell? ⟨w.heap.size + 1, 1, none⟩ = some (.int .u64 key) ∧ W.cell? ⟨w.heap.size + 1, 2, none⟩ = some (.int .u64 ptr) from fun W hb =>
          ⟨(hb.cell (block_lt_of_cell q1)).trans q1, (hb.cell (block_lt_of_cell q2)).trans q2, (HRA1.out.below hb HRA1.out.lt).cell 0, (HRA1.out.below hb HRA1.out.lt).cell 1, (HRA1.out.below hb HRA1.out.lt).cell 2⟩)
        have HDR := Lib.hid hdr
        clear hget hdr he q1 q2 hcs hlow hown heq
        have hb0 : b = false := by cases b with
          | false => rfl
          | true => exact absurd (hbd rfl) (by omega)
        subst hb0
        clear hbd
        go_wp2_with fail
        have z1 := fun q : LowBy wr => (HC.out q.W (low_up9 HXwr.out q.low)).1
        have z2 := fun q : LowBy wr => (HC.out q.W (low_up9 HXwr.out q.low)).2.1
        have z3 := fun q : LowBy wr => (HC.out q.W (low_up9 HXwr.out q.low)).2.2.1
        have z4 := fun q : LowBy wr => (HC.out q.W (low_up9 HXwr.out q.low)).2.2.2.1
        have z5 := fun q : LowBy wr => (HC.out q.W (low_up9 HXwr.out q.low)).2.2.2.2
        refine wp_region_quiet_low (by assumption) (by kernel_rfl) ?_
        repeat (go_big_quiet_step (fail))
        refine wpQuiet_nil ?_
        intro _ hw'
        obtain ⟨q, hw''⟩ := hw'
        subst hw''
        clear z1 z2 z3 z4 z5
        have HXX1 := Lib.hid (low_up9 HXwr.out q.low)
        have HOX1 := Lib.hid (ownS_low HOwr.out q.low)
        obtain ⟨X1, hX1⟩ : ∃ X1, X1 = q.W := ⟨_, rfl⟩
        rw [← hX1] at HXX1 HOX1 ⊢
        clear hX1
        have y1 := (HC.out X1 HXX1.out).1
        have y2 := (HC.out X1 HXX1.out).2.1
        have y3 := (HC.out X1 HXX1.out).2.2.1
        have y4 := (HC.out X1 HXX1.out).2.2.2.1
        have y5 := (HC.out X1 HXX1.out).2.2.2.2
        go_wp2_with (at_builtin; refine wpList_append_own _ rfl _ _ 39 rfl w1.heap.size 67 i0 (.agg #[.int .u64 0, .int .u64 0]) 2 16 Try.underlying39 hi hz0 hz1 hz2 rfl (by decide) _ _ _ rfl (ownS_low HOX1.out (alloc_below9 _ _)) ⟨X1.heap.size, 0, none⟩ 1 1 [.int .u64 ek, .int .u64 ep] rfl ?d2q6_1 ?d2q6_2 ?d2q6_3 ?d2q6_4 ?d2q6_5 ?d2q6_6 ?_)
        case d2q6_1 => rfl
        case d2q6_2 =>
          intro j u hj
          rw [Addr.add_lit, Nat.zero_add, (Row.new _ _ _).cell, ← Array.getElem?_toList]
          exact hj
        case d2q6_3 => first | (intro u hu; simp at hu; rcases hu with rfl | rfl <;> rfl) | exact ⟨rfl, rfl⟩
        case d2q6_4 => have := HLn.out; (try simp only [List.length_append, List.length_cons, List.length_nil]); unfold maxLen; omega
        case d2q6_5 => have := HLn.out; (try simp only [List.length_append, List.length_cons, List.length_nil]); omega
        case d2q6_6 => have := HXX1.out.size; simp; omega
        intro vX9 X9 hown hgrow hnil
        have HXX9 := Lib.hid (show Below w1.heap.size w1 X9 from (HXX1.out.trans ((alloc_below9 X1 _).mono HXX1.out.size)).grown hgrow (by have := HXX1.out.size; simp; omega) (fun g hg => (ownS_from HOX1.out g hg).1))
        have HOX9 := Lib.hid (show X9.ownsRow w1.heap.size 67 2 vX9 (L ++ [(ek, ep)]).length (flatE (L ++ [(ek, ep)])) by rw [flatE_snoc]; simp only [List.length_append, List.length_cons, List.length_nil, Nat.zero_add]; exact hown)
        clear hown hgrow hnil y1 y2 y3 y4 y5
        go_wp2_with fail
        exact ⟨⟨i + 1, false, L ++ [(ek, ep)], by omega, by go_num, rfl, HXX9.out, HOX9.out, bh_step (X := [(ek, ep)]) (b' := false) HEQ.out HDR.out (by simp) rfl, (fun h => by cases h), by (try simp only [List.length_append, List.length_cons, List.length_nil]); have := HLn.out; omega⟩, by simp [intOf]; omega⟩
      · have hiN : i = N := by omega
        have HRt := Lib.hid (show T = L ++ (if b = true then [(key, ptr)] else []) from by
          rw [HEQ.out, hiN, HN.out, List.drop_length]
          rfl)
        have y3 := (HRA1.out.below HXwr.out HRA1.out.lt).cell 1
        have y4 : wr.cell? ⟨w.heap.size + 1, 2, none⟩ = some (.int .u64 ptr) := (HRA1.out.below HXwr.out HRA1.out.lt).cell 2
        have y1 := hlt
        have y2 := hlt
        have y5 := hlt
        clear hlow hown heq hiN
        cases b with
        | false =>
          go_wp2_with fail
          go_ret
          refine ⟨⟨_, rfl, ?_⟩, (low_and HB0.out HB1.out).trans (HXwr.out.mono (low_and HB0.out HB1.out).size)⟩
          rw [HRt.out, if_neg (by simp), List.append_nil]
          exact ownS_mono HOwr.out (low_and HB0.out HB1.out).size
        | true =>
          exact absurd (hbd rfl) (by omega)
  · have t0 : ((IntKind.u64.wrap k).tmod 6 == 0) = false := by rw [← hkd]; rfl
    have t1 : ((IntKind.u64.wrap k).tmod 6 == 1) = false := by rw [← hkd]; rfl
    have t2 : ((IntKind.u64.wrap k).tmod 6 == 2) = false := by rw [← hkd]; rfl
    have t3 : ((IntKind.u64.wrap k).tmod 6 == 3) = true := by rw [← hkd]; rfl
    have t4 : ((IntKind.u64.wrap k).tmod 6 == 4) = false := by rw [← hkd]; rfl
    go_enter Try.func14, Try.ntmps14
    have a0 : Wa.cell? ⟨w.heap.size + 1, 0, none⟩ = some (.int .i64 k) := HRA.out.cell 0
    go_wp2_with (first
      | (rw [← HWa.out]; go_simp)
      | ((with_reducible refine show_loadN9 ?_); refine wpList_load_mid rfl _ _ rfl w.heap.size 0 rfl n.cl _ (ndR HR1.out) Try.underlying27 rfl ndI ?_)
      | (go_at_call 13; refine HV.out.mono ?_; rintro e w1 ⟨⟨v1, rfl, ho1⟩, h1⟩; obtain ⟨A, cap, rfl, hA⟩ := ent_ownG ho1; have HE1 := Lib.hid hA; have HB1 := Lib.hid h1; have HRA1 := Lib.hid (HRA.out.below h1 HRA.out.lt); have b0 : w1.cell? ⟨w.heap.size + 1, 0, none⟩ = some (.int .i64 k) := HRA1.out.cell 0; clear ho1 h1 hA))
    obtain ⟨N, hN⟩ : ∃ N, N = E.length := ⟨_, rfl⟩
    rw [← hN] at hel ⊢
    have HN := Lib.hid hN
    clear hN b0 a0
    go_loopw [6, 7, 8] (fun o b_ i wr => ∃ (i' : Nat) (b : Bool) (L : List (Int × Int)), i' ≤ N ∧ i = .int .i64 (i' : Int) ∧ b_ = .bool b ∧ Below w1.heap.size w1 wr ∧ wr.ownsRow w1.heap.size 67 2 o L.length (flatE L) ∧ T = L ++ bhL 3 key ptr b (E.drop i') ∧ (b = true → (3 : Int) = 0) ∧ L.length ≤ 2 * i') (fun _ _ i _ => N - (intOf i).toNat)
    case atStart => exact ⟨0, decide ((3 : Int) = 0), [], Nat.zero_le _, rfl, by simp, Below.refl _ _, World.ownsRow_nil _ _ _ _, HT.out, fun h => by simpa using h, Nat.zero_le _⟩
    case round =>
      rename World => wr
      obtain ⟨i, b, L, hil, rfl, rfl, hlow, hown, heq, hbd, hln⟩ := hrel
      have HXwr := Lib.hid hlow
      have HOwr := Lib.hid hown
      have HLn := Lib.hid (show L.length ≤ 16 by omega)
      have HEQ := Lib.hid heq
      by_cases hlt : i < N
      · have hget : E[i]? = some (E.getD i (0, 0)) := by rw [List.getD_eq_getElem?_getD, List.getElem?_eq_getElem (by rw [← HN.out]; exact hlt)]; rfl
        obtain ⟨g, o0, rfl, hcs⟩ := HE1.out (by rw [← HN.out]; omega)
        have hdr : E.drop i = E.getD i (0, 0) :: E.drop (i + 1) := by
          rw [List.drop_eq_getElem_cons (by rw [← HN.out]; exact hlt), List.getD_eq_getElem?_getD, List.getElem?_eq_getElem (by rw [← HN.out]; exact hlt)]
          rfl
        obtain ⟨⟨ek, ep⟩, he⟩ : ∃ e, e = E.getD i (0, 0) := ⟨_, rfl⟩
        rw [← he] at hget hdr
        obtain ⟨q1, q2⟩ := hcs i _ hget
        have HC := Lib.hid (show ∀ W, Below w1.heap.size w1 W → W.cell? ⟨g, o0 + i * 2, none⟩ = some (.int .u64 ek) ∧ W.cell? ⟨g, o0 + i * 2 + 1, none⟩ = some (.int .u64 ep) ∧ W.cell? ⟨w.heap.size + 1, 0, none⟩ = some (.int .i64 k) ∧ W.cell? ⟨w.heap.size + 1, 1, none⟩ = some (.int .u64 key) ∧ W.cell? ⟨w.heap.size + 1, 2, none⟩ = some (.int .u64 ptr) from fun W hb =>
          ⟨(hb.cell (block_lt_of_cell q1)).trans q1, (hb.cell (block_lt_of_cell q2)).trans q2, (HRA1.out.below hb HRA1.out.lt).cell 0, (HRA1.out.below hb HRA1.out.lt).cell 1, (HRA1.out.below hb HRA1.out.lt).cell 2⟩)
        have HDR := Lib.hid hdr
        clear hget hdr he q1 q2 hcs hlow hown heq
        have hb0 : b = false := by cases b with
          | false => rfl
          | true => exact absurd (hbd rfl) (by omega)
        subst hb0
        clear hbd
        by_cases hk : ek = key
        · have hkq : (ek == key) = true := by simpa using hk
          go_wp2_with fail
          have z1 := fun q : LowBy wr => (HC.out q.W (low_up9 HXwr.out q.low)).1
          have z2 := fun q : LowBy wr => (HC.out q.W (low_up9 HXwr.out q.low)).2.1
          have z3 := fun q : LowBy wr => (HC.out q.W (low_up9 HXwr.out q.low)).2.2.1
          have z4 := fun q : LowBy wr => (HC.out q.W (low_up9 HXwr.out q.low)).2.2.2.1
          have z5 := fun q : LowBy wr => (HC.out q.W (low_up9 HXwr.out q.low)).2.2.2.2
          refine wp_region_quiet_low (by assumption) (by kernel_rfl) ?_
          repeat (go_big_quiet_step (fail))
          refine wpQuiet_nil ?_
          intro _ hw'
          obtain ⟨q, hw''⟩ := hw'
          subst hw''
          clear z1 z2 z3 z4 z5
          have HXX1 := Lib.hid (low_up9 HXwr.out q.low)
          have HOX1 := Lib.hid (ownS_low HOwr.out q.low)
          obtain ⟨X1, hX1⟩ : ∃ X1, X1 = q.W := ⟨_, rfl⟩
          rw [← hX1] at HXX1 HOX1 ⊢
          clear hX1
          have y1 := (HC.out X1 HXX1.out).1
          have y2 := (HC.out X1 HXX1.out).2.1
          have y3 := (HC.out X1 HXX1.out).2.2.1
          have y4 := (HC.out X1 HXX1.out).2.2.2.1
          have y5 := (HC.out X1 HXX1.out).2.2.2.2
          go_wp2_with fail
          clear y1 y2 y3 y4 y5
          have z1 := fun q : LowBy X1 => (HC.out q.W (low_up9 HXX1.out q.low)).1
          have z2 := fun q : LowBy X1 => (HC.out q.W (low_up9 HXX1.out q.low)).2.1
          have z3 := fun q : LowBy X1 => (HC.out q.W (low_up9 HXX1.out q.low)).2.2.1
          have z4 := fun q : LowBy X1 => (HC.out q.W (low_up9 HXX1.out q.low)).2.2.2.1
          have z5 := fun q : LowBy X1 => (HC.out q.W (low_up9 HXX1.out q.low)).2.2.2.2
          refine wp_region_quiet_low (by assumption) (by kernel_rfl) ?_
          repeat (go_big_quiet_step (fail))
          refine wpQuiet_nil ?_
          intro _ hw'
          obtain ⟨q, hw''⟩ := hw'
          subst hw''
          clear z1 z2 z3 z4 z5
          have HXX3 := Lib.hid (low_up9 HXX1.out q.low)
          have HOX3 := Lib.hid (ownS_low HOX1.out q.low)
          obtain ⟨X3, hX3⟩ : ∃ X3, X3 = q.W := ⟨_, rfl⟩
          rw [← hX3] at HXX3 HOX3 ⊢
          clear hX3
          have y1 := (HC.out X3 HXX3.out).1
          have y2 := (HC.out X3 HXX3.out).2.1
          have y3 := (HC.out X3 HXX3.out).2.2.1
          have y4 := (HC.out X3 HXX3.out).2.2.2.1
          have y5 := (HC.out X3 HXX3.out).2.2.2.2
          go_wp2_with (at_builtin; refine wpList_append_own _ rfl _ _ 39 rfl w1.heap.size 67 i0 (.agg #[.int .u64 0, .int .u64 0]) 2 16 Try.underlying39 hi hz0 hz1 hz2 rfl (by decide) _ _ _ rfl (ownS_low HOX3.out (alloc_below9 _ _)) ⟨X3.heap.size, 0, none⟩ 1 1 [.int .u64 key, .int .u64 ptr] rfl ?d3q7_1 ?d3q7_2 ?d3q7_3 ?d3q7_4 ?d3q7_5 ?d3q7_6 ?_)
          case d3q7_1 => rfl
          case d3q7_2 =>
            intro j u hj
            rw [Addr.add_lit, Nat.zero_add, (Row.new _ _ _).cell, ← Array.getElem?_toList]
            exact hj
          case d3q7_3 => first | (intro u hu; simp at hu; rcases hu with rfl | rfl <;> rfl) | exact ⟨rfl, rfl⟩
          case d3q7_4 => have := HLn.out; (try simp only [List.length_append, List.length_cons, List.length_nil]); unfold maxLen; omega
          case d3q7_5 => have := HLn.out; (try simp only [List.length_append, List.length_cons, List.length_nil]); omega
          case d3q7_6 => have := HXX3.out.size; simp; omega
          intro vX9 X9 hown hgrow hnil
          have HXX9 := Lib.hid (show Below w1.heap.size w1 X9 from (HXX3.out.trans ((alloc_below9 X3 _).mono HXX3.out.size)).grown hgrow (by have := HXX3.out.size; simp; omega) (fun g hg => (ownS_from HOX3.out g hg).1))
          have HOX9 := Lib.hid (show X9.ownsRow w1.heap.size 67 2 vX9 (L ++ [(key, ptr)]).length (flatE (L ++ [(key, ptr)])) by rw [flatE_snoc]; simp only [List.length_append, List.length_cons, List.length_nil, Nat.zero_add]; exact hown)
          clear hown hgrow hnil y1 y2 y3 y4 y5
          go_wp2_with fail
          exact ⟨⟨i + 1, false, L ++ [(key, ptr)], by omega, by go_num, rfl, HXX9.out, HOX9.out, bh_step (X := [(key, ptr)]) (b' := false) HEQ.out HDR.out (by simp [hk]) rfl, (fun h => by cases h), by (try simp only [List.length_append, List.length_cons, List.length_nil]); have := HLn.out; omega⟩, by simp [intOf]; omega⟩
        · have hkq : (ek == key) = false := by simpa using hk
          go_wp2_with fail
          have z1 := fun q : LowBy wr => (HC.out q.W (low_up9 HXwr.out q.low)).1
          have z2 := fun q : LowBy wr => (HC.out q.W (low_up9 HXwr.out q.low)).2.1
          have z3 := fun q : LowBy wr => (HC.out q.W (low_up9 HXwr.out q.low)).2.2.1
          have z4 := fun q : LowBy wr => (HC.out q.W (low_up9 HXwr.out q.low)).2.2.2.1
          have z5 := fun q : LowBy wr => (HC.out q.W (low_up9 HXwr.out q.low)).2.2.2.2
          refine wp_region_quiet_low (by assumption) (by kernel_rfl) ?_
          repeat (go_big_quiet_step (fail))
          refine wpQuiet_nil ?_
          intro _ hw'
          obtain ⟨q, hw''⟩ := hw'
          subst hw''
          clear z1 z2 z3 z4 z5
          have HXX1 := Lib.hid (low_up9 HXwr.out q.low)
          have HOX1 := Lib.hid (ownS_low HOwr.out q.low)
          obtain ⟨X1, hX1⟩ : ∃ X1, X1 = q.W := ⟨_, rfl⟩
          rw [← hX1] at HXX1 HOX1 ⊢
          clear hX1
          have y1 := (HC.out X1 HXX1.out).1
          have y2 := (HC.out X1 HXX1.out).2.1
          have y3 := (HC.out X1 HXX1.out).2.2.1
          have y4 := (HC.out X1 HXX1.out).2.2.2.1
          have y5 := (HC.out X1 HXX1.out).2.2.2.2
          go_wp2_with fail
          clear y1 y2 y3 y4 y5
          have z1 := fun q : LowBy X1 => (HC.out q.W (low_up9 HXX1.out q.low)).1
          have z2 := fun q : LowBy X1 => (HC.out q.W (low_up9 HXX1.out q.low)).2.1
          have z3 := fun q : LowBy X1 => (HC.out q.W (low_up9 HXX1.out q.low)).2.2.1
          have z4 := fun q : LowBy X1 => (HC.out q.W (low_up9 HXX1.out q.low)).2.2.2.1
          have z5 := fun q : LowBy X1 => (HC.out q.W (low_up9 HXX1.out q.low)).2.2.2.2
          refine wp_region_quiet_low (by assumption) (by kernel_rfl) ?_
          repeat (go_big_quiet_step (fail))
          refine wpQuiet_nil ?_
          intro _ hw'
          obtain ⟨q, hw''⟩ := hw'
          subst hw''
          clear z1 z2 z3 z4 z5
          have HXX3 := Lib.hid (low_up9 HXX1.out q.low)
          have HOX3 := Lib.hid (ownS_low HOX1.out q.low)
          obtain ⟨X3, hX3⟩ : ∃ X3, X3 = q.W := ⟨_, rfl⟩
          rw [← hX3] at HXX3 HOX3 ⊢
          clear hX3
          have y1 := (HC.out X3 HXX3.out).1
          have y2 := (HC.out X3 HXX3.out).2.1
          have y3 := (HC.out X3 HXX3.out).2.2.1
          have y4 := (HC.out X3 HXX3.out).2.2.2.1
          have y5 := (HC.out X3 HXX3.out).2.2.2.2
          go_wp2_with (at_builtin; refine wpList_append_own _ rfl _ _ 39 rfl w1.heap.size 67 i0 (.agg #[.int .u64 0, .int .u64 0]) 2 16 Try.underlying39 hi hz0 hz1 hz2 rfl (by decide) _ _ _ rfl (ownS_low HOX3.out (alloc_below9 _ _)) ⟨X3.heap.size, 0, none⟩ 1 1 [.int .u64 ek, .int .u64 ep] rfl ?d3q8_1 ?d3q8_2 ?d3q8_3 ?d3q8_4 ?d3q8_5 ?d3q8_6 ?_)
          case d3q8_1 => rfl
          case d3q8_2 =>
            intro j u hj
            rw [Addr.add_lit, Nat.zero_add, (Row.new _ _ _).cell, ← Array.getElem?_toList]
            exact hj
          case d3q8_3 => first | (intro u hu; simp at hu; rcases hu with rfl | rfl <;> rfl) | exact ⟨rfl, rfl⟩
          case d3q8_4 => have := HLn.out; (try simp only [List.length_append, List.length_cons, List.length_nil]); unfold maxLen; omega
          case d3q8_5 => have := HLn.out; (try simp only [List.length_append, List.length_cons, List.length_nil]); omega
          case d3q8_6 => have := HXX3.out.size; simp; omega
          intro vX9 X9 hown hgrow hnil
          have HXX9 := Lib.hid (show Below w1.heap.size w1 X9 from (HXX3.out.trans ((alloc_below9 X3 _).mono HXX3.out.size)).grown hgrow (by have := HXX3.out.size; simp; omega) (fun g hg => (ownS_from HOX3.out g hg).1))
          have HOX9 := Lib.hid (show X9.ownsRow w1.heap.size 67 2 vX9 (L ++ [(ek, ep)]).length (flatE (L ++ [(ek, ep)])) by rw [flatE_snoc]; simp only [List.length_append, List.length_cons, List.length_nil, Nat.zero_add]; exact hown)
          clear hown hgrow hnil y1 y2 y3 y4 y5
          go_wp2_with fail
          exact ⟨⟨i + 1, false, L ++ [(ek, ep)], by omega, by go_num, rfl, HXX9.out, HOX9.out, bh_step (X := [(ek, ep)]) (b' := false) HEQ.out HDR.out (by simp [hk]) rfl, (fun h => by cases h), by (try simp only [List.length_append, List.length_cons, List.length_nil]); have := HLn.out; omega⟩, by simp [intOf]; omega⟩
      · have hiN : i = N := by omega
        have HRt := Lib.hid (show T = L ++ (if b = true then [(key, ptr)] else []) from by
          rw [HEQ.out, hiN, HN.out, List.drop_length]
          rfl)
        have y3 := (HRA1.out.below HXwr.out HRA1.out.lt).cell 1
        have y4 : wr.cell? ⟨w.heap.size + 1, 2, none⟩ = some (.int .u64 ptr) := (HRA1.out.below HXwr.out HRA1.out.lt).cell 2
        have y1 := hlt
        have y2 := hlt
        have y5 := hlt
        clear hlow hown heq hiN
        cases b with
        | false =>
          go_wp2_with fail
          go_ret
          refine ⟨⟨_, rfl, ?_⟩, (low_and HB0.out HB1.out).trans (HXwr.out.mono (low_and HB0.out HB1.out).size)⟩
          rw [HRt.out, if_neg (by simp), List.append_nil]
          exact ownS_mono HOwr.out (low_and HB0.out HB1.out).size
        | true =>
          exact absurd (hbd rfl) (by omega)
  · have t0 : ((IntKind.u64.wrap k).tmod 6 == 0) = false := by rw [← hkd]; rfl
    have t1 : ((IntKind.u64.wrap k).tmod 6 == 1) = false := by rw [← hkd]; rfl
    have t2 : ((IntKind.u64.wrap k).tmod 6 == 2) = false := by rw [← hkd]; rfl
    have t3 : ((IntKind.u64.wrap k).tmod 6 == 3) = false := by rw [← hkd]; rfl
    have t4 : ((IntKind.u64.wrap k).tmod 6 == 4) = true := by rw [← hkd]; rfl
    go_enter Try.func14, Try.ntmps14
    have a0 : Wa.cell? ⟨w.heap.size + 1, 0, none⟩ = some (.int .i64 k) := HRA.out.cell 0
    go_wp2_with (first
      | (rw [← HWa.out]; go_simp)
      | ((with_reducible refine show_loadN9 ?_); refine wpList_load_mid rfl _ _ rfl w.heap.size 0 rfl n.cl _ (ndR HR1.out) Try.underlying27 rfl ndI ?_)
      | (go_at_call 13; refine HV.out.mono ?_; rintro e w1 ⟨⟨v1, rfl, ho1⟩, h1⟩; obtain ⟨A, cap, rfl, hA⟩ := ent_ownG ho1; have HE1 := Lib.hid hA; have HB1 := Lib.hid h1; have HRA1 := Lib.hid (HRA.out.below h1 HRA.out.lt); have b0 : w1.cell? ⟨w.heap.size + 1, 0, none⟩ = some (.int .i64 k) := HRA1.out.cell 0; clear ho1 h1 hA))
    obtain ⟨N, hN⟩ : ∃ N, N = E.length := ⟨_, rfl⟩
    rw [← hN] at hel ⊢
    have HN := Lib.hid hN
    clear hN b0 a0
    go_loopw [6, 7, 8] (fun o b_ i wr => ∃ (i' : Nat) (b : Bool) (L : List (Int × Int)), i' ≤ N ∧ i = .int .i64 (i' : Int) ∧ b_ = .bool b ∧ Below w1.heap.size w1 wr ∧ wr.ownsRow w1.heap.size 67 2 o L.length (flatE L) ∧ T = L ++ bhL 4 key ptr b (E.drop i') ∧ (b = true → (4 : Int) = 0) ∧ L.length ≤ 2 * i') (fun _ _ i _ => N - (intOf i).toNat)
    case atStart => exact ⟨0, decide ((4 : Int) = 0), [], Nat.zero_le _, rfl, by simp, Below.refl _ _, World.ownsRow_nil _ _ _ _, HT.out, fun h => by simpa using h, Nat.zero_le _⟩
    case round =>
      rename World => wr
      obtain ⟨i, b, L, hil, rfl, rfl, hlow, hown, heq, hbd, hln⟩ := hrel
      have HXwr := Lib.hid hlow
      have HOwr := Lib.hid hown
      have HLn := Lib.hid (show L.length ≤ 16 by omega)
      have HEQ := Lib.hid heq
      by_cases hlt : i < N
      · have hget : E[i]? = some (E.getD i (0, 0)) := by rw [List.getD_eq_getElem?_getD, List.getElem?_eq_getElem (by rw [← HN.out]; exact hlt)]; rfl
        obtain ⟨g, o0, rfl, hcs⟩ := HE1.out (by rw [← HN.out]; omega)
        have hdr : E.drop i = E.getD i (0, 0) :: E.drop (i + 1) := by
          rw [List.drop_eq_getElem_cons (by rw [← HN.out]; exact hlt), List.getD_eq_getElem?_getD, List.getElem?_eq_getElem (by rw [← HN.out]; exact hlt)]
          rfl
        obtain ⟨⟨ek, ep⟩, he⟩ : ∃ e, e = E.getD i (0, 0) := ⟨_, rfl⟩
        rw [← he] at hget hdr
        obtain ⟨q1, q2⟩ := hcs i _ hget
        have HC := Lib.hid (show ∀ W, Below w1.heap.size w1 W → W.cell? ⟨g, o0 + i * 2, none⟩ = some (.int .u64 ek) ∧ W.cell? ⟨g, o0 + i * 2 + 1, none⟩ = some (.int .u64 ep) ∧ W.cell? ⟨w.heap.size + 1, 0, none⟩ = some (.int .i64 k) ∧ W.cell? ⟨w.heap.size + 1, 1, none⟩ = some (.int .u64 key) ∧ W.cell? ⟨w.heap.size + 1, 2, none⟩ = some (.int .u64 ptr) from fun W hb =>
          ⟨(hb.cell (block_lt_of_cell q1)).trans q1, (hb.cell (block_lt_of_cell q2)).trans q2, (HRA1.out.below hb HRA1.out.lt).cell 0, (HRA1.out.below hb HRA1.out.lt).cell 1, (HRA1.out.below hb HRA1.out.lt).cell 2⟩)
        have HDR := Lib.hid hdr
        clear hget hdr he q1 q2 hcs hlow hown heq
        have hb0 : b = false := by cases b with
          | false => rfl
          | true => exact absurd (hbd rfl) (by omega)
        subst hb0
        clear hbd
        by_cases hk : key ≤ ek
        · have hkq : decide (key ≤ ek) = true := by simpa using hk
          go_wp2_with fail
          have z1 := fun q : LowBy wr => (HC.out q.W (low_up9 HXwr.out q.low)).1
          have z2 := fun q : LowBy wr => (HC.out q.W (low_up9 HXwr.out q.low)).2.1
          have z3 := fun q : LowBy wr => (HC.out q.W (low_up9 HXwr.out q.low)).2.2.1
          have z4 := fun q : LowBy wr => (HC.out q.W (low_up9 HXwr.out q.low)).2.2.2.1
          have z5 := fun q : LowBy wr => (HC.out q.W (low_up9 HXwr.out q.low)).2.2.2.2
          refine wp_region_quiet_low (by assumption) (by kernel_rfl) ?_
          repeat (go_big_quiet_step (fail))
          refine wpQuiet_nil ?_
          intro _ hw'
          obtain ⟨q, hw''⟩ := hw'
          subst hw''
          clear z1 z2 z3 z4 z5
          have HXX1 := Lib.hid (low_up9 HXwr.out q.low)
          have HOX1 := Lib.hid (ownS_low HOwr.out q.low)
          obtain ⟨X1, hX1⟩ : ∃ X1, X1 = q.W := ⟨_, rfl⟩
          rw [← hX1] at HXX1 HOX1 ⊢
          clear hX1
          have y1 := (HC.out X1 HXX1.out).1
          have y2 := (HC.out X1 HXX1.out).2.1
          have y3 := (HC.out X1 HXX1.out).2.2.1
          have y4 := (HC.out X1 HXX1.out).2.2.2.1
          have y5 := (HC.out X1 HXX1.out).2.2.2.2
          go_wp2_with fail
          clear y1 y2 y3 y4 y5
          have z1 := fun q : LowBy X1 => (HC.out q.W (low_up9 HXX1.out q.low)).1
          have z2 := fun q : LowBy X1 => (HC.out q.W (low_up9 HXX1.out q.low)).2.1
          have z3 := fun q : LowBy X1 => (HC.out q.W (low_up9 HXX1.out q.low)).2.2.1
          have z4 := fun q : LowBy X1 => (HC.out q.W (low_up9 HXX1.out q.low)).2.2.2.1
          have z5 := fun q : LowBy X1 => (HC.out q.W (low_up9 HXX1.out q.low)).2.2.2.2
          refine wp_region_quiet_low (by assumption) (by kernel_rfl) ?_
          repeat (go_big_quiet_step (fail))
          refine wpQuiet_nil ?_
          intro _ hw'
          obtain ⟨q, hw''⟩ := hw'
          subst hw''
          clear z1 z2 z3 z4 z5
          have HXX3 := Lib.hid (low_up9 HXX1.out q.low)
          have HOX3 := Lib.hid (ownS_low HOX1.out q.low)
          obtain ⟨X3, hX3⟩ : ∃ X3, X3 = q.W := ⟨_, rfl⟩
          rw [← hX3] at HXX3 HOX3 ⊢
          clear hX3
          go_wp2_with fail
          exact ⟨⟨i + 1, false, L, by omega, by go_num, rfl, HXX3.out, HOX3.out, by have := bh_step (X := []) (b' := false) HEQ.out HDR.out (by simp [hk]) rfl; rw [this]; simp, (fun h => by cases h), by (try simp only [List.length_append, List.length_cons, List.length_nil]); have := HLn.out; omega⟩, by simp [intOf]; omega⟩
        · have hkq : decide (key ≤ ek) = false := by simpa using hk
          go_wp2_with fail
          have z1 := fun q : LowBy wr => (HC.out q.W (low_up9 HXwr.out q.low)).1
          have z2 := fun q : LowBy wr => (HC.out q.W (low_up9 HXwr.out q.low)).2.1
          have z3 := fun q : LowBy wr => (HC.out q.W (low_up9 HXwr.out q.low)).2.2.1
          have z4 := fun q : LowBy wr => (HC.out q.W (low_up9 HXwr.out q.low)).2.2.2.1
          have z5 := fun q : LowBy wr => (HC.out q.W (low_up9 HXwr.out q.low)).2.2.2.2
          refine wp_region_quiet_low (by assumption) (by kernel_rfl) ?_
          repeat (go_big_quiet_step (fail))
          refine wpQuiet_nil ?_
          intro _ hw'
          obtain ⟨q, hw''⟩ := hw'
          subst hw''
          clear z1 z2 z3 z4 z5
          have HXX1 := Lib.hid (low_up9 HXwr.out q.low)
          have HOX1 := Lib.hid (ownS_low HOwr.out q.low)
          obtain ⟨X1, hX1⟩ : ∃ X1, X1 = q.W := ⟨_, rfl⟩
          rw [← hX1] at HXX1 HOX1 ⊢
          clear hX1
          have y1 := (HC.out X1 HXX1.out).1
          have y2 := (HC.out X1 HXX1.out).2.1
          have y3 := (HC.out X1 HXX1.out).2.2.1
          have y4 := (HC.out X1 HXX1.out).2.2.2.1
          have y5 := (HC.out X1 HXX1.out).2.2.2.2
          go_wp2_with fail
          clear y1 y2 y3 y4 y5
          have z1 := fun q : LowBy X1 => (HC.out q.W (low_up9 HXX1.out q.low)).1
          have z2 := fun q : LowBy X1 => (HC.out q.W (low_up9 HXX1.out q.low)).2.1
          have z3 := fun q : LowBy X1 => (HC.out q.W (low_up9 HXX1.out q.low)).2.2.1
          have z4 := fun q : LowBy X1 => (HC.out q.W (low_up9 HXX1.out q.low)).2.2.2.1
          have z5 := fun q : LowBy X1 => (HC.out q.W (low_up9 HXX1.out q.low)).2.2.2.2
          refine wp_region_quiet_low (by assumption) (by kernel_rfl) ?_
          repeat (go_big_quiet_step (fail))
          refine wpQuiet_nil ?_
          intro _ hw'
          obtain ⟨q, hw''⟩ := hw'
          subst hw''
          clear z1 z2 z3 z4 z5
          have HXX3 := Lib.hid (low_up9 HXX1.out q.low)
          have HOX3 := Lib.hid (ownS_low HOX1.out q.low)
          obtain ⟨X3, hX3⟩ : ∃ X3, X3 = q.W := ⟨_, rfl⟩
          rw [← hX3] at HXX3 HOX3 ⊢
          clear hX3
          have y1 := (HC.out X3 HXX3.out).1
          have y2 := (HC.out X3 HXX3.out).2.1
          have y3 := (HC.out X3 HXX3.out).2.2.1
          have y4 := (HC.out X3 HXX3.out).2.2.2.1
          have y5 := (HC.out X3 HXX3.out).2.2.2.2
          go_wp2_with (at_builtin; refine wpList_append_own _ rfl _ _ 39 rfl w1.heap.size 67 i0 (.agg #[.int .u64 0, .int .u64 0]) 2 16 Try.underlying39 hi hz0 hz1 hz2 rfl (by decide) _ _ _ rfl (ownS_low HOX3.out (alloc_below9 _ _)) ⟨X3.heap.size, 0, none⟩ 1 1 [.int .u64 ek, .int .u64 ep] rfl ?d4q9_1 ?d4q9_2 ?d4q9_3 ?d4q9_4 ?d4q9_5 ?d4q9_6 ?_)
          case d4q9_1 => rfl
          case d4q9_2 =>
            intro j u hj
            rw [Addr.add_lit, Nat.zero_add, (Row.new _ _ _).cell, ← Array.getElem?_toList]
            exact hj
          case d4q9_3 => first | (intro u hu; simp at hu; rcases hu with rfl | rfl <;> rfl) | exact ⟨rfl, rfl⟩
          case d4q9_4 => have := HLn.out; (try simp only [List.length_append, List.length_cons, List.length_nil]); unfold maxLen; omega
          case d4q9_5 => have := HLn.out; (try simp only [List.length_append, List.length_cons, List.length_nil]); omega
          case d4q9_6 => have := HXX3.out.size; simp; omega
          intro vX9 X9 hown hgrow hnil
          have HXX9 := Lib.hid (show Below w1.heap.size w1 X9 from (HXX3.out.trans ((alloc_below9 X3 _).mono HXX3.out.size)).grown hgrow (by have := HXX3.out.size; simp; omega) (fun g hg => (ownS_from HOX3.out g hg).1))
          have HOX9 := Lib.hid (show X9.ownsRow w1.heap.size 67 2 vX9 (L ++ [(ek, ep)]).length (flatE (L ++ [(ek, ep)])) by rw [flatE_snoc]; simp only [List.length_append, List.length_cons, List.length_nil, Nat.zero_add]; exact hown)
          clear hown hgrow hnil y1 y2 y3 y4 y5
          go_wp2_with fail
          exact ⟨⟨i + 1, false, L ++ [(ek, ep)], by omega, by go_num, rfl, HXX9.out, HOX9.out, bh_step (X := [(ek, ep)]) (b' := false) HEQ.out HDR.out (by simp [hk]) rfl, (fun h => by cases h), by (try simp only [List.length_append, List.length_cons, List.length_nil]); have := HLn.out; omega⟩, by simp [intOf]; omega⟩
      · have hiN : i = N := by omega
        have HRt := Lib.hid (show T = L ++ (if b = true then [(key, ptr)] else []) from by
          rw [HEQ.out, hiN, HN.out, List.drop_length]
          rfl)
        have y3 := (HRA1.out.below HXwr.out HRA1.out.lt).cell 1
        have y4 : wr.cell? ⟨w.heap.size + 1, 2, none⟩ = some (.int .u64 ptr) := (HRA1.out.below HXwr.out HRA1.out.lt).cell 2
        have y1 := hlt
        have y2 := hlt
        have y5 := hlt
        clear hlow hown heq hiN
        cases b with
        | false =>
          go_wp2_with fail
          go_ret
          refine ⟨⟨_, rfl, ?_⟩, (low_and HB0.out HB1.out).trans (HXwr.out.mono (low_and HB0.out HB1.out).size)⟩
          rw [HRt.out, if_neg (by simp), List.append_nil]
          exact ownS_mono HOwr.out (low_and HB0.out HB1.out).size
        | true =>
          exact absurd (hbd rfl) (by omega)
  · have t0 : ((IntKind.u64.wrap k).tmod 6 == 0) = false := by rw [← hkd]; rfl
    have t1 : ((IntKind.u64.wrap k).tmod 6 == 1) = false := by rw [← hkd]; rfl
    have t2 : ((IntKind.u64.wrap k).tmod 6 == 2) = false := by rw [← hkd]; rfl
    have t3 : ((IntKind.u64.wrap k).tmod 6 == 3) = false := by rw [← hkd]; rfl
    have t4 : ((IntKind.u64.wrap k).tmod 6 == 4) = false := by rw [← hkd]; rfl
    go_enter Try.func14, Try.ntmps14
    have a0 : Wa.cell? ⟨w.heap.size + 1, 0, none⟩ = some (.int .i64 k) := HRA.out.cell 0
    go_wp2_with (first
      | (rw [← HWa.out]; go_simp)
      | ((with_reducible refine show_loadN9 ?_); refine wpList_load_mid rfl _ _ rfl w.heap.size 0 rfl n.cl _ (ndR HR1.out) Try.underlying27 rfl ndI ?_)
      | (go_at_call 13; refine HV.out.mono ?_; rintro e w1 ⟨⟨v1, rfl, ho1⟩, h1⟩; obtain ⟨A, cap, rfl, hA⟩ := ent_ownG ho1; have HE1 := Lib.hid hA; have HB1 := Lib.hid h1; have HRA1 := Lib.hid (HRA.out.below h1 HRA.out.lt); have b0 : w1.cell? ⟨w.heap.size + 1, 0, none⟩ = some (.int .i64 k) := HRA1.out.cell 0; clear ho1 h1 hA))
    obtain ⟨N, hN⟩ : ∃ N, N = E.length := ⟨_, rfl⟩
    rw [← hN] at hel ⊢
    have HN := Lib.hid hN
    clear hN b0 a0
    go_loopw [6, 7, 8] (fun o b_ i wr => ∃ (i' : Nat) (b : Bool) (L : List (Int × Int)), i' ≤ N ∧ i = .int .i64 (i' : Int) ∧ b_ = .bool b ∧ Below w1.heap.size w1 wr ∧ wr.ownsRow w1.heap.size 67 2 o L.length (flatE L) ∧ T = L ++ bhL 5 key ptr b (E.drop i') ∧ (b = true → (5 : Int) = 0) ∧ L.length ≤ 2 * i') (fun _ _ i _ => N - (intOf i).toNat)
    case atStart => exact ⟨0, decide ((5 : Int) = 0), [], Nat.zero_le _, rfl, by simp, Below.refl _ _, World.ownsRow_nil _ _ _ _, HT.out, fun h => by simpa using h, Nat.zero_le _⟩
    case round =>
      rename World => wr
      obtain ⟨i, b, L, hil, rfl, rfl, hlow, hown, heq, hbd, hln⟩ := hrel
      have HXwr := Lib.hid hlow
      have HOwr := Lib.hid hown
      have HLn := Lib.hid (show L.length ≤ 16 by omega)
      have HEQ := Lib.hid heq
      by_cases hlt : i < N
      · have hget : E[i]? = some (E.getD i (0, 0)) := by rw [List.getD_eq_getElem?_getD, List.getElem?_eq_getElem (by rw [← HN.out]; exact hlt)]; rfl
        obtain ⟨g, o0, rfl, hcs⟩ := HE1.out (by rw [← HN.out]; omega)
        have hdr : E.drop i = E.getD i (0, 0) :: E.drop (i + 1) := by
          rw [List.drop_eq_getElem_cons (by rw [← HN.out]; exact hlt), List.getD_eq_getElem?_getD, List.getElem?_eq_getElem (by rw [← HN.out]; exact hlt)]
          rfl
        obtain ⟨⟨ek, ep⟩, he⟩ : ∃ e, e = E.getD i (0, 0) := ⟨_, rfl⟩
        rw [← he] at hget hdr
        obtain ⟨q1, q2⟩ := hcs i _ hget
        have HC := Lib.hid (show ∀ W, Below w1.heap.size w1 W → W.cell? ⟨g, o0 + i * 2, none⟩ = some (.int .u64 ek) ∧ W.cell? ⟨g, o0 + i * 2 + 1, none⟩ = some (.int .u64 ep) ∧ W.cell? ⟨w.heap.size + 1, 0, none⟩ = some (.int .i64 k) ∧ W.cell? ⟨w.heap.size + 1, 1, none⟩ = some (.int .u64 key) ∧ W.cell? ⟨w.heap.size + 1, 2, none⟩ = some (.int .u64 ptr) from fun W hb =>
          ⟨(hb.cell (block_lt_of_cell q1)).trans q1, (hb.cell (block_lt_of_cell q2)).trans q2, (HRA1.out.below hb HRA1.out.lt).cell 0, (HRA1.out.below hb HRA1.out.lt).cell 1, (HRA1.out.below hb HRA1.out.lt).cell 2⟩)
        have HDR := Lib.hid hdr
        clear hget hdr he q1 q2 hcs hlow hown heq
        have hb0 : b = false := by cases b with
          | false => rfl
          | true => exact absurd (hbd rfl) (by omega)
        subst hb0
        clear hbd
        go_wp2_with fail
        have z1 := fun q : LowBy wr => (HC.out q.W (low_up9 HXwr.out q.low)).1
        have z2 := fun q : LowBy wr => (HC.out q.W (low_up9 HXwr.out q.low)).2.1
        have z3 := fun q : LowBy wr => (HC.out q.W (low_up9 HXwr.out q.low)).2.2.1
        have z4 := fun q : LowBy wr => (HC.out q.W (low_up9 HXwr.out q.low)).2.2.2.1
        have z5 := fun q : LowBy wr => (HC.out q.W (low_up9 HXwr.out q.low)).2.2.2.2
        refine wp_region_quiet_low (by assumption) (by kernel_rfl) ?_
        repeat (go_big_quiet_step (fail))
        refine wpQuiet_nil ?_
        intro _ hw'
        obtain ⟨q, hw''⟩ := hw'
        subst hw''
        clear z1 z2 z3 z4 z5
        have HXX1 := Lib.hid (low_up9 HXwr.out q.low)
        have HOX1 := Lib.hid (ownS_low HOwr.out q.low)
        obtain ⟨X1, hX1⟩ : ∃ X1, X1 = q.W := ⟨_, rfl⟩
        rw [← hX1] at HXX1 HOX1 ⊢
        clear hX1
        have y1 := (HC.out X1 HXX1.out).1
        have y2 := (HC.out X1 HXX1.out).2.1
        have y3 := (HC.out X1 HXX1.out).2.2.1
        have y4 := (HC.out X1 HXX1.out).2.2.2.1
        have y5 := (HC.out X1 HXX1.out).2.2.2.2
        go_wp2_with (at_builtin; refine wpList_append_own _ rfl _ _ 39 rfl w1.heap.size 67 i0 (.agg #[.int .u64 0, .int .u64 0]) 2 16 Try.underlying39 hi hz0 hz1 hz2 rfl (by decide) _ _ _ rfl (ownS_low HOX1.out (alloc_below9 _ _)) ⟨X1.heap.size, 0, none⟩ 1 1 [.int .u64 ek, .int .u64 ep] rfl ?d5q10_1 ?d5q10_2 ?d5q10_3 ?d5q10_4 ?d5q10_5 ?d5q10_6 ?_)
        case d5q10_1 => rfl
        case d5q10_2 =>
          intro j u hj
          rw [Addr.add_lit, Nat.zero_add, (Row.new _ _ _).cell, ← Array.getElem?_toList]
          exact hj
        case d5q10_3 => first | (intro u hu; simp at hu; rcases hu with rfl | rfl <;> rfl) | exact ⟨rfl, rfl⟩
        case d5q10_4 => have := HLn.out; (try simp only [List.length_append, List.length_cons, List.length_nil]); unfold maxLen; omega
        case d5q10_5 => have := HLn.out; (try simp only [List.length_append, List.length_cons, List.length_nil]); omega
        case d5q10_6 => have := HXX1.out.size; simp; omega
        intro vX9 X9 hown hgrow hnil
        have HXX9 := Lib.hid (show Below w1.heap.size w1 X9 from (HXX1.out.trans ((alloc_below9 X1 _).mono HXX1.out.size)).grown hgrow (by have := HXX1.out.size; simp; omega) (fun g hg => (ownS_from HOX1.out g hg).1))
        have HOX9 := Lib.hid (show X9.ownsRow w1.heap.size 67 2 vX9 (L ++ [(ek, ep)]).length (flatE (L ++ [(ek, ep)])) by rw [flatE_snoc]; simp only [List.length_append, List.length_cons, List.length_nil, Nat.zero_add]; exact hown)
        clear hown hgrow hnil y1 y2 y3 y4 y5
        go_wp2_with fail
        exact ⟨⟨i + 1, false, L ++ [(ek, ep)], by omega, by go_num, rfl, HXX9.out, HOX9.out, bh_step (X := [(ek, ep)]) (b' := false) HEQ.out HDR.out (by simp) rfl, (fun h => by cases h), by (try simp only [List.length_append, List.length_cons, List.length_nil]); have := HLn.out; omega⟩, by simp [intOf]; omega⟩
      · have hiN : i = N := by omega
        have HRt := Lib.hid (show T = L ++ (if b = true then [(key, ptr)] else []) from by
          rw [HEQ.out, hiN, HN.out, List.drop_length]
          rfl)
        have y3 := (HRA1.out.below HXwr.out HRA1.out.lt).cell 1
        have y4 : wr.cell? ⟨w.heap.size + 1, 2, none⟩ = some (.int .u64 ptr) := (HRA1.out.below HXwr.out HRA1.out.lt).cell 2
        have y1 := hlt
        have y2 := hlt
        have y5 := hlt
        clear hlow hown heq hiN
        cases b with
        | false =>
          go_wp2_with fail
          go_ret
          refine ⟨⟨_, rfl, ?_⟩, (low_and HB0.out HB1.out).trans (HXwr.out.mono (low_and HB0.out HB1.out).size)⟩
          rw [HRt.out, if_neg (by simp), List.append_nil]
          exact ownS_mono HOwr.out (low_and HB0.out HB1.out).size
        | true =>
          exact absurd (hbd rfl) (by omega)
end Go.Proofs.Ytbadlmicbbjkaaa
