/- FastTorn: the law is true of any base, any node, any two changes that are asked for, any stop; conditions: numbers of the width. -/
import Derived.Test.YtbadlmicbbjkaaaN9To
import Derived.Test.YtbadlmicbbjkaaaQMid
import Derived.Test.YtbadlmicbbjkaaaPe09
namespace Go.Proofs.Ytbadlmicbbjkaaa
open Go.RowKit
set_option linter.unusedVariables false
set_option linter.unusedSimpArgs false
attribute [local go_sem] Oper.semAt_some
/-- Where the law stands behind the loop: the node, the second change. -/
structure TB (w W : World) (m : Nd) (k key ptr : Int) : Prop where
  nd : NdAt W w.heap.size m
  ask : Row W (w.heap.size + 2) 29 #[.int .i64 k, .int .u64 key, .int .u64 ptr]
  low : Below w.heap.size w W
theorem TB.below {w wr W : World} {m : Nd} {k key ptr : Int} (h : TB w wr m k key ptr) (hb : Below wr.heap.size wr W) : TB w W m k key ptr :=
  ⟨h.nd.below hb h.nd.lt, h.ask.below hb h.ask.lt, h.low.trans (hb.mono h.low.size)⟩
theorem TB.store {w wr : World} {m : Nd} {k key ptr : Int} (h : TB w wr m k key ptr) (m2 : Nd) : TB w (wr.setCells w.heap.size 0 m2.cl) m2 k key ptr :=
  ⟨row_setCells h.nd rfl, row_setCells_other h.ask (by omega) _, setCells_low _ (Nat.le_refl _) h.low⟩
/-- All that the law asks of the second change: what it is, and where no error is told, what it does. -/
theorem torn_data {base : Int} (hb : 0 ≤ base) (m : Nd) (k key ptr : Int) :
    ∃ (l : List (Int × Int)) (E : Int), (∀ W, Calls Try.prog 9 #[.int .u64 base, m.V, .agg #[.int .i64 k, .int .u64 key, .int .u64 ptr]] W (fun e w' => (∃ v, e = .returned (.tuple #[v, .int .i64 E]) ∧ EntAt w' v l) ∧ Below W.heap.size W w')) ∧
      (∀ W, Calls Try.prog 10 #[.int .u64 base, m.V, .agg #[.int .i64 k, .int .u64 key, .int .u64 ptr]] W (fun e w' => (∃ v, e = .returned (.tuple #[v, .int .i64 E])) ∧ Below W.heap.size W w')) ∧ 0 ≤ E ∧ E ≤ 7 ∧
      (E = 0 → ∃ (m3 : Nd) (now : List (Int × Int)), (∀ W v, EntAt W v l → Calls Try.prog 20 #[.int .u64 base, m.V, v] W (fun e w' => e = .returned (.tuple #[m3.V, .int .i64 0]) ∧ Below W.heap.size W w')) ∧
        (∀ W, Calls Try.prog 14 #[m.V, .agg #[.int .i64 k, .int .u64 key, .int .u64 ptr]] W (fun e w' => (∃ v, e = .returned v ∧ w'.ownsRow W.heap.size 67 2 v now.length (flatE now)) ∧ Below W.heap.size W w')) ∧ m3.es = now) := by
  have HM := fun W => made_any hb m k key ptr W
  have HW := fun W => want_any hb m k key ptr W
  obtain ⟨hlen, he0, he7⟩ := askP_ok base m (kd9 k) key ptr
  obtain ⟨hd0, hd6⟩ := kd9_lt k
  obtain ⟨l, E, hR⟩ : ∃ l E, askP base m (kd9 k) key ptr = (l, E) := ⟨_, _, rfl⟩
  rw [hR] at HM HW hlen he0 he7
  refine ⟨l, E, fun W => (HM W).mono ?_, fun W => (HW W).mono ?_, he0, he7, ?_⟩
  · rintro e w' ⟨⟨v, rfl, ho⟩, hb'⟩
    exact ⟨⟨v, rfl, ent_ownG ho⟩, hb'⟩
  · rintro e w' ⟨⟨v, rfl, ho⟩, hb'⟩
    exact ⟨⟨v, rfl⟩, hb'⟩
  · rintro rfl
    obtain ⟨m3, h1, h2, h3, h4⟩ := torn_ask hd0 hd6 hR
    have hlen : l.length ≤ 100 := hlen
    refine ⟨m3, _, fun W v hv => ?_, fun W => behind9_any m k key ptr W, h2⟩
    have := apply_any hb m hv (by omega) h4
    rw [h1] at this
    exact this
/-- What the law asks of a repair. -/
theorem rep_data {base : Int} (hb : 0 ≤ base) (hbk : bOk base = true) {m : Nd} (hm : m.may 0 false = true) (hi : 0 ≤ m.inv) :
    ∃ (l : List (Int × Int)) (m2 : Nd), 0 < l.length ∧ l.length ≤ 18 ∧ (∀ W, Calls Try.prog 21 #[.int .u64 base, m.V] W (fun e w' => (∃ v, e = .returned (.tuple #[v, .int .i64 0]) ∧ w'.ownsRow W.heap.size 45 2 v l.length (flatE l)) ∧ Below W.heap.size W w')) ∧
      (∀ W v, EntAt W v l → Calls Try.prog 20 #[.int .u64 base, m.V, v] W (fun e w' => e = .returned (.tuple #[m2.V, .int .i64 0]) ∧ Below W.heap.size W w')) ∧
      (∀ W, Calls Try.prog 22 #[m2.V] W (fun e w' => e = .returned (.int .i64 (-1)) ∧ Below W.heap.size W w')) ∧ m2.es = m.es := by
  obtain ⟨l, m2, h1, h2, h3, h4, h5, h6, h7⟩ := torn_rep hbk hm hi
  refine ⟨l, m2, h7, h5, fun W => ?_, fun W v hv => ?_, fun W => ?_, h3⟩
  · have := rep_any hb m W
    rw [h1] at this
    exact this
  · have := apply_any hb m hv (by omega) h6
    rw [h2] at this
    exact this
  · have := nInv_any m2 W
    rw [h4] at this
    exact this
theorem wrapq_nn (s : Int) (L : Nat) : 0 ≤ (IntKind.u64.wrap s).tmod ((L : Int) + 1) := by
  rw [IntKind.wrap_u64, Int.tmod_eq_emod_of_nonneg (by omega)]
  exact Int.emod_nonneg _ (by omega)
theorem wrapq_le (s : Int) (L : Nat) (hL : L ≤ 100) : (IntKind.u64.wrap s).tmod ((L : Int) + 1) ≤ 100 := by
  rw [IntKind.wrap_u64, Int.tmod_eq_emod_of_nonneg (by omega)]
  have := Int.emod_lt_of_pos (s % 18446744073709551616) (show (0 : Int) < (L : Int) + 1 by omega)
  omega
set_option maxRecDepth 100000 in
set_option maxHeartbeats 16000000 in
theorem fastTorn_any {base : Int} (hb : 0 ≤ base) (n : Nd) (k key ptr s k2 key2 ptr2 : Int) (w : World) : Calls Try.prog 8 #[.int .u64 base, n.V, .agg #[.int .i64 k, .int .u64 key, .int .u64 ptr], .int .i64 s, .agg #[.int .i64 k2, .int .u64 key2, .int .u64 ptr2]] w fun e w' => e = .returned (.bool true) ∧ Below w.heap.size w w' := by
  have r0 := Row.new w 27 n.cl.toArray
  have hx1 := alloc_low (w.alloc (.cells n.cl.toArray 27)) (.cells #[.int .i64 k, .int .u64 key, .int .u64 ptr] 29)
  have ra := Row.new (w.alloc (.cells n.cl.toArray 27)) 29 #[.int .i64 k, .int .u64 key, .int .u64 ptr]
  have hx2 := alloc_low ((w.alloc (.cells n.cl.toArray 27)).alloc (.cells #[.int .i64 k, .int .u64 key, .int .u64 ptr] 29)) (.cells #[.int .i64 k2, .int .u64 key2, .int .u64 ptr2] 29)
  have rb := Row.new ((w.alloc (.cells n.cl.toArray 27)).alloc (.cells #[.int .i64 k, .int .u64 key, .int .u64 ptr] 29)) 29 #[.int .i64 k2, .int .u64 key2, .int .u64 ptr2]
  have r1 := (r0.below hx1 r0.lt).below hx2 (r0.below hx1 r0.lt).lt
  have ra := ra.below hx2 ra.lt
  rw [show (w.alloc (.cells n.cl.toArray 27)).heap.size = w.heap.size + 1 by simp] at ra
  rw [show ((w.alloc (.cells n.cl.toArray 27)).alloc (.cells #[.int .i64 k, .int .u64 key, .int .u64 ptr] 29)).heap.size = w.heap.size + 2 by simp] at rb
  have hb0 := low_and (low_and (alloc_low w (.cells n.cl.toArray 27)) hx1) hx2
  obtain ⟨Wa, hWa⟩ : ∃ Wa, Wa = ((w.alloc (.cells n.cl.toArray 27)).alloc (.cells #[.int .i64 k, .int .u64 key, .int .u64 ptr] 29)).alloc (.cells #[.int .i64 k2, .int .u64 key2, .int .u64 ptr2] 29) := ⟨_, rfl⟩
  have hsa : Wa.heap.size = w.heap.size + 3 := by rw [hWa]; simp
  rw [← hWa] at r1 ra rb hb0
  have HR1 := Lib.hid (show NdAt Wa w.heap.size n from r1)
  have HRA := Lib.hid ra
  have HRB := Lib.hid rb
  have a0 : Wa.cell? ⟨w.heap.size + 1, 0, none⟩ = some (.int .i64 k) := ra.cell 0
  have a1 : Wa.cell? ⟨w.heap.size + 1, 1, none⟩ = some (.int .u64 key) := ra.cell 1
  have a2 : Wa.cell? ⟨w.heap.size + 1, 2, none⟩ = some (.int .u64 ptr) := ra.cell 2
  have HB0 := Lib.hid hb0
  have HWa := Lib.hid hWa
  have HSA := Lib.hid hsa
  have HK := Lib.hid (fun W' => n9known_any W')
  have HM0 := fun W' => made_any hb n k key ptr W'
  obtain ⟨hlen, he0, he7⟩ := askP_ok base n (kd9 k) key ptr
  obtain ⟨hd0, hd6⟩ := kd9_lt k
  obtain ⟨l, E, hR⟩ : ∃ l E, askP base n (kd9 k) key ptr = (l, E) := ⟨_, _, rfl⟩
  rw [hR] at HM0 hlen he0 he7
  have hlen : l.length ≤ 100 := hlen
  have he0 : 0 ≤ E := he0
  have he7 : E ≤ 7 := he7
  obtain ⟨d, hd⟩ : ∃ d, d = kd9 k := ⟨_, rfl⟩
  rw [← hd] at hR hd0 hd6
  have HM := Lib.hid (fun W' => (show Calls Try.prog 9 #[.int .u64 base, n.V, .agg #[.int .i64 k, .int .u64 key, .int .u64 ptr]] W' (fun e w' => (∃ v, e = .returned (.tuple #[v, .int .i64 E]) ∧ w'.ownsRow W'.heap.size 45 2 v l.length (flatE l)) ∧ Below W'.heap.size W' w') from HM0 W'))
  clear hWa hb0 r0 r1 ra rb hx1 hx2 HM0 hd hsa
  by_cases hE : E = 0
  · subst hE
    obtain ⟨hbok, hpos⟩ := ask_bok hd0 hd6 hR
    obtain ⟨J, hW, hEf, hJn⟩ := ask_way hd0 hd6 hR
    obtain ⟨L, hL⟩ : ∃ L, L = l.length := ⟨_, rfl⟩
    have HL := Lib.hid hL
    have HPos := Lib.hid hpos
    have HWj := Lib.hid hW
    have HBok := Lib.hid hbok
    have EGa := Lib.hid (enters_of Try.func15 (by kernel_rfl) rfl)
    have EGn := Lib.hid (enters_of Try.func23 (by kernel_rfl) rfl)
    have EGb := Lib.hid (enters_of Try.func14 (by kernel_rfl) rfl)
    have EGs := Lib.hid (enters_of Try.func17 (by kernel_rfl) rfl)
    have EGk := Lib.hid (enters_of Try.func12 (by kernel_rfl) rfl)
    have mixed : Try.prog.follows .mixedOrders = true := by kernel_rfl
    rw [← hL] at hlen HM
    clear hL hW hbok hpos hR hJn hEf
    have hq0 : 0 ≤ (IntKind.u64.wrap s).tmod ((L : Int) + 1) := wrapq_nn s L
    have hq1 : (IntKind.u64.wrap s).tmod ((L : Int) + 1) ≤ 100 := wrapq_le s L hlen
    go_enter Try.func8, Try.ntmps8
    go_wp2_with (first
      | (rw [← HWa.out]; go_simp)
      | ((with_reducible refine show_loadN9 ?_); refine wpList_load_mid rfl _ _ rfl w.heap.size 0 rfl n.cl _ (ndR HR1.out) Try.underlying27 rfl ndI ?_)
      | (go_at_call 9; refine (HM.out _).mono ?_; rintro e w1 ⟨⟨v1, rfl, ho1⟩, h1⟩; obtain ⟨g, cap, rfl, hg1, hg2, hcs⟩ := puts_cells (l := l) (by rw [← HL.out]; exact ho1) HPos.out; rw [← HL.out]; have HLE := Lib.hid (show LA9 w w1 base n k key ptr l g 0 n from ⟨HR1.out.below h1 HR1.out.lt, rfl, HRA.out.below h1 HRA.out.lt, hcs, by have := HSA.out; omega, hg2, low_and HB0.out h1⟩); have HBE := Lib.hid (HRB.out.below h1 HRB.out.lt); clear ho1 h1 hg1 hg2 hcs))
    go_loopw [13] (fun i wr => ∃ (i' : Nat) (m : Nd), i' ≤ L ∧ i = .int .i64 (i' : Int) ∧ LA9 w wr base n k key ptr l g i' m ∧ Row wr (w.heap.size + 2) 29 #[.int .i64 k2, .int .u64 key2, .int .u64 ptr2]) (fun i _ => L - (intOf i).toNat)
    case atStart => exact ⟨0, n, Nat.zero_le _, rfl, HLE.out, HBE.out⟩
    case round =>
      rename World => wr
      obtain ⟨i, m, hi, rfl, hle, hbr⟩ := hrel
      have HLr := Lib.hid hle
      have HBr := Lib.hid hbr
      obtain ⟨mm, hmm, hmm2, _⟩ := HWj.out.at_ i (by rw [← HL.out]; exact hi)
      rw [hle.apd] at hmm
      cases hmm
      have HMay := Lib.hid hmm2.1
      clear hmm2
      by_cases hlt : i < L
      · have p1 : decide ((i : Int) < (L : Int)) = true := by rw [decide_eq_true_eq]; omega
        by_cases hlq : (i : Int) < (IntKind.u64.wrap s).tmod ((L : Int) + 1)
        · have p2 : decide ((i : Int) < (IntKind.u64.wrap s).tmod ((L : Int) + 1)) = true := decide_eq_true hlq
          obtain ⟨hm1, hes1, m2, ⟨sA, sV⟩, hs, hap2, _, hm2, hes2, hapR⟩ := LA9.step HWj.out HBok.out (by rw [← HL.out]; exact hlt) hle.apd
          obtain ⟨f1, f2⟩ := flatE_at l i _ hs
          have c1 := hle.cells _ _ f1
          have c2 := hle.cells _ _ f2
          have ca := fun p : LowBy wr => p.cell c1
          have cb := fun p : LowBy wr => p.cell c2
          have hRn := Lib.hid (fun (w' : World) (h : ∃ p : LowBy wr, w' = p.W) => (show w'.rangeAt w.heap.size 0 m.cl by obtain ⟨p, rfl⟩ := h; exact ndR (HLr.out.below p.low).nd))
          have HAp := Lib.hid (fun W' => (show Calls Try.prog 15 #[.int .u64 base, m.V, .agg #[.int .u64 sA, .int .u64 sV]] W' (fun e w' => e = .returned (.tuple #[m2.V, .int .i64 0]) ∧ Below W'.heap.size W' w') from by
            have := r9apply_any hb m sA sV W'
            rw [hapR] at this
            exact this))
          have HAP2 := Lib.hid hap2
          have hgl := hle.glt
          clear hle hbr hm1 hes1 hs hap2 hm2 hes2 hapR f1 f2 c1 c2
          go_wp2_with fail
          refine wp_region_quiet_mid (C := fun w' => ∃ p : LowBy wr, w' = p.W) 6 (firstM 6 11) (by assumption) (by kernel_rfl) ⟨⟨wr.drew, (Below.refl _ wr).drew⟩, rfl⟩ ?_
          simp only [List.take_succ_cons, List.take_zero]
          repeat (first | go_big_quiet_skip | (go_big_quiet_want; first | (refine quiet_load_mid 27 _ rfl w.heap.size 0 rfl m.cl _ hRn.out Try.underlying27 rfl ndI ?_; simp only [Act.put, List.setIfInBounds_toArray, List.set_cons_succ, List.set_cons_zero]; go_big_quiet_on) | (go_big_quiet_op; go_big_quiet_on)))
          refine wpQuiet_nil ?_
          intro _ hw'
          obtain ⟨q, hw''⟩ := hw'
          subst hw''
          have HL2 := Lib.hid (HLr.out.below q.low)
          have HB2 := Lib.hid (HBr.out.below q.low HBr.out.lt)
          clear ca cb hRn
          generalize q.W = w2 at *
          change wpAny _ _ _ _ 5 _ _ _
          refine wpAny_ready (rs := [6]) (by kernel_rfl) (by simp) ?_
          refine AllReady.cons rfl (fun K hK => ?_) AllReady.nil
          refine step_calls (by rfl) 15 EGa.out [.tmp 54, .tmp 55, .tmp 59] _ rfl [.int .u64 base, m.V, .agg #[.int .u64 sA, .int .u64 sV]] rfl (HAp.out _) ?_
          rintro e w3 ⟨rfl, h3⟩
          have HL3 := Lib.hid (HL2.out.below h3)
          have HB3 := Lib.hid (HB2.out.below h3 HB2.out.lt)
          refine ⟨_, rfl, hK _ _ ?_⟩
          clear hK K h3
          (try simp only [Act.put, List.setIfInBounds_toArray, List.set_cons_zero, List.set_cons_succ])
          refine wpAny_take (i := 7) (oi := ⟨some 53, _, _, _, _, _⟩) (v := .tuple #[m2.V, .int .i64 0]) rfl (by kernel_rfl) (by kernel_rfl) (by kernel_rfl) (fun _ _ _ h => h) (Or.inl ⟨by kernel_rfl, by intro w; go_simp⟩) ?_
          simp only [Act.put, List.setIfInBounds_toArray, List.set_cons_zero, List.set_cons_succ]
          refine wpAny_take (i := 8) (oi := ⟨some 61, _, _, _, _, _⟩) (v := m2.V) rfl (by kernel_rfl) (by kernel_rfl) (by kernel_rfl) (fun _ _ _ h => h) (Or.inl ⟨by kernel_rfl, by intro w; go_simp⟩) ?_
          simp only [Act.put, List.setIfInBounds_toArray, List.set_cons_zero, List.set_cons_succ]
          refine wpAny_take (i := 9) (oi := ⟨some 62, _, _, _, _, _⟩) (v := .int .i64 0) rfl (by kernel_rfl) (by kernel_rfl) (by kernel_rfl) (fun _ _ _ h => h) (Or.inl ⟨by kernel_rfl, by intro w; go_simp⟩) ?_
          simp only [Act.put, List.setIfInBounds_toArray, List.set_cons_zero, List.set_cons_succ]
          refine wpAny_ready (rs := [10]) (by kernel_rfl) (by simp) ?_
          refine AllReady.cons rfl (fun K hK => ?_) AllReady.nil
          rw [if_pos (by rfl)]
          refine wp_store_mid 27 _ _ rfl w.heap.size 0 m2.cl.toArray rfl rfl (row_there HL3.out.nd (Nat.le_refl 21)) ndI (all_oneCell_toArray (cl_one _)) ?_
          refine hK _ _ ?_
          clear hK K
          (try simp only [Act.put, List.setIfInBounds_toArray, List.set_cons_zero, List.set_cons_succ])
          have HL4 := Lib.hid (HL3.out.store HAP2.out)
          have HB4 := Lib.hid (row_setCells_other HB3.out (show w.heap.size ≠ w.heap.size + 2 by omega) m2.cl)
          refine wpAny_done (by kernel_rfl) ?_ _
          generalize w3.setCells w.heap.size 0 m2.cl = W4 at *
          go_wp2_with fail
          exact ⟨⟨i + 1, m2, by omega, by go_num, HL4.out, HB4.out⟩, by simp [intOf]; omega⟩
        · have p2 : decide ((i : Int) < (IntKind.u64.wrap s).tmod ((L : Int) + 1)) = false := by rw [decide_eq_false_iff_not]; exact hlq
          clear hle hbr
          have HTr := Lib.hid (show TB w wr m k2 key2 ptr2 from ⟨HLr.out.nd, HBr.out, HLr.out.low⟩)
          have hwl : w.heap.size < wr.heap.size := HLr.out.nd.lt
          obtain ⟨iv, hiv⟩ : ∃ iv, iv = m.inv := ⟨_, rfl⟩
          have HIV := Lib.hid (fun W => (show Calls Try.prog 18 #[m.V] W (fun e w' => e = .returned (.int .i64 iv) ∧ Below W.heap.size W w') from by rw [hiv]; exact r8Inv_any m W))
          by_cases hge : 0 ≤ iv
          · obtain ⟨l9, m9, hp9, hl9, hR9, hA9, hI9, he9⟩ := rep_data hb HBok.out HMay.out (by rw [← hiv]; exact hge)
            have HP9 := Lib.hid hp9
            have HR9 := Lib.hid hR9
            have HA9 := Lib.hid hA9
            have HI9 := Lib.hid hI9
            have HS9 := Lib.hid (fun (W : World) (v v' : Value) (h : EntAt W v m9.es) (h' : EntAt W v' m.es) => (show Calls Try.prog 17 #[v, v'] W (fun e w' => e = .returned (.bool true) ∧ Below W.heap.size W w') from same_is h h' (by have := m9.es_len; omega) (by have := m.es_len; omega) (by rw [he9]; simp)))
            have q1 : decide (0 ≤ iv) = true := decide_eq_true hge
            obtain ⟨L9, hL9⟩ : ∃ L9, L9 = l9.length := ⟨_, rfl⟩
            have HL9 := Lib.hid hL9
            rw [← hL9] at hl9
            have q4 : decide (18 < (L9 : Int)) = false := by rw [decide_eq_false_iff_not]; omega
            clear hp9 hR9 hA9 hI9 he9 hiv hL9
            obtain ⟨l2, E2, hM2, hW2, hE20, hE27, hz2⟩ := torn_data hb m9 k2 key2 ptr2
            have HM2 := Lib.hid hM2
            have HW2 := Lib.hid hW2
            have HZ2 := Lib.hid hz2
            clear hM2 hW2 hz2
            by_cases hE2 : E2 = 0
            · subst hE2
              obtain ⟨m3, now, hA3, hB3, he3⟩ := HZ2.out rfl
              have hnl3 : now.length ≤ 8 := by rw [← he3]; exact m3.es_len
              have HA3 := Lib.hid hA3
              have HB3 := Lib.hid hB3
              have HS3 := Lib.hid (fun (W : World) (v v' : Value) (h : EntAt W v m3.es) (h' : EntAt W v' now) => (show Calls Try.prog 17 #[v, v'] W (fun e w' => e = .returned (.bool true) ∧ Below W.heap.size W w') from same_is h h' (by rw [he3]; omega) (by omega) (by rw [he3]; simp)))
              clear hA3 hB3 he3
              go_wp2_with (first
                | ((with_reducible refine show_loadN9 ?_); refine load_mg9 (by rfl) _ _ rfl w.heap.size 0 rfl m9.cl _ (ndR HT20.out.nd) Try.underlying27 rfl ndI ?_)
                | ((with_reducible refine show_loadN9 ?_); refine load_mg9 (by rfl) _ _ rfl w.heap.size 0 rfl m9.cl _ (ndR HT21.out.nd) Try.underlying27 rfl ndI ?_)
                | ((with_reducible refine show_loadN9 ?_); refine load_mg9 (by rfl) _ _ rfl w.heap.size 0 rfl m9.cl _ (ndR HT22.out.nd) Try.underlying27 rfl ndI ?_)
                | (go_at_call 9; refine (HM2.out _).mono ?_; rintro e w21 ⟨⟨v21, rfl, ho21⟩, h21⟩; have HT21 := Lib.hid (HT20.out.below h21); have HE21 := Lib.hid ho21; have b0_w21 : w21.cell? ⟨w.heap.size + 2, 0, none⟩ = some (.int .i64 k2) := HT21.out.ask.cell 0; have b1_w21 : w21.cell? ⟨w.heap.size + 2, 1, none⟩ = some (.int .u64 key2) := HT21.out.ask.cell 1; have b2_w21 : w21.cell? ⟨w.heap.size + 2, 2, none⟩ = some (.int .u64 ptr2) := HT21.out.ask.cell 2; clear ho21 h21)
                | (go_at_call 10; refine (HW2.out _).mono ?_; rintro e w22 ⟨⟨v22, rfl⟩, h22⟩; have HT22 := Lib.hid (HT21.out.below h22); have HE22 := Lib.hid (HE21.out.low h22); clear h22)
                | (go_at_call 20; refine (HA3.out _ _ HE22.out).mono ?_; rintro e w23 ⟨rfl, h23⟩; have HT23 := Lib.hid (HT22.out.below h23); clear h23)
                | ((with_reducible refine show_storeN9 ?_); refine wpList_store_row rfl _ _ _ rfl w23.heap.size m3.cl rfl rfl (Row.new w23 27 zeroNd.cl.toArray) rfl ndI (cl_one _) ?_; obtain ⟨W24, hW24, hn24, hb24⟩ := store_gen9 w23 m3; rw [← hW24]; have HT24 := Lib.hid (HT23.out.below hb24); have HN24 := Lib.hid hn24; clear hW24 hn24 hb24)
                | ((with_reducible refine show_loadN9 ?_); refine load_mg9 (by rfl) _ _ rfl w.heap.size 0 rfl m.cl _ (ndR HTr.out.nd) Try.underlying27 rfl ndI ?_)
                | ((with_reducible refine show_loadN9 ?_); refine load_mg9 (by rfl) _ _ rfl w.heap.size 0 rfl m.cl _ (ndR HT3.out.nd) Try.underlying27 rfl ndI ?_)
                | ((with_reducible refine show_loadN9 ?_); refine load_mg9 (by rfl) _ _ rfl w.heap.size 0 rfl m.cl _ (ndR HT4.out.nd) Try.underlying27 rfl ndI ?_)
                | ((with_reducible refine show_loadN9 ?_); refine load_mg9 (by rfl) _ _ rfl w.heap.size 0 rfl m.cl _ (ndR HT5.out.nd) Try.underlying27 rfl ndI ?_)
                | ((with_reducible refine show_loadN9 ?_); refine load_mg9 (by rfl) _ _ rfl w6.heap.size 0 rfl m9.cl _ (ndR HN7.out) Try.underlying27 rfl ndI ?_)
                | ((with_reducible refine show_loadN9 ?_); refine load_mg9 (by rfl) _ _ rfl w6.heap.size 0 rfl m9.cl _ (ndR HN8.out) Try.underlying27 rfl ndI ?_)
                | ((with_reducible refine show_loadN9 ?_); refine load_mg9 (by rfl) _ _ rfl w6.heap.size 0 rfl m9.cl _ (ndR HN10.out) Try.underlying27 rfl ndI ?_)
                | (go_at_call 13; refine (r8Valid_any m _).mono ?_; rintro e w3 ⟨⟨v3, rfl, ho3⟩, h3⟩; have HO3 := Lib.hid (show OwnE w.heap.size w3 v3 m.es from ⟨_, hwl, ho3⟩); have HT3 := Lib.hid (HTr.out.below h3); clear ho3 h3)
                | (go_at_call 18; refine (HIV.out _).mono ?_; rintro e w4 ⟨rfl, h4⟩; have HT4 := Lib.hid (HT3.out.below h4); have HO4 := Lib.hid (HO3.out.low h4); clear h4)
                | (go_at_call 21; refine (HR9.out _).mono ?_; rintro e w5 ⟨⟨v5, rfl, ho5⟩, h5⟩; have he5 := ent_ownG ho5; obtain ⟨g5, cap5, rfl, hg5, hg6, hcs5⟩ := puts_cells ho5 HP9.out; rw [← HL9.out] at he5 ⊢; have HE5 := Lib.hid he5; have HT5 := Lib.hid (HT4.out.below h5); have HO5 := Lib.hid (HO4.out.low h5); clear ho5 h5 he5 hg5 hg6 hcs5)
                | (go_at_call 20; refine (HA9.out _ _ HE5.out).mono ?_; rintro e w6 ⟨rfl, h6⟩; have HT6 := Lib.hid (HT5.out.below h6); have HO6 := Lib.hid (HO5.out.low h6); clear h6)
                | ((with_reducible refine show_storeN9 ?_); refine wpList_store_row rfl _ _ _ rfl w6.heap.size m9.cl rfl rfl (Row.new w6 27 zeroNd.cl.toArray) rfl ndI (cl_one _) ?_; obtain ⟨w7, hw7, hn7, hb7⟩ := store_gen9 w6 m9; rw [← hw7]; have HT7 := Lib.hid (HT6.out.below hb7); have HO7 := Lib.hid (HO6.out.low hb7); have HN7 := Lib.hid hn7; clear hw7 hn7 hb7)
                | (go_at_call 22; refine (HI9.out _).mono ?_; rintro e w8 ⟨rfl, h8⟩; have HT8 := Lib.hid (HT7.out.below h8); have HO8 := Lib.hid (HO7.out.low h8); have HN8 := Lib.hid (HN7.out.below h8 HN7.out.lt); clear h8)
                | (go_at_call 23; refine (nValid_any m9 _).mono ?_; rintro e w9 ⟨⟨v9, rfl, ho9⟩, h9⟩; have HT9 := Lib.hid (HT8.out.below h9); have HO9 := Lib.hid (HO8.out.low h9); have HE9 := Lib.hid (ent_ownG ho9); have HN9 := Lib.hid (HN8.out.below h9 HN8.out.lt); clear ho9 h9)
                | (go_at_call 17; refine (HS9.out _ _ _ HE9.out HO9.out.ent).mono ?_; rintro e w10 ⟨rfl, h10⟩; have HT10 := Lib.hid (HT9.out.below h10); have HN10 := Lib.hid (HN9.out.below h10 HN9.out.lt); clear h10)
                | ((with_reducible refine show_storeN9 ?_); refine wpList_store_row rfl _ _ _ rfl w.heap.size m9.cl rfl rfl HT10.out.nd rfl ndI (cl_one _) ?_; have HT20 := Lib.hid (HT10.out.store m9); obtain ⟨W0, hW0⟩ : ∃ W0, W0 = w10.setCells w.heap.size 0 m9.cl := ⟨_, rfl⟩; rw [← hW0] at HT20 ⊢; clear hW0; have b0_W0 : W0.cell? ⟨w.heap.size + 2, 0, none⟩ = some (.int .i64 k2) := HT20.out.ask.cell 0; have b1_W0 : W0.cell? ⟨w.heap.size + 2, 1, none⟩ = some (.int .u64 key2) := HT20.out.ask.cell 1; have b2_W0 : W0.cell? ⟨w.heap.size + 2, 2, none⟩ = some (.int .u64 ptr2) := HT20.out.ask.cell 2))
              have HSq := Lib.hid (show ∀ W, Below W24.heap.size W24 W → NdAt W w23.heap.size m3 ∧ NdAt W w.heap.size m9 ∧ W.cell? ⟨w.heap.size + 2, 0, none⟩ = some (.int .i64 k2) ∧ W.cell? ⟨w.heap.size + 2, 1, none⟩ = some (.int .u64 key2) ∧ W.cell? ⟨w.heap.size + 2, 2, none⟩ = some (.int .u64 ptr2) from fun W hb => ⟨HN24.out.below hb HN24.out.lt, (HT24.out.below hb).nd, (HT24.out.below hb).ask.cell 0, (HT24.out.below hb).ask.cell 1, (HT24.out.below hb).ask.cell 2⟩)
              refine wp_region_held_drew (S := fun W' => NdAt W' w23.heap.size m3 ∧ NdAt W' w.heap.size m9 ∧ W'.cell? ⟨w.heap.size + 2, 0, none⟩ = some (.int .i64 k2) ∧ W'.cell? ⟨w.heap.size + 2, 1, none⟩ = some (.int .u64 key2) ∧ W'.cell? ⟨w.heap.size + 2, 2, none⟩ = some (.int .u64 ptr2)) (by kernel_rfl) (HSq.out _ (drew_low9 _)) (fun hHeld => ?_)
              refine wpAnyH_take (i := 0) (oi := ⟨some 132, _, _, _, _, _⟩) (v := .int .i64 0) rfl (by kernel_rfl) (by kernel_rfl) (by kernel_rfl) (fun _ _ _ h => h) (Or.inl ⟨by rfl, by intro WW hSw; (try dsimp only at hSw); go_simp⟩) (by assumption) ?_
              (try simp only [Act.put, List.setIfInBounds_toArray, List.set_cons_zero, List.set_cons_succ])
              refine wpAnyH_take (i := 1) (oi := ⟨some 133, _, _, _, _, _⟩) (v := .bool true) rfl (by kernel_rfl) (by kernel_rfl) (by kernel_rfl) (fun _ _ _ h => h) (Or.inl ⟨by rfl, by intro WW hSw; (try dsimp only at hSw); go_simp⟩) (by assumption) ?_
              (try simp only [Act.put, List.setIfInBounds_toArray, List.set_cons_zero, List.set_cons_succ])
              refine wpAnyH_take (i := 2) (oi := ⟨some 134, _, _, _, _, _⟩) (v := .bool true) rfl (by kernel_rfl) (by kernel_rfl) (by kernel_rfl) (fun _ _ _ h => h) (Or.inl ⟨by rfl, by intro WW hSw; (try dsimp only at hSw); go_simp⟩) (by assumption) ?_
              (try simp only [Act.put, List.setIfInBounds_toArray, List.set_cons_zero, List.set_cons_succ])
              refine wpAnyH_take (i := 3) (oi := ⟨some 135, _, _, _, _, _⟩) (v := .agg m3.cl.toArray) rfl (by kernel_rfl) (by kernel_rfl) (by kernel_rfl) (fun _ _ _ h => h) (yieldsIf_load_mid (by rfl) _ _ rfl w23.heap.size 0 rfl m3.cl _ (fun w' hw' => ndR hw'.1) Try.underlying27 rfl ndI) (by assumption) ?_
              (try simp only [Act.put, List.setIfInBounds_toArray, List.set_cons_zero, List.set_cons_succ])
              refine wpAnyH_take (i := 5) (oi := ⟨some 137, _, _, _, _, _⟩) (v := .agg m9.cl.toArray) rfl (by kernel_rfl) (by kernel_rfl) (by kernel_rfl) (fun _ _ _ h => h) (yieldsIf_load_mid (by rfl) _ _ rfl w.heap.size 0 rfl m9.cl _ (fun w' hw' => ndR hw'.2.1) Try.underlying27 rfl ndI) (by assumption) ?_
              (try simp only [Act.put, List.setIfInBounds_toArray, List.set_cons_zero, List.set_cons_succ])
              refine wpAnyH_take (i := 6) (oi := ⟨some 138, _, _, _, _, _⟩) (v := .agg #[.int .i64 k2, .int .u64 key2, .int .u64 ptr2]) rfl (by kernel_rfl) (by kernel_rfl) (by kernel_rfl) (fun _ _ _ h => h) (Or.inl ⟨by rfl, by intro WW hSw; (try dsimp only at hSw); go_simp⟩) (by assumption) ?_
              (try simp only [Act.put, List.setIfInBounds_toArray, List.set_cons_zero, List.set_cons_succ])
              refine wpAnyH_one (i := 4) (oi := ⟨some 136, _, _, _, _, _⟩) rfl (by kernel_rfl) (fun K hK => ?_)
              refine step_calls (by rfl) 23 EGn.out [.tmp 135] _ rfl [m3.V] rfl (nValid_any m3 _) ?_
              rintro e w25 ⟨⟨v25, rfl, ho25⟩, h25⟩
              have HE25 := Lib.hid (ent_ownG ho25)
              clear ho25
              refine ⟨_, rfl, hK _ _ (HSq.out _ (low_and (drew_low9 W24) h25)) (fun hSn => ?_)⟩
              clear hK K
              (try simp only [Act.put, List.setIfInBounds_toArray, List.set_cons_zero, List.set_cons_succ])
              refine wpAnyH_one (i := 7) (oi := ⟨some 139, _, _, _, _, _⟩) rfl (by kernel_rfl) (fun K hK => ?_)
              refine step_calls (by rfl) 14 EGb.out [.tmp 137, .tmp 138] _ rfl [m9.V, .agg #[.int .i64 k2, .int .u64 key2, .int .u64 ptr2]] rfl (HB3.out _) ?_
              rintro e w26 ⟨⟨v26, rfl, ho26⟩, h26⟩
              have HE26 := Lib.hid (ent_ownG ho26)
              have HE256 := Lib.hid (HE25.out.low h26)
              clear ho26
              refine ⟨_, rfl, hK _ _ (HSq.out _ (low_and (low_and (drew_low9 W24) h25) h26)) (fun hSn => ?_)⟩
              clear hK K
              (try simp only [Act.put, List.setIfInBounds_toArray, List.set_cons_zero, List.set_cons_succ])
              refine wpAnyH_one (i := 8) (oi := ⟨some 140, _, _, _, _, _⟩) rfl (by kernel_rfl) (fun K hK => ?_)
              refine step_calls (by rfl) 17 EGs.out [.tmp 136, .tmp 139] _ rfl [v25, v26] rfl (HS3.out _ _ _ HE256.out HE26.out) ?_
              rintro e w27 ⟨rfl, h27⟩
              refine ⟨_, rfl, hK _ _ (HSq.out _ (low_and (low_and (low_and (drew_low9 W24) h25) h26) h27)) (fun hSn => ?_)⟩
              clear hK K
              (try simp only [Act.put, List.setIfInBounds_toArray, List.set_cons_zero, List.set_cons_succ])
              refine wpAnyH_take (i := 9) (oi := ⟨some 141, _, _, _, _, _⟩) (v := .bool true) rfl (by kernel_rfl) (by kernel_rfl) (by kernel_rfl) (fun _ _ _ h => h) (Or.inl ⟨by rfl, by intro WW hSw; (try dsimp only at hSw); go_simp⟩) (by assumption) ?_
              (try simp only [Act.put, List.setIfInBounds_toArray, List.set_cons_zero, List.set_cons_succ])
              refine wpAnyH_take (i := 10) (oi := ⟨some 142, _, _, _, _, _⟩) (v := .bool true) rfl (by kernel_rfl) (by kernel_rfl) (by kernel_rfl) (fun _ _ _ h => h) (Or.inl ⟨by rfl, by intro WW hSw; (try dsimp only at hSw); go_simp⟩) (by assumption) ?_
              (try simp only [Act.put, List.setIfInBounds_toArray, List.set_cons_zero, List.set_cons_succ])
              refine wpAnyH_one (i := 11) (oi := ⟨some 143, _, _, _, _, _⟩) rfl (by kernel_rfl) (fun K hK => ?_)
              refine step_calls (by rfl) 12 EGk.out [] _ rfl [] rfl (HK.out _) ?_
              rintro e w28 ⟨rfl, h28⟩
              have HB28 := Lib.hid (low_and (low_and (low_and (low_and (drew_low9 W24) h25) h26) h27) h28)
              refine ⟨_, rfl, hK _ _ (HSq.out _ (low_and (low_and (low_and (low_and (drew_low9 W24) h25) h26) h27) h28)) (fun hSn => ?_)⟩
              clear hK K
              (try simp only [Act.put, List.setIfInBounds_toArray, List.set_cons_zero, List.set_cons_succ])
              refine wpAnyH_take (i := 12) (oi := ⟨some 144, _, _, _, _, _⟩) (v := .bool true) rfl (by kernel_rfl) (by kernel_rfl) (by kernel_rfl) (fun _ _ _ h => h) (Or.inl ⟨by rfl, by intro WW hSw; (try dsimp only at hSw); go_simp⟩) (by assumption) ?_
              (try simp only [Act.put, List.setIfInBounds_toArray, List.set_cons_zero, List.set_cons_succ])
              refine wpAnyH_take (i := 13) (oi := ⟨some 10, _, _, _, _, _⟩) (v := .bool true) rfl (by kernel_rfl) (by kernel_rfl) (by kernel_rfl) (fun _ _ _ h => h) (Or.inl ⟨by rfl, by intro WW hSw; (try dsimp only at hSw); go_simp⟩) (by assumption) ?_
              (try simp only [Act.put, List.setIfInBounds_toArray, List.set_cons_zero, List.set_cons_succ])
              refine wpAnyH_done (by kernel_rfl) ?_ _
              go_wp2
              go_ret
              exact ⟨rfl, low_and HT24.out.low HB28.out⟩
            · have hE21 : (E2 != 0) = true := by simpa using hE2
              go_wp2_with (first
                | ((with_reducible refine show_loadN9 ?_); refine load_mg9 (by rfl) _ _ rfl w.heap.size 0 rfl m9.cl _ (ndR HT20.out.nd) Try.underlying27 rfl ndI ?_)
                | ((with_reducible refine show_loadN9 ?_); refine load_mg9 (by rfl) _ _ rfl w.heap.size 0 rfl m9.cl _ (ndR HT21.out.nd) Try.underlying27 rfl ndI ?_)
                | (go_at_call 9; refine (HM2.out _).mono ?_; rintro e w21 ⟨⟨v21, rfl, ho21⟩, h21⟩; have HT21 := Lib.hid (HT20.out.below h21); have b0_w21 : w21.cell? ⟨w.heap.size + 2, 0, none⟩ = some (.int .i64 k2) := HT21.out.ask.cell 0; have b1_w21 : w21.cell? ⟨w.heap.size + 2, 1, none⟩ = some (.int .u64 key2) := HT21.out.ask.cell 1; have b2_w21 : w21.cell? ⟨w.heap.size + 2, 2, none⟩ = some (.int .u64 ptr2) := HT21.out.ask.cell 2; clear ho21 h21)
                | (go_at_call 10; refine (HW2.out _).mono ?_; rintro e w22 ⟨⟨v22, rfl⟩, h22⟩; have HT22 := Lib.hid (HT21.out.below h22); clear h22)
                | (go_at_call 12; refine (HK.out _).mono ?_; rintro e w23 ⟨rfl, h23⟩; have HT23 := Lib.hid (HT22.out.below h23); clear h23)
                | ((with_reducible refine show_loadN9 ?_); refine load_mg9 (by rfl) _ _ rfl w.heap.size 0 rfl m.cl _ (ndR HTr.out.nd) Try.underlying27 rfl ndI ?_)
                | ((with_reducible refine show_loadN9 ?_); refine load_mg9 (by rfl) _ _ rfl w.heap.size 0 rfl m.cl _ (ndR HT3.out.nd) Try.underlying27 rfl ndI ?_)
                | ((with_reducible refine show_loadN9 ?_); refine load_mg9 (by rfl) _ _ rfl w.heap.size 0 rfl m.cl _ (ndR HT4.out.nd) Try.underlying27 rfl ndI ?_)
                | ((with_reducible refine show_loadN9 ?_); refine load_mg9 (by rfl) _ _ rfl w.heap.size 0 rfl m.cl _ (ndR HT5.out.nd) Try.underlying27 rfl ndI ?_)
                | ((with_reducible refine show_loadN9 ?_); refine load_mg9 (by rfl) _ _ rfl w6.heap.size 0 rfl m9.cl _ (ndR HN7.out) Try.underlying27 rfl ndI ?_)
                | ((with_reducible refine show_loadN9 ?_); refine load_mg9 (by rfl) _ _ rfl w6.heap.size 0 rfl m9.cl _ (ndR HN8.out) Try.underlying27 rfl ndI ?_)
                | ((with_reducible refine show_loadN9 ?_); refine load_mg9 (by rfl) _ _ rfl w6.heap.size 0 rfl m9.cl _ (ndR HN10.out) Try.underlying27 rfl ndI ?_)
                | (go_at_call 13; refine (r8Valid_any m _).mono ?_; rintro e w3 ⟨⟨v3, rfl, ho3⟩, h3⟩; have HO3 := Lib.hid (show OwnE w.heap.size w3 v3 m.es from ⟨_, hwl, ho3⟩); have HT3 := Lib.hid (HTr.out.below h3); clear ho3 h3)
                | (go_at_call 18; refine (HIV.out _).mono ?_; rintro e w4 ⟨rfl, h4⟩; have HT4 := Lib.hid (HT3.out.below h4); have HO4 := Lib.hid (HO3.out.low h4); clear h4)
                | (go_at_call 21; refine (HR9.out _).mono ?_; rintro e w5 ⟨⟨v5, rfl, ho5⟩, h5⟩; have he5 := ent_ownG ho5; obtain ⟨g5, cap5, rfl, hg5, hg6, hcs5⟩ := puts_cells ho5 HP9.out; rw [← HL9.out] at he5 ⊢; have HE5 := Lib.hid he5; have HT5 := Lib.hid (HT4.out.below h5); have HO5 := Lib.hid (HO4.out.low h5); clear ho5 h5 he5 hg5 hg6 hcs5)
                | (go_at_call 20; refine (HA9.out _ _ HE5.out).mono ?_; rintro e w6 ⟨rfl, h6⟩; have HT6 := Lib.hid (HT5.out.below h6); have HO6 := Lib.hid (HO5.out.low h6); clear h6)
                | ((with_reducible refine show_storeN9 ?_); refine wpList_store_row rfl _ _ _ rfl w6.heap.size m9.cl rfl rfl (Row.new w6 27 zeroNd.cl.toArray) rfl ndI (cl_one _) ?_; obtain ⟨w7, hw7, hn7, hb7⟩ := store_gen9 w6 m9; rw [← hw7]; have HT7 := Lib.hid (HT6.out.below hb7); have HO7 := Lib.hid (HO6.out.low hb7); have HN7 := Lib.hid hn7; clear hw7 hn7 hb7)
                | (go_at_call 22; refine (HI9.out _).mono ?_; rintro e w8 ⟨rfl, h8⟩; have HT8 := Lib.hid (HT7.out.below h8); have HO8 := Lib.hid (HO7.out.low h8); have HN8 := Lib.hid (HN7.out.below h8 HN7.out.lt); clear h8)
                | (go_at_call 23; refine (nValid_any m9 _).mono ?_; rintro e w9 ⟨⟨v9, rfl, ho9⟩, h9⟩; have HT9 := Lib.hid (HT8.out.below h9); have HO9 := Lib.hid (HO8.out.low h9); have HE9 := Lib.hid (ent_ownG ho9); have HN9 := Lib.hid (HN8.out.below h9 HN8.out.lt); clear ho9 h9)
                | (go_at_call 17; refine (HS9.out _ _ _ HE9.out HO9.out.ent).mono ?_; rintro e w10 ⟨rfl, h10⟩; have HT10 := Lib.hid (HT9.out.below h10); have HN10 := Lib.hid (HN9.out.below h10 HN9.out.lt); clear h10)
                | ((with_reducible refine show_storeN9 ?_); refine wpList_store_row rfl _ _ _ rfl w.heap.size m9.cl rfl rfl HT10.out.nd rfl ndI (cl_one _) ?_; have HT20 := Lib.hid (HT10.out.store m9); obtain ⟨W0, hW0⟩ : ∃ W0, W0 = w10.setCells w.heap.size 0 m9.cl := ⟨_, rfl⟩; rw [← hW0] at HT20 ⊢; clear hW0; have b0_W0 : W0.cell? ⟨w.heap.size + 2, 0, none⟩ = some (.int .i64 k2) := HT20.out.ask.cell 0; have b1_W0 : W0.cell? ⟨w.heap.size + 2, 1, none⟩ = some (.int .u64 key2) := HT20.out.ask.cell 1; have b2_W0 : W0.cell? ⟨w.heap.size + 2, 2, none⟩ = some (.int .u64 ptr2) := HT20.out.ask.cell 2))
              go_ret
              exact ⟨rfl, HT23.out.low⟩
          · have q1 : decide (0 ≤ iv) = false := by rw [decide_eq_false_iff_not]; exact hge
            clear hiv
            obtain ⟨l2, E2, hM2, hW2, hE20, hE27, hz2⟩ := torn_data hb m k2 key2 ptr2
            have HM2 := Lib.hid hM2
            have HW2 := Lib.hid hW2
            have HZ2 := Lib.hid hz2
            clear hM2 hW2 hz2
            by_cases hE2 : E2 = 0
            · subst hE2
              obtain ⟨m3, now, hA3, hB3, he3⟩ := HZ2.out rfl
              have hnl3 : now.length ≤ 8 := by rw [← he3]; exact m3.es_len
              have HA3 := Lib.hid hA3
              have HB3 := Lib.hid hB3
              have HS3 := Lib.hid (fun (W : World) (v v' : Value) (h : EntAt W v m3.es) (h' : EntAt W v' now) => (show Calls Try.prog 17 #[v, v'] W (fun e w' => e = .returned (.bool true) ∧ Below W.heap.size W w') from same_is h h' (by rw [he3]; omega) (by omega) (by rw [he3]; simp)))
              clear hA3 hB3 he3
              go_wp2_with (first
                | ((with_reducible refine show_loadN9 ?_); refine load_mg9 (by rfl) _ _ rfl w.heap.size 0 rfl m.cl _ (ndR HT20.out.nd) Try.underlying27 rfl ndI ?_)
                | ((with_reducible refine show_loadN9 ?_); refine load_mg9 (by rfl) _ _ rfl w.heap.size 0 rfl m.cl _ (ndR HT21.out.nd) Try.underlying27 rfl ndI ?_)
                | ((with_reducible refine show_loadN9 ?_); refine load_mg9 (by rfl) _ _ rfl w.heap.size 0 rfl m.cl _ (ndR HT22.out.nd) Try.underlying27 rfl ndI ?_)
                | (go_at_call 9; refine (HM2.out _).mono ?_; rintro e w21 ⟨⟨v21, rfl, ho21⟩, h21⟩; have HT21 := Lib.hid (HT20.out.below h21); have HE21 := Lib.hid ho21; have b0_w21 : w21.cell? ⟨w.heap.size + 2, 0, none⟩ = some (.int .i64 k2) := HT21.out.ask.cell 0; have b1_w21 : w21.cell? ⟨w.heap.size + 2, 1, none⟩ = some (.int .u64 key2) := HT21.out.ask.cell 1; have b2_w21 : w21.cell? ⟨w.heap.size + 2, 2, none⟩ = some (.int .u64 ptr2) := HT21.out.ask.cell 2; clear ho21 h21)
                | (go_at_call 10; refine (HW2.out _).mono ?_; rintro e w22 ⟨⟨v22, rfl⟩, h22⟩; have HT22 := Lib.hid (HT21.out.below h22); have HE22 := Lib.hid (HE21.out.low h22); clear h22)
                | (go_at_call 20; refine (HA3.out _ _ HE22.out).mono ?_; rintro e w23 ⟨rfl, h23⟩; have HT23 := Lib.hid (HT22.out.below h23); clear h23)
                | ((with_reducible refine show_storeN9 ?_); refine wpList_store_row rfl _ _ _ rfl w23.heap.size m3.cl rfl rfl (Row.new w23 27 zeroNd.cl.toArray) rfl ndI (cl_one _) ?_; obtain ⟨W24, hW24, hn24, hb24⟩ := store_gen9 w23 m3; rw [← hW24]; have HT24 := Lib.hid (HT23.out.below hb24); have HN24 := Lib.hid hn24; clear hW24 hn24 hb24)
                | ((with_reducible refine show_loadN9 ?_); refine load_mg9 (by rfl) _ _ rfl w.heap.size 0 rfl m.cl _ (ndR HTr.out.nd) Try.underlying27 rfl ndI ?_)
                | ((with_reducible refine show_loadN9 ?_); refine load_mg9 (by rfl) _ _ rfl w.heap.size 0 rfl m.cl _ (ndR HT3.out.nd) Try.underlying27 rfl ndI ?_)
                | (go_at_call 13; refine (r8Valid_any m _).mono ?_; rintro e w3 ⟨⟨v3, rfl, ho3⟩, h3⟩; have HO3 := Lib.hid (show OwnE w.heap.size w3 v3 m.es from ⟨_, hwl, ho3⟩); have HT3 := Lib.hid (HTr.out.below h3); clear ho3 h3)
                | (go_at_call 18; refine (HIV.out _).mono ?_; rintro e w4 ⟨rfl, h4⟩; have HT4 := Lib.hid (HT3.out.below h4); have HO4 := Lib.hid (HO3.out.low h4); have HT20 := HT4; have b0_w4 : w4.cell? ⟨w.heap.size + 2, 0, none⟩ = some (.int .i64 k2) := HT4.out.ask.cell 0; have b1_w4 : w4.cell? ⟨w.heap.size + 2, 1, none⟩ = some (.int .u64 key2) := HT4.out.ask.cell 1; have b2_w4 : w4.cell? ⟨w.heap.size + 2, 2, none⟩ = some (.int .u64 ptr2) := HT4.out.ask.cell 2; clear h4))
              have HSq := Lib.hid (show ∀ W, Below W24.heap.size W24 W → NdAt W w23.heap.size m3 ∧ NdAt W w.heap.size m ∧ W.cell? ⟨w.heap.size + 2, 0, none⟩ = some (.int .i64 k2) ∧ W.cell? ⟨w.heap.size + 2, 1, none⟩ = some (.int .u64 key2) ∧ W.cell? ⟨w.heap.size + 2, 2, none⟩ = some (.int .u64 ptr2) from fun W hb => ⟨HN24.out.below hb HN24.out.lt, (HT24.out.below hb).nd, (HT24.out.below hb).ask.cell 0, (HT24.out.below hb).ask.cell 1, (HT24.out.below hb).ask.cell 2⟩)
              refine wp_region_held_drew (S := fun W' => NdAt W' w23.heap.size m3 ∧ NdAt W' w.heap.size m ∧ W'.cell? ⟨w.heap.size + 2, 0, none⟩ = some (.int .i64 k2) ∧ W'.cell? ⟨w.heap.size + 2, 1, none⟩ = some (.int .u64 key2) ∧ W'.cell? ⟨w.heap.size + 2, 2, none⟩ = some (.int .u64 ptr2)) (by kernel_rfl) (HSq.out _ (drew_low9 _)) (fun hHeld => ?_)
              refine wpAnyH_take (i := 0) (oi := ⟨some 132, _, _, _, _, _⟩) (v := .int .i64 0) rfl (by kernel_rfl) (by kernel_rfl) (by kernel_rfl) (fun _ _ _ h => h) (Or.inl ⟨by rfl, by intro WW hSw; (try dsimp only at hSw); go_simp⟩) (by assumption) ?_
              (try simp only [Act.put, List.setIfInBounds_toArray, List.set_cons_zero, List.set_cons_succ])
              refine wpAnyH_take (i := 1) (oi := ⟨some 133, _, _, _, _, _⟩) (v := .bool true) rfl (by kernel_rfl) (by kernel_rfl) (by kernel_rfl) (fun _ _ _ h => h) (Or.inl ⟨by rfl, by intro WW hSw; (try dsimp only at hSw); go_simp⟩) (by assumption) ?_
              (try simp only [Act.put, List.setIfInBounds_toArray, List.set_cons_zero, List.set_cons_succ])
              refine wpAnyH_take (i := 2) (oi := ⟨some 134, _, _, _, _, _⟩) (v := .bool true) rfl (by kernel_rfl) (by kernel_rfl) (by kernel_rfl) (fun _ _ _ h => h) (Or.inl ⟨by rfl, by intro WW hSw; (try dsimp only at hSw); go_simp⟩) (by assumption) ?_
              (try simp only [Act.put, List.setIfInBounds_toArray, List.set_cons_zero, List.set_cons_succ])
              refine wpAnyH_take (i := 3) (oi := ⟨some 135, _, _, _, _, _⟩) (v := .agg m3.cl.toArray) rfl (by kernel_rfl) (by kernel_rfl) (by kernel_rfl) (fun _ _ _ h => h) (yieldsIf_load_mid (by rfl) _ _ rfl w23.heap.size 0 rfl m3.cl _ (fun w' hw' => ndR hw'.1) Try.underlying27 rfl ndI) (by assumption) ?_
              (try simp only [Act.put, List.setIfInBounds_toArray, List.set_cons_zero, List.set_cons_succ])
              refine wpAnyH_take (i := 5) (oi := ⟨some 137, _, _, _, _, _⟩) (v := .agg m.cl.toArray) rfl (by kernel_rfl) (by kernel_rfl) (by kernel_rfl) (fun _ _ _ h => h) (yieldsIf_load_mid (by rfl) _ _ rfl w.heap.size 0 rfl m.cl _ (fun w' hw' => ndR hw'.2.1) Try.underlying27 rfl ndI) (by assumption) ?_
              (try simp only [Act.put, List.setIfInBounds_toArray, List.set_cons_zero, List.set_cons_succ])
              refine wpAnyH_take (i := 6) (oi := ⟨some 138, _, _, _, _, _⟩) (v := .agg #[.int .i64 k2, .int .u64 key2, .int .u64 ptr2]) rfl (by kernel_rfl) (by kernel_rfl) (by kernel_rfl) (fun _ _ _ h => h) (Or.inl ⟨by rfl, by intro WW hSw; (try dsimp only at hSw); go_simp⟩) (by assumption) ?_
              (try simp only [Act.put, List.setIfInBounds_toArray, List.set_cons_zero, List.set_cons_succ])
              refine wpAnyH_one (i := 4) (oi := ⟨some 136, _, _, _, _, _⟩) rfl (by kernel_rfl) (fun K hK => ?_)
              refine step_calls (by rfl) 23 EGn.out [.tmp 135] _ rfl [m3.V] rfl (nValid_any m3 _) ?_
              rintro e w25 ⟨⟨v25, rfl, ho25⟩, h25⟩
              have HE25 := Lib.hid (ent_ownG ho25)
              clear ho25
              refine ⟨_, rfl, hK _ _ (HSq.out _ (low_and (drew_low9 W24) h25)) (fun hSn => ?_)⟩
              clear hK K
              (try simp only [Act.put, List.setIfInBounds_toArray, List.set_cons_zero, List.set_cons_succ])
              refine wpAnyH_one (i := 7) (oi := ⟨some 139, _, _, _, _, _⟩) rfl (by kernel_rfl) (fun K hK => ?_)
              refine step_calls (by rfl) 14 EGb.out [.tmp 137, .tmp 138] _ rfl [m.V, .agg #[.int .i64 k2, .int .u64 key2, .int .u64 ptr2]] rfl (HB3.out _) ?_
              rintro e w26 ⟨⟨v26, rfl, ho26⟩, h26⟩
              have HE26 := Lib.hid (ent_ownG ho26)
              have HE256 := Lib.hid (HE25.out.low h26)
              clear ho26
              refine ⟨_, rfl, hK _ _ (HSq.out _ (low_and (low_and (drew_low9 W24) h25) h26)) (fun hSn => ?_)⟩
              clear hK K
              (try simp only [Act.put, List.setIfInBounds_toArray, List.set_cons_zero, List.set_cons_succ])
              refine wpAnyH_one (i := 8) (oi := ⟨some 140, _, _, _, _, _⟩) rfl (by kernel_rfl) (fun K hK => ?_)
              refine step_calls (by rfl) 17 EGs.out [.tmp 136, .tmp 139] _ rfl [v25, v26] rfl (HS3.out _ _ _ HE256.out HE26.out) ?_
              rintro e w27 ⟨rfl, h27⟩
              refine ⟨_, rfl, hK _ _ (HSq.out _ (low_and (low_and (low_and (drew_low9 W24) h25) h26) h27)) (fun hSn => ?_)⟩
              clear hK K
              (try simp only [Act.put, List.setIfInBounds_toArray, List.set_cons_zero, List.set_cons_succ])
              refine wpAnyH_take (i := 9) (oi := ⟨some 141, _, _, _, _, _⟩) (v := .bool true) rfl (by kernel_rfl) (by kernel_rfl) (by kernel_rfl) (fun _ _ _ h => h) (Or.inl ⟨by rfl, by intro WW hSw; (try dsimp only at hSw); go_simp⟩) (by assumption) ?_
              (try simp only [Act.put, List.setIfInBounds_toArray, List.set_cons_zero, List.set_cons_succ])
              refine wpAnyH_take (i := 10) (oi := ⟨some 142, _, _, _, _, _⟩) (v := .bool true) rfl (by kernel_rfl) (by kernel_rfl) (by kernel_rfl) (fun _ _ _ h => h) (Or.inl ⟨by rfl, by intro WW hSw; (try dsimp only at hSw); go_simp⟩) (by assumption) ?_
              (try simp only [Act.put, List.setIfInBounds_toArray, List.set_cons_zero, List.set_cons_succ])
              refine wpAnyH_one (i := 11) (oi := ⟨some 143, _, _, _, _, _⟩) rfl (by kernel_rfl) (fun K hK => ?_)
              refine step_calls (by rfl) 12 EGk.out [] _ rfl [] rfl (HK.out _) ?_
              rintro e w28 ⟨rfl, h28⟩
              have HB28 := Lib.hid (low_and (low_and (low_and (low_and (drew_low9 W24) h25) h26) h27) h28)
              refine ⟨_, rfl, hK _ _ (HSq.out _ (low_and (low_and (low_and (low_and (drew_low9 W24) h25) h26) h27) h28)) (fun hSn => ?_)⟩
              clear hK K
              (try simp only [Act.put, List.setIfInBounds_toArray, List.set_cons_zero, List.set_cons_succ])
              refine wpAnyH_take (i := 12) (oi := ⟨some 144, _, _, _, _, _⟩) (v := .bool true) rfl (by kernel_rfl) (by kernel_rfl) (by kernel_rfl) (fun _ _ _ h => h) (Or.inl ⟨by rfl, by intro WW hSw; (try dsimp only at hSw); go_simp⟩) (by assumption) ?_
              (try simp only [Act.put, List.setIfInBounds_toArray, List.set_cons_zero, List.set_cons_succ])
              refine wpAnyH_take (i := 13) (oi := ⟨some 10, _, _, _, _, _⟩) (v := .bool true) rfl (by kernel_rfl) (by kernel_rfl) (by kernel_rfl) (fun _ _ _ h => h) (Or.inl ⟨by rfl, by intro WW hSw; (try dsimp only at hSw); go_simp⟩) (by assumption) ?_
              (try simp only [Act.put, List.setIfInBounds_toArray, List.set_cons_zero, List.set_cons_succ])
              refine wpAnyH_done (by kernel_rfl) ?_ _
              go_wp2
              go_ret
              exact ⟨rfl, low_and HT24.out.low HB28.out⟩
            · have hE21 : (E2 != 0) = true := by simpa using hE2
              go_wp2_with (first
                | ((with_reducible refine show_loadN9 ?_); refine load_mg9 (by rfl) _ _ rfl w.heap.size 0 rfl m.cl _ (ndR HT20.out.nd) Try.underlying27 rfl ndI ?_)
                | ((with_reducible refine show_loadN9 ?_); refine load_mg9 (by rfl) _ _ rfl w.heap.size 0 rfl m.cl _ (ndR HT21.out.nd) Try.underlying27 rfl ndI ?_)
                | (go_at_call 9; refine (HM2.out _).mono ?_; rintro e w21 ⟨⟨v21, rfl, ho21⟩, h21⟩; have HT21 := Lib.hid (HT20.out.below h21); have b0_w21 : w21.cell? ⟨w.heap.size + 2, 0, none⟩ = some (.int .i64 k2) := HT21.out.ask.cell 0; have b1_w21 : w21.cell? ⟨w.heap.size + 2, 1, none⟩ = some (.int .u64 key2) := HT21.out.ask.cell 1; have b2_w21 : w21.cell? ⟨w.heap.size + 2, 2, none⟩ = some (.int .u64 ptr2) := HT21.out.ask.cell 2; clear ho21 h21)
                | (go_at_call 10; refine (HW2.out _).mono ?_; rintro e w22 ⟨⟨v22, rfl⟩, h22⟩; have HT22 := Lib.hid (HT21.out.below h22); clear h22)
                | (go_at_call 12; refine (HK.out _).mono ?_; rintro e w23 ⟨rfl, h23⟩; have HT23 := Lib.hid (HT22.out.below h23); clear h23)
                | ((with_reducible refine show_loadN9 ?_); refine load_mg9 (by rfl) _ _ rfl w.heap.size 0 rfl m.cl _ (ndR HTr.out.nd) Try.underlying27 rfl ndI ?_)
                | ((with_reducible refine show_loadN9 ?_); refine load_mg9 (by rfl) _ _ rfl w.heap.size 0 rfl m.cl _ (ndR HT3.out.nd) Try.underlying27 rfl ndI ?_)
                | (go_at_call 13; refine (r8Valid_any m _).mono ?_; rintro e w3 ⟨⟨v3, rfl, ho3⟩, h3⟩; have HO3 := Lib.hid (show OwnE w.heap.size w3 v3 m.es from ⟨_, hwl, ho3⟩); have HT3 := Lib.hid (HTr.out.below h3); clear ho3 h3)
                | (go_at_call 18; refine (HIV.out _).mono ?_; rintro e w4 ⟨rfl, h4⟩; have HT4 := Lib.hid (HT3.out.below h4); have HO4 := Lib.hid (HO3.out.low h4); have HT20 := HT4; have b0_w4 : w4.cell? ⟨w.heap.size + 2, 0, none⟩ = some (.int .i64 k2) := HT4.out.ask.cell 0; have b1_w4 : w4.cell? ⟨w.heap.size + 2, 1, none⟩ = some (.int .u64 key2) := HT4.out.ask.cell 1; have b2_w4 : w4.cell? ⟨w.heap.size + 2, 2, none⟩ = some (.int .u64 ptr2) := HT4.out.ask.cell 2; clear h4))
              go_ret
              exact ⟨rfl, HT23.out.low⟩
      · have p1 : decide ((i : Int) < (L : Int)) = false := by rw [decide_eq_false_iff_not]; omega
        clear hle hbr
        have HTr := Lib.hid (show TB w wr m k2 key2 ptr2 from ⟨HLr.out.nd, HBr.out, HLr.out.low⟩)
        have hwl : w.heap.size < wr.heap.size := HLr.out.nd.lt
        obtain ⟨iv, hiv⟩ : ∃ iv, iv = m.inv := ⟨_, rfl⟩
        have HIV := Lib.hid (fun W => (show Calls Try.prog 18 #[m.V] W (fun e w' => e = .returned (.int .i64 iv) ∧ Below W.heap.size W w') from by rw [hiv]; exact r8Inv_any m W))
        by_cases hge : 0 ≤ iv
        · obtain ⟨l9, m9, hp9, hl9, hR9, hA9, hI9, he9⟩ := rep_data hb HBok.out HMay.out (by rw [← hiv]; exact hge)
          have HP9 := Lib.hid hp9
          have HR9 := Lib.hid hR9
          have HA9 := Lib.hid hA9
          have HI9 := Lib.hid hI9
          have HS9 := Lib.hid (fun (W : World) (v v' : Value) (h : EntAt W v m9.es) (h' : EntAt W v' m.es) => (show Calls Try.prog 17 #[v, v'] W (fun e w' => e = .returned (.bool true) ∧ Below W.heap.size W w') from same_is h h' (by have := m9.es_len; omega) (by have := m.es_len; omega) (by rw [he9]; simp)))
          have q1 : decide (0 ≤ iv) = true := decide_eq_true hge
          obtain ⟨L9, hL9⟩ : ∃ L9, L9 = l9.length := ⟨_, rfl⟩
          have HL9 := Lib.hid hL9
          rw [← hL9] at hl9
          have q4 : decide (18 < (L9 : Int)) = false := by rw [decide_eq_false_iff_not]; omega
          clear hp9 hR9 hA9 hI9 he9 hiv hL9
          obtain ⟨l2, E2, hM2, hW2, hE20, hE27, hz2⟩ := torn_data hb m9 k2 key2 ptr2
          have HM2 := Lib.hid hM2
          have HW2 := Lib.hid hW2
          have HZ2 := Lib.hid hz2
          clear hM2 hW2 hz2
          by_cases hE2 : E2 = 0
          · subst hE2
            obtain ⟨m3, now, hA3, hB3, he3⟩ := HZ2.out rfl
            have hnl3 : now.length ≤ 8 := by rw [← he3]; exact m3.es_len
            have HA3 := Lib.hid hA3
            have HB3 := Lib.hid hB3
            have HS3 := Lib.hid (fun (W : World) (v v' : Value) (h : EntAt W v m3.es) (h' : EntAt W v' now) => (show Calls Try.prog 17 #[v, v'] W (fun e w' => e = .returned (.bool true) ∧ Below W.heap.size W w') from same_is h h' (by rw [he3]; omega) (by omega) (by rw [he3]; simp)))
            clear hA3 hB3 he3
            go_wp2_with (first
              | ((with_reducible refine show_loadN9 ?_); refine load_mg9 (by rfl) _ _ rfl w.heap.size 0 rfl m9.cl _ (ndR HT20.out.nd) Try.underlying27 rfl ndI ?_)
              | ((with_reducible refine show_loadN9 ?_); refine load_mg9 (by rfl) _ _ rfl w.heap.size 0 rfl m9.cl _ (ndR HT21.out.nd) Try.underlying27 rfl ndI ?_)
              | ((with_reducible refine show_loadN9 ?_); refine load_mg9 (by rfl) _ _ rfl w.heap.size 0 rfl m9.cl _ (ndR HT22.out.nd) Try.underlying27 rfl ndI ?_)
              | (go_at_call 9; refine (HM2.out _).mono ?_; rintro e w21 ⟨⟨v21, rfl, ho21⟩, h21⟩; have HT21 := Lib.hid (HT20.out.below h21); have HE21 := Lib.hid ho21; have b0_w21 : w21.cell? ⟨w.heap.size + 2, 0, none⟩ = some (.int .i64 k2) := HT21.out.ask.cell 0; have b1_w21 : w21.cell? ⟨w.heap.size + 2, 1, none⟩ = some (.int .u64 key2) := HT21.out.ask.cell 1; have b2_w21 : w21.cell? ⟨w.heap.size + 2, 2, none⟩ = some (.int .u64 ptr2) := HT21.out.ask.cell 2; clear ho21 h21)
              | (go_at_call 10; refine (HW2.out _).mono ?_; rintro e w22 ⟨⟨v22, rfl⟩, h22⟩; have HT22 := Lib.hid (HT21.out.below h22); have HE22 := Lib.hid (HE21.out.low h22); clear h22)
              | (go_at_call 20; refine (HA3.out _ _ HE22.out).mono ?_; rintro e w23 ⟨rfl, h23⟩; have HT23 := Lib.hid (HT22.out.below h23); clear h23)
              | ((with_reducible refine show_storeN9 ?_); refine wpList_store_row rfl _ _ _ rfl w23.heap.size m3.cl rfl rfl (Row.new w23 27 zeroNd.cl.toArray) rfl ndI (cl_one _) ?_; obtain ⟨W24, hW24, hn24, hb24⟩ := store_gen9 w23 m3; rw [← hW24]; have HT24 := Lib.hid (HT23.out.below hb24); have HN24 := Lib.hid hn24; clear hW24 hn24 hb24)
              | ((with_reducible refine show_loadN9 ?_); refine load_mg9 (by rfl) _ _ rfl w.heap.size 0 rfl m.cl _ (ndR HTr.out.nd) Try.underlying27 rfl ndI ?_)
              | ((with_reducible refine show_loadN9 ?_); refine load_mg9 (by rfl) _ _ rfl w.heap.size 0 rfl m.cl _ (ndR HT3.out.nd) Try.underlying27 rfl ndI ?_)
              | ((with_reducible refine show_loadN9 ?_); refine load_mg9 (by rfl) _ _ rfl w.heap.size 0 rfl m.cl _ (ndR HT4.out.nd) Try.underlying27 rfl ndI ?_)
              | ((with_reducible refine show_loadN9 ?_); refine load_mg9 (by rfl) _ _ rfl w.heap.size 0 rfl m.cl _ (ndR HT5.out.nd) Try.underlying27 rfl ndI ?_)
              | ((with_reducible refine show_loadN9 ?_); refine load_mg9 (by rfl) _ _ rfl w6.heap.size 0 rfl m9.cl _ (ndR HN7.out) Try.underlying27 rfl ndI ?_)
              | ((with_reducible refine show_loadN9 ?_); refine load_mg9 (by rfl) _ _ rfl w6.heap.size 0 rfl m9.cl _ (ndR HN8.out) Try.underlying27 rfl ndI ?_)
              | ((with_reducible refine show_loadN9 ?_); refine load_mg9 (by rfl) _ _ rfl w6.heap.size 0 rfl m9.cl _ (ndR HN10.out) Try.underlying27 rfl ndI ?_)
              | (go_at_call 13; refine (r8Valid_any m _).mono ?_; rintro e w3 ⟨⟨v3, rfl, ho3⟩, h3⟩; have HO3 := Lib.hid (show OwnE w.heap.size w3 v3 m.es from ⟨_, hwl, ho3⟩); have HT3 := Lib.hid (HTr.out.below h3); clear ho3 h3)
              | (go_at_call 18; refine (HIV.out _).mono ?_; rintro e w4 ⟨rfl, h4⟩; have HT4 := Lib.hid (HT3.out.below h4); have HO4 := Lib.hid (HO3.out.low h4); clear h4)
              | (go_at_call 21; refine (HR9.out _).mono ?_; rintro e w5 ⟨⟨v5, rfl, ho5⟩, h5⟩; have he5 := ent_ownG ho5; obtain ⟨g5, cap5, rfl, hg5, hg6, hcs5⟩ := puts_cells ho5 HP9.out; rw [← HL9.out] at he5 ⊢; have HE5 := Lib.hid he5; have HT5 := Lib.hid (HT4.out.below h5); have HO5 := Lib.hid (HO4.out.low h5); clear ho5 h5 he5 hg5 hg6 hcs5)
              | (go_at_call 20; refine (HA9.out _ _ HE5.out).mono ?_; rintro e w6 ⟨rfl, h6⟩; have HT6 := Lib.hid (HT5.out.below h6); have HO6 := Lib.hid (HO5.out.low h6); clear h6)
              | ((with_reducible refine show_storeN9 ?_); refine wpList_store_row rfl _ _ _ rfl w6.heap.size m9.cl rfl rfl (Row.new w6 27 zeroNd.cl.toArray) rfl ndI (cl_one _) ?_; obtain ⟨w7, hw7, hn7, hb7⟩ := store_gen9 w6 m9; rw [← hw7]; have HT7 := Lib.hid (HT6.out.below hb7); have HO7 := Lib.hid (HO6.out.low hb7); have HN7 := Lib.hid hn7; clear hw7 hn7 hb7)
              | (go_at_call 22; refine (HI9.out _).mono ?_; rintro e w8 ⟨rfl, h8⟩; have HT8 := Lib.hid (HT7.out.below h8); have HO8 := Lib.hid (HO7.out.low h8); have HN8 := Lib.hid (HN7.out.below h8 HN7.out.lt); clear h8)
              | (go_at_call 23; refine (nValid_any m9 _).mono ?_; rintro e w9 ⟨⟨v9, rfl, ho9⟩, h9⟩; have HT9 := Lib.hid (HT8.out.below h9); have HO9 := Lib.hid (HO8.out.low h9); have HE9 := Lib.hid (ent_ownG ho9); have HN9 := Lib.hid (HN8.out.below h9 HN8.out.lt); clear ho9 h9)
              | (go_at_call 17; refine (HS9.out _ _ _ HE9.out HO9.out.ent).mono ?_; rintro e w10 ⟨rfl, h10⟩; have HT10 := Lib.hid (HT9.out.below h10); have HN10 := Lib.hid (HN9.out.below h10 HN9.out.lt); clear h10)
              | ((with_reducible refine show_storeN9 ?_); refine wpList_store_row rfl _ _ _ rfl w.heap.size m9.cl rfl rfl HT10.out.nd rfl ndI (cl_one _) ?_; have HT20 := Lib.hid (HT10.out.store m9); obtain ⟨W0, hW0⟩ : ∃ W0, W0 = w10.setCells w.heap.size 0 m9.cl := ⟨_, rfl⟩; rw [← hW0] at HT20 ⊢; clear hW0; have b0_W0 : W0.cell? ⟨w.heap.size + 2, 0, none⟩ = some (.int .i64 k2) := HT20.out.ask.cell 0; have b1_W0 : W0.cell? ⟨w.heap.size + 2, 1, none⟩ = some (.int .u64 key2) := HT20.out.ask.cell 1; have b2_W0 : W0.cell? ⟨w.heap.size + 2, 2, none⟩ = some (.int .u64 ptr2) := HT20.out.ask.cell 2))
            have HSq := Lib.hid (show ∀ W, Below W24.heap.size W24 W → NdAt W w23.heap.size m3 ∧ NdAt W w.heap.size m9 ∧ W.cell? ⟨w.heap.size + 2, 0, none⟩ = some (.int .i64 k2) ∧ W.cell? ⟨w.heap.size + 2, 1, none⟩ = some (.int .u64 key2) ∧ W.cell? ⟨w.heap.size + 2, 2, none⟩ = some (.int .u64 ptr2) from fun W hb => ⟨HN24.out.below hb HN24.out.lt, (HT24.out.below hb).nd, (HT24.out.below hb).ask.cell 0, (HT24.out.below hb).ask.cell 1, (HT24.out.below hb).ask.cell 2⟩)
            refine wp_region_held_drew (S := fun W' => NdAt W' w23.heap.size m3 ∧ NdAt W' w.heap.size m9 ∧ W'.cell? ⟨w.heap.size + 2, 0, none⟩ = some (.int .i64 k2) ∧ W'.cell? ⟨w.heap.size + 2, 1, none⟩ = some (.int .u64 key2) ∧ W'.cell? ⟨w.heap.size + 2, 2, none⟩ = some (.int .u64 ptr2)) (by kernel_rfl) (HSq.out _ (drew_low9 _)) (fun hHeld => ?_)
            refine wpAnyH_take (i := 0) (oi := ⟨some 132, _, _, _, _, _⟩) (v := .int .i64 0) rfl (by kernel_rfl) (by kernel_rfl) (by kernel_rfl) (fun _ _ _ h => h) (Or.inl ⟨by rfl, by intro WW hSw; (try dsimp only at hSw); go_simp⟩) (by assumption) ?_
            (try simp only [Act.put, List.setIfInBounds_toArray, List.set_cons_zero, List.set_cons_succ])
            refine wpAnyH_take (i := 1) (oi := ⟨some 133, _, _, _, _, _⟩) (v := .bool true) rfl (by kernel_rfl) (by kernel_rfl) (by kernel_rfl) (fun _ _ _ h => h) (Or.inl ⟨by rfl, by intro WW hSw; (try dsimp only at hSw); go_simp⟩) (by assumption) ?_
            (try simp only [Act.put, List.setIfInBounds_toArray, List.set_cons_zero, List.set_cons_succ])
            refine wpAnyH_take (i := 2) (oi := ⟨some 134, _, _, _, _, _⟩) (v := .bool true) rfl (by kernel_rfl) (by kernel_rfl) (by kernel_rfl) (fun _ _ _ h => h) (Or.inl ⟨by rfl, by intro WW hSw; (try dsimp only at hSw); go_simp⟩) (by assumption) ?_
            (try simp only [Act.put, List.setIfInBounds_toArray, List.set_cons_zero, List.set_cons_succ])
            refine wpAnyH_take (i := 3) (oi := ⟨some 135, _, _, _, _, _⟩) (v := .agg m3.cl.toArray) rfl (by kernel_rfl) (by kernel_rfl) (by kernel_rfl) (fun _ _ _ h => h) (yieldsIf_load_mid (by rfl) _ _ rfl w23.heap.size 0 rfl m3.cl _ (fun w' hw' => ndR hw'.1) Try.underlying27 rfl ndI) (by assumption) ?_
            (try simp only [Act.put, List.setIfInBounds_toArray, List.set_cons_zero, List.set_cons_succ])
            refine wpAnyH_take (i := 5) (oi := ⟨some 137, _, _, _, _, _⟩) (v := .agg m9.cl.toArray) rfl (by kernel_rfl) (by kernel_rfl) (by kernel_rfl) (fun _ _ _ h => h) (yieldsIf_load_mid (by rfl) _ _ rfl w.heap.size 0 rfl m9.cl _ (fun w' hw' => ndR hw'.2.1) Try.underlying27 rfl ndI) (by assumption) ?_
            (try simp only [Act.put, List.setIfInBounds_toArray, List.set_cons_zero, List.set_cons_succ])
            refine wpAnyH_take (i := 6) (oi := ⟨some 138, _, _, _, _, _⟩) (v := .agg #[.int .i64 k2, .int .u64 key2, .int .u64 ptr2]) rfl (by kernel_rfl) (by kernel_rfl) (by kernel_rfl) (fun _ _ _ h => h) (Or.inl ⟨by rfl, by intro WW hSw; (try dsimp only at hSw); go_simp⟩) (by assumption) ?_
            (try simp only [Act.put, List.setIfInBounds_toArray, List.set_cons_zero, List.set_cons_succ])
            refine wpAnyH_one (i := 4) (oi := ⟨some 136, _, _, _, _, _⟩) rfl (by kernel_rfl) (fun K hK => ?_)
            refine step_calls (by rfl) 23 EGn.out [.tmp 135] _ rfl [m3.V] rfl (nValid_any m3 _) ?_
            rintro e w25 ⟨⟨v25, rfl, ho25⟩, h25⟩
            have HE25 := Lib.hid (ent_ownG ho25)
            clear ho25
            refine ⟨_, rfl, hK _ _ (HSq.out _ (low_and (drew_low9 W24) h25)) (fun hSn => ?_)⟩
            clear hK K
            (try simp only [Act.put, List.setIfInBounds_toArray, List.set_cons_zero, List.set_cons_succ])
            refine wpAnyH_one (i := 7) (oi := ⟨some 139, _, _, _, _, _⟩) rfl (by kernel_rfl) (fun K hK => ?_)
            refine step_calls (by rfl) 14 EGb.out [.tmp 137, .tmp 138] _ rfl [m9.V, .agg #[.int .i64 k2, .int .u64 key2, .int .u64 ptr2]] rfl (HB3.out _) ?_
            rintro e w26 ⟨⟨v26, rfl, ho26⟩, h26⟩
            have HE26 := Lib.hid (ent_ownG ho26)
            have HE256 := Lib.hid (HE25.out.low h26)
            clear ho26
            refine ⟨_, rfl, hK _ _ (HSq.out _ (low_and (low_and (drew_low9 W24) h25) h26)) (fun hSn => ?_)⟩
            clear hK K
            (try simp only [Act.put, List.setIfInBounds_toArray, List.set_cons_zero, List.set_cons_succ])
            refine wpAnyH_one (i := 8) (oi := ⟨some 140, _, _, _, _, _⟩) rfl (by kernel_rfl) (fun K hK => ?_)
            refine step_calls (by rfl) 17 EGs.out [.tmp 136, .tmp 139] _ rfl [v25, v26] rfl (HS3.out _ _ _ HE256.out HE26.out) ?_
            rintro e w27 ⟨rfl, h27⟩
            refine ⟨_, rfl, hK _ _ (HSq.out _ (low_and (low_and (low_and (drew_low9 W24) h25) h26) h27)) (fun hSn => ?_)⟩
            clear hK K
            (try simp only [Act.put, List.setIfInBounds_toArray, List.set_cons_zero, List.set_cons_succ])
            refine wpAnyH_take (i := 9) (oi := ⟨some 141, _, _, _, _, _⟩) (v := .bool true) rfl (by kernel_rfl) (by kernel_rfl) (by kernel_rfl) (fun _ _ _ h => h) (Or.inl ⟨by rfl, by intro WW hSw; (try dsimp only at hSw); go_simp⟩) (by assumption) ?_
            (try simp only [Act.put, List.setIfInBounds_toArray, List.set_cons_zero, List.set_cons_succ])
            refine wpAnyH_take (i := 10) (oi := ⟨some 142, _, _, _, _, _⟩) (v := .bool true) rfl (by kernel_rfl) (by kernel_rfl) (by kernel_rfl) (fun _ _ _ h => h) (Or.inl ⟨by rfl, by intro WW hSw; (try dsimp only at hSw); go_simp⟩) (by assumption) ?_
            (try simp only [Act.put, List.setIfInBounds_toArray, List.set_cons_zero, List.set_cons_succ])
            refine wpAnyH_one (i := 11) (oi := ⟨some 143, _, _, _, _, _⟩) rfl (by kernel_rfl) (fun K hK => ?_)
            refine step_calls (by rfl) 12 EGk.out [] _ rfl [] rfl (HK.out _) ?_
            rintro e w28 ⟨rfl, h28⟩
            have HB28 := Lib.hid (low_and (low_and (low_and (low_and (drew_low9 W24) h25) h26) h27) h28)
            refine ⟨_, rfl, hK _ _ (HSq.out _ (low_and (low_and (low_and (low_and (drew_low9 W24) h25) h26) h27) h28)) (fun hSn => ?_)⟩
            clear hK K
            (try simp only [Act.put, List.setIfInBounds_toArray, List.set_cons_zero, List.set_cons_succ])
            refine wpAnyH_take (i := 12) (oi := ⟨some 144, _, _, _, _, _⟩) (v := .bool true) rfl (by kernel_rfl) (by kernel_rfl) (by kernel_rfl) (fun _ _ _ h => h) (Or.inl ⟨by rfl, by intro WW hSw; (try dsimp only at hSw); go_simp⟩) (by assumption) ?_
            (try simp only [Act.put, List.setIfInBounds_toArray, List.set_cons_zero, List.set_cons_succ])
            refine wpAnyH_take (i := 13) (oi := ⟨some 10, _, _, _, _, _⟩) (v := .bool true) rfl (by kernel_rfl) (by kernel_rfl) (by kernel_rfl) (fun _ _ _ h => h) (Or.inl ⟨by rfl, by intro WW hSw; (try dsimp only at hSw); go_simp⟩) (by assumption) ?_
            (try simp only [Act.put, List.setIfInBounds_toArray, List.set_cons_zero, List.set_cons_succ])
            refine wpAnyH_done (by kernel_rfl) ?_ _
            go_wp2
            go_ret
            exact ⟨rfl, low_and HT24.out.low HB28.out⟩
          · have hE21 : (E2 != 0) = true := by simpa using hE2
            go_wp2_with (first
              | ((with_reducible refine show_loadN9 ?_); refine load_mg9 (by rfl) _ _ rfl w.heap.size 0 rfl m9.cl _ (ndR HT20.out.nd) Try.underlying27 rfl ndI ?_)
              | ((with_reducible refine show_loadN9 ?_); refine load_mg9 (by rfl) _ _ rfl w.heap.size 0 rfl m9.cl _ (ndR HT21.out.nd) Try.underlying27 rfl ndI ?_)
              | (go_at_call 9; refine (HM2.out _).mono ?_; rintro e w21 ⟨⟨v21, rfl, ho21⟩, h21⟩; have HT21 := Lib.hid (HT20.out.below h21); have b0_w21 : w21.cell? ⟨w.heap.size + 2, 0, none⟩ = some (.int .i64 k2) := HT21.out.ask.cell 0; have b1_w21 : w21.cell? ⟨w.heap.size + 2, 1, none⟩ = some (.int .u64 key2) := HT21.out.ask.cell 1; have b2_w21 : w21.cell? ⟨w.heap.size + 2, 2, none⟩ = some (.int .u64 ptr2) := HT21.out.ask.cell 2; clear ho21 h21)
              | (go_at_call 10; refine (HW2.out _).mono ?_; rintro e w22 ⟨⟨v22, rfl⟩, h22⟩; have HT22 := Lib.hid (HT21.out.below h22); clear h22)
              | (go_at_call 12; refine (HK.out _).mono ?_; rintro e w23 ⟨rfl, h23⟩; have HT23 := Lib.hid (HT22.out.below h23); clear h23)
              | ((with_reducible refine show_loadN9 ?_); refine load_mg9 (by rfl) _ _ rfl w.heap.size 0 rfl m.cl _ (ndR HTr.out.nd) Try.underlying27 rfl ndI ?_)
              | ((with_reducible refine show_loadN9 ?_); refine load_mg9 (by rfl) _ _ rfl w.heap.size 0 rfl m.cl _ (ndR HT3.out.nd) Try.underlying27 rfl ndI ?_)
              | ((with_reducible refine show_loadN9 ?_); refine load_mg9 (by rfl) _ _ rfl w.heap.size 0 rfl m.cl _ (ndR HT4.out.nd) Try.underlying27 rfl ndI ?_)
              | ((with_reducible refine show_loadN9 ?_); refine load_mg9 (by rfl) _ _ rfl w.heap.size 0 rfl m.cl _ (ndR HT5.out.nd) Try.underlying27 rfl ndI ?_)
              | ((with_reducible refine show_loadN9 ?_); refine load_mg9 (by rfl) _ _ rfl w6.heap.size 0 rfl m9.cl _ (ndR HN7.out) Try.underlying27 rfl ndI ?_)
              | ((with_reducible refine show_loadN9 ?_); refine load_mg9 (by rfl) _ _ rfl w6.heap.size 0 rfl m9.cl _ (ndR HN8.out) Try.underlying27 rfl ndI ?_)
              | ((with_reducible refine show_loadN9 ?_); refine load_mg9 (by rfl) _ _ rfl w6.heap.size 0 rfl m9.cl _ (ndR HN10.out) Try.underlying27 rfl ndI ?_)
              | (go_at_call 13; refine (r8Valid_any m _).mono ?_; rintro e w3 ⟨⟨v3, rfl, ho3⟩, h3⟩; have HO3 := Lib.hid (show OwnE w.heap.size w3 v3 m.es from ⟨_, hwl, ho3⟩); have HT3 := Lib.hid (HTr.out.below h3); clear ho3 h3)
              | (go_at_call 18; refine (HIV.out _).mono ?_; rintro e w4 ⟨rfl, h4⟩; have HT4 := Lib.hid (HT3.out.below h4); have HO4 := Lib.hid (HO3.out.low h4); clear h4)
              | (go_at_call 21; refine (HR9.out _).mono ?_; rintro e w5 ⟨⟨v5, rfl, ho5⟩, h5⟩; have he5 := ent_ownG ho5; obtain ⟨g5, cap5, rfl, hg5, hg6, hcs5⟩ := puts_cells ho5 HP9.out; rw [← HL9.out] at he5 ⊢; have HE5 := Lib.hid he5; have HT5 := Lib.hid (HT4.out.below h5); have HO5 := Lib.hid (HO4.out.low h5); clear ho5 h5 he5 hg5 hg6 hcs5)
              | (go_at_call 20; refine (HA9.out _ _ HE5.out).mono ?_; rintro e w6 ⟨rfl, h6⟩; have HT6 := Lib.hid (HT5.out.below h6); have HO6 := Lib.hid (HO5.out.low h6); clear h6)
              | ((with_reducible refine show_storeN9 ?_); refine wpList_store_row rfl _ _ _ rfl w6.heap.size m9.cl rfl rfl (Row.new w6 27 zeroNd.cl.toArray) rfl ndI (cl_one _) ?_; obtain ⟨w7, hw7, hn7, hb7⟩ := store_gen9 w6 m9; rw [← hw7]; have HT7 := Lib.hid (HT6.out.below hb7); have HO7 := Lib.hid (HO6.out.low hb7); have HN7 := Lib.hid hn7; clear hw7 hn7 hb7)
              | (go_at_call 22; refine (HI9.out _).mono ?_; rintro e w8 ⟨rfl, h8⟩; have HT8 := Lib.hid (HT7.out.below h8); have HO8 := Lib.hid (HO7.out.low h8); have HN8 := Lib.hid (HN7.out.below h8 HN7.out.lt); clear h8)
              | (go_at_call 23; refine (nValid_any m9 _).mono ?_; rintro e w9 ⟨⟨v9, rfl, ho9⟩, h9⟩; have HT9 := Lib.hid (HT8.out.below h9); have HO9 := Lib.hid (HO8.out.low h9); have HE9 := Lib.hid (ent_ownG ho9); have HN9 := Lib.hid (HN8.out.below h9 HN8.out.lt); clear ho9 h9)
              | (go_at_call 17; refine (HS9.out _ _ _ HE9.out HO9.out.ent).mono ?_; rintro e w10 ⟨rfl, h10⟩; have HT10 := Lib.hid (HT9.out.below h10); have HN10 := Lib.hid (HN9.out.below h10 HN9.out.lt); clear h10)
              | ((with_reducible refine show_storeN9 ?_); refine wpList_store_row rfl _ _ _ rfl w.heap.size m9.cl rfl rfl HT10.out.nd rfl ndI (cl_one _) ?_; have HT20 := Lib.hid (HT10.out.store m9); obtain ⟨W0, hW0⟩ : ∃ W0, W0 = w10.setCells w.heap.size 0 m9.cl := ⟨_, rfl⟩; rw [← hW0] at HT20 ⊢; clear hW0; have b0_W0 : W0.cell? ⟨w.heap.size + 2, 0, none⟩ = some (.int .i64 k2) := HT20.out.ask.cell 0; have b1_W0 : W0.cell? ⟨w.heap.size + 2, 1, none⟩ = some (.int .u64 key2) := HT20.out.ask.cell 1; have b2_W0 : W0.cell? ⟨w.heap.size + 2, 2, none⟩ = some (.int .u64 ptr2) := HT20.out.ask.cell 2))
            go_ret
            exact ⟨rfl, HT23.out.low⟩
        · have q1 : decide (0 ≤ iv) = false := by rw [decide_eq_false_iff_not]; exact hge
          clear hiv
          obtain ⟨l2, E2, hM2, hW2, hE20, hE27, hz2⟩ := torn_data hb m k2 key2 ptr2
          have HM2 := Lib.hid hM2
          have HW2 := Lib.hid hW2
          have HZ2 := Lib.hid hz2
          clear hM2 hW2 hz2
          by_cases hE2 : E2 = 0
          · subst hE2
            obtain ⟨m3, now, hA3, hB3, he3⟩ := HZ2.out rfl
            have hnl3 : now.length ≤ 8 := by rw [← he3]; exact m3.es_len
            have HA3 := Lib.hid hA3
            have HB3 := Lib.hid hB3
            have HS3 := Lib.hid (fun (W : World) (v v' : Value) (h : EntAt W v m3.es) (h' : EntAt W v' now) => (show Calls Try.prog 17 #[v, v'] W (fun e w' => e = .returned (.bool true) ∧ Below W.heap.size W w') from same_is h h' (by rw [he3]; omega) (by omega) (by rw [he3]; simp)))
            clear hA3 hB3 he3
            go_wp2_with (first
              | ((with_reducible refine show_loadN9 ?_); refine load_mg9 (by rfl) _ _ rfl w.heap.size 0 rfl m.cl _ (ndR HT20.out.nd) Try.underlying27 rfl ndI ?_)
              | ((with_reducible refine show_loadN9 ?_); refine load_mg9 (by rfl) _ _ rfl w.heap.size 0 rfl m.cl _ (ndR HT21.out.nd) Try.underlying27 rfl ndI ?_)
              | ((with_reducible refine show_loadN9 ?_); refine load_mg9 (by rfl) _ _ rfl w.heap.size 0 rfl m.cl _ (ndR HT22.out.nd) Try.underlying27 rfl ndI ?_)
              | (go_at_call 9; refine (HM2.out _).mono ?_; rintro e w21 ⟨⟨v21, rfl, ho21⟩, h21⟩; have HT21 := Lib.hid (HT20.out.below h21); have HE21 := Lib.hid ho21; have b0_w21 : w21.cell? ⟨w.heap.size + 2, 0, none⟩ = some (.int .i64 k2) := HT21.out.ask.cell 0; have b1_w21 : w21.cell? ⟨w.heap.size + 2, 1, none⟩ = some (.int .u64 key2) := HT21.out.ask.cell 1; have b2_w21 : w21.cell? ⟨w.heap.size + 2, 2, none⟩ = some (.int .u64 ptr2) := HT21.out.ask.cell 2; clear ho21 h21)
              | (go_at_call 10; refine (HW2.out _).mono ?_; rintro e w22 ⟨⟨v22, rfl⟩, h22⟩; have HT22 := Lib.hid (HT21.out.below h22); have HE22 := Lib.hid (HE21.out.low h22); clear h22)
              | (go_at_call 20; refine (HA3.out _ _ HE22.out).mono ?_; rintro e w23 ⟨rfl, h23⟩; have HT23 := Lib.hid (HT22.out.below h23); clear h23)
              | ((with_reducible refine show_storeN9 ?_); refine wpList_store_row rfl _ _ _ rfl w23.heap.size m3.cl rfl rfl (Row.new w23 27 zeroNd.cl.toArray) rfl ndI (cl_one _) ?_; obtain ⟨W24, hW24, hn24, hb24⟩ := store_gen9 w23 m3; rw [← hW24]; have HT24 := Lib.hid (HT23.out.below hb24); have HN24 := Lib.hid hn24; clear hW24 hn24 hb24)
              | ((with_reducible refine show_loadN9 ?_); refine load_mg9 (by rfl) _ _ rfl w.heap.size 0 rfl m.cl _ (ndR HTr.out.nd) Try.underlying27 rfl ndI ?_)
              | ((with_reducible refine show_loadN9 ?_); refine load_mg9 (by rfl) _ _ rfl w.heap.size 0 rfl m.cl _ (ndR HT3.out.nd) Try.underlying27 rfl ndI ?_)
              | (go_at_call 13; refine (r8Valid_any m _).mono ?_; rintro e w3 ⟨⟨v3, rfl, ho3⟩, h3⟩; have HO3 := Lib.hid (show OwnE w.heap.size w3 v3 m.es from ⟨_, hwl, ho3⟩); have HT3 := Lib.hid (HTr.out.below h3); clear ho3 h3)
              | (go_at_call 18; refine (HIV.out _).mono ?_; rintro e w4 ⟨rfl, h4⟩; have HT4 := Lib.hid (HT3.out.below h4); have HO4 := Lib.hid (HO3.out.low h4); have HT20 := HT4; have b0_w4 : w4.cell? ⟨w.heap.size + 2, 0, none⟩ = some (.int .i64 k2) := HT4.out.ask.cell 0; have b1_w4 : w4.cell? ⟨w.heap.size + 2, 1, none⟩ = some (.int .u64 key2) := HT4.out.ask.cell 1; have b2_w4 : w4.cell? ⟨w.heap.size + 2, 2, none⟩ = some (.int .u64 ptr2) := HT4.out.ask.cell 2; clear h4))
            have HSq := Lib.hid (show ∀ W, Below W24.heap.size W24 W → NdAt W w23.heap.size m3 ∧ NdAt W w.heap.size m ∧ W.cell? ⟨w.heap.size + 2, 0, none⟩ = some (.int .i64 k2) ∧ W.cell? ⟨w.heap.size + 2, 1, none⟩ = some (.int .u64 key2) ∧ W.cell? ⟨w.heap.size + 2, 2, none⟩ = some (.int .u64 ptr2) from fun W hb => ⟨HN24.out.below hb HN24.out.lt, (HT24.out.below hb).nd, (HT24.out.below hb).ask.cell 0, (HT24.out.below hb).ask.cell 1, (HT24.out.below hb).ask.cell 2⟩)
            refine wp_region_held_drew (S := fun W' => NdAt W' w23.heap.size m3 ∧ NdAt W' w.heap.size m ∧ W'.cell? ⟨w.heap.size + 2, 0, none⟩ = some (.int .i64 k2) ∧ W'.cell? ⟨w.heap.size + 2, 1, none⟩ = some (.int .u64 key2) ∧ W'.cell? ⟨w.heap.size + 2, 2, none⟩ = some (.int .u64 ptr2)) (by kernel_rfl) (HSq.out _ (drew_low9 _)) (fun hHeld => ?_)
            refine wpAnyH_take (i := 0) (oi := ⟨some 132, _, _, _, _, _⟩) (v := .int .i64 0) rfl (by kernel_rfl) (by kernel_rfl) (by kernel_rfl) (fun _ _ _ h => h) (Or.inl ⟨by rfl, by intro WW hSw; (try dsimp only at hSw); go_simp⟩) (by assumption) ?_
            (try simp only [Act.put, List.setIfInBounds_toArray, List.set_cons_zero, List.set_cons_succ])
            refine wpAnyH_take (i := 1) (oi := ⟨some 133, _, _, _, _, _⟩) (v := .bool true) rfl (by kernel_rfl) (by kernel_rfl) (by kernel_rfl) (fun _ _ _ h => h) (Or.inl ⟨by rfl, by intro WW hSw; (try dsimp only at hSw); go_simp⟩) (by assumption) ?_
            (try simp only [Act.put, List.setIfInBounds_toArray, List.set_cons_zero, List.set_cons_succ])
            refine wpAnyH_take (i := 2) (oi := ⟨some 134, _, _, _, _, _⟩) (v := .bool true) rfl (by kernel_rfl) (by kernel_rfl) (by kernel_rfl) (fun _ _ _ h => h) (Or.inl ⟨by rfl, by intro WW hSw; (try dsimp only at hSw); go_simp⟩) (by assumption) ?_
            (try simp only [Act.put, List.setIfInBounds_toArray, List.set_cons_zero, List.set_cons_succ])
            refine wpAnyH_take (i := 3) (oi := ⟨some 135, _, _, _, _, _⟩) (v := .agg m3.cl.toArray) rfl (by kernel_rfl) (by kernel_rfl) (by kernel_rfl) (fun _ _ _ h => h) (yieldsIf_load_mid (by rfl) _ _ rfl w23.heap.size 0 rfl m3.cl _ (fun w' hw' => ndR hw'.1) Try.underlying27 rfl ndI) (by assumption) ?_
            (try simp only [Act.put, List.setIfInBounds_toArray, List.set_cons_zero, List.set_cons_succ])
            refine wpAnyH_take (i := 5) (oi := ⟨some 137, _, _, _, _, _⟩) (v := .agg m.cl.toArray) rfl (by kernel_rfl) (by kernel_rfl) (by kernel_rfl) (fun _ _ _ h => h) (yieldsIf_load_mid (by rfl) _ _ rfl w.heap.size 0 rfl m.cl _ (fun w' hw' => ndR hw'.2.1) Try.underlying27 rfl ndI) (by assumption) ?_
            (try simp only [Act.put, List.setIfInBounds_toArray, List.set_cons_zero, List.set_cons_succ])
            refine wpAnyH_take (i := 6) (oi := ⟨some 138, _, _, _, _, _⟩) (v := .agg #[.int .i64 k2, .int .u64 key2, .int .u64 ptr2]) rfl (by kernel_rfl) (by kernel_rfl) (by kernel_rfl) (fun _ _ _ h => h) (Or.inl ⟨by rfl, by intro WW hSw; (try dsimp only at hSw); go_simp⟩) (by assumption) ?_
            (try simp only [Act.put, List.setIfInBounds_toArray, List.set_cons_zero, List.set_cons_succ])
            refine wpAnyH_one (i := 4) (oi := ⟨some 136, _, _, _, _, _⟩) rfl (by kernel_rfl) (fun K hK => ?_)
            refine step_calls (by rfl) 23 EGn.out [.tmp 135] _ rfl [m3.V] rfl (nValid_any m3 _) ?_
            rintro e w25 ⟨⟨v25, rfl, ho25⟩, h25⟩
            have HE25 := Lib.hid (ent_ownG ho25)
            clear ho25
            refine ⟨_, rfl, hK _ _ (HSq.out _ (low_and (drew_low9 W24) h25)) (fun hSn => ?_)⟩
            clear hK K
            (try simp only [Act.put, List.setIfInBounds_toArray, List.set_cons_zero, List.set_cons_succ])
            refine wpAnyH_one (i := 7) (oi := ⟨some 139, _, _, _, _, _⟩) rfl (by kernel_rfl) (fun K hK => ?_)
            refine step_calls (by rfl) 14 EGb.out [.tmp 137, .tmp 138] _ rfl [m.V, .agg #[.int .i64 k2, .int .u64 key2, .int .u64 ptr2]] rfl (HB3.out _) ?_
            rintro e w26 ⟨⟨v26, rfl, ho26⟩, h26⟩
            have HE26 := Lib.hid (ent_ownG ho26)
            have HE256 := Lib.hid (HE25.out.low h26)
            clear ho26
            refine ⟨_, rfl, hK _ _ (HSq.out _ (low_and (low_and (drew_low9 W24) h25) h26)) (fun hSn => ?_)⟩
            clear hK K
            (try simp only [Act.put, List.setIfInBounds_toArray, List.set_cons_zero, List.set_cons_succ])
            refine wpAnyH_one (i := 8) (oi := ⟨some 140, _, _, _, _, _⟩) rfl (by kernel_rfl) (fun K hK => ?_)
            refine step_calls (by rfl) 17 EGs.out [.tmp 136, .tmp 139] _ rfl [v25, v26] rfl (HS3.out _ _ _ HE256.out HE26.out) ?_
            rintro e w27 ⟨rfl, h27⟩
            refine ⟨_, rfl, hK _ _ (HSq.out _ (low_and (low_and (low_and (drew_low9 W24) h25) h26) h27)) (fun hSn => ?_)⟩
            clear hK K
            (try simp only [Act.put, List.setIfInBounds_toArray, List.set_cons_zero, List.set_cons_succ])
            refine wpAnyH_take (i := 9) (oi := ⟨some 141, _, _, _, _, _⟩) (v := .bool true) rfl (by kernel_rfl) (by kernel_rfl) (by kernel_rfl) (fun _ _ _ h => h) (Or.inl ⟨by rfl, by intro WW hSw; (try dsimp only at hSw); go_simp⟩) (by assumption) ?_
            (try simp only [Act.put, List.setIfInBounds_toArray, List.set_cons_zero, List.set_cons_succ])
            refine wpAnyH_take (i := 10) (oi := ⟨some 142, _, _, _, _, _⟩) (v := .bool true) rfl (by kernel_rfl) (by kernel_rfl) (by kernel_rfl) (fun _ _ _ h => h) (Or.inl ⟨by rfl, by intro WW hSw; (try dsimp only at hSw); go_simp⟩) (by assumption) ?_
            (try simp only [Act.put, List.setIfInBounds_toArray, List.set_cons_zero, List.set_cons_succ])
            refine wpAnyH_one (i := 11) (oi := ⟨some 143, _, _, _, _, _⟩) rfl (by kernel_rfl) (fun K hK => ?_)
            refine step_calls (by rfl) 12 EGk.out [] _ rfl [] rfl (HK.out _) ?_
            rintro e w28 ⟨rfl, h28⟩
            have HB28 := Lib.hid (low_and (low_and (low_and (low_and (drew_low9 W24) h25) h26) h27) h28)
            refine ⟨_, rfl, hK _ _ (HSq.out _ (low_and (low_and (low_and (low_and (drew_low9 W24) h25) h26) h27) h28)) (fun hSn => ?_)⟩
            clear hK K
            (try simp only [Act.put, List.setIfInBounds_toArray, List.set_cons_zero, List.set_cons_succ])
            refine wpAnyH_take (i := 12) (oi := ⟨some 144, _, _, _, _, _⟩) (v := .bool true) rfl (by kernel_rfl) (by kernel_rfl) (by kernel_rfl) (fun _ _ _ h => h) (Or.inl ⟨by rfl, by intro WW hSw; (try dsimp only at hSw); go_simp⟩) (by assumption) ?_
            (try simp only [Act.put, List.setIfInBounds_toArray, List.set_cons_zero, List.set_cons_succ])
            refine wpAnyH_take (i := 13) (oi := ⟨some 10, _, _, _, _, _⟩) (v := .bool true) rfl (by kernel_rfl) (by kernel_rfl) (by kernel_rfl) (fun _ _ _ h => h) (Or.inl ⟨by rfl, by intro WW hSw; (try dsimp only at hSw); go_simp⟩) (by assumption) ?_
            (try simp only [Act.put, List.setIfInBounds_toArray, List.set_cons_zero, List.set_cons_succ])
            refine wpAnyH_done (by kernel_rfl) ?_ _
            go_wp2
            go_ret
            exact ⟨rfl, low_and HT24.out.low HB28.out⟩
          · have hE21 : (E2 != 0) = true := by simpa using hE2
            go_wp2_with (first
              | ((with_reducible refine show_loadN9 ?_); refine load_mg9 (by rfl) _ _ rfl w.heap.size 0 rfl m.cl _ (ndR HT20.out.nd) Try.underlying27 rfl ndI ?_)
              | ((with_reducible refine show_loadN9 ?_); refine load_mg9 (by rfl) _ _ rfl w.heap.size 0 rfl m.cl _ (ndR HT21.out.nd) Try.underlying27 rfl ndI ?_)
              | (go_at_call 9; refine (HM2.out _).mono ?_; rintro e w21 ⟨⟨v21, rfl, ho21⟩, h21⟩; have HT21 := Lib.hid (HT20.out.below h21); have b0_w21 : w21.cell? ⟨w.heap.size + 2, 0, none⟩ = some (.int .i64 k2) := HT21.out.ask.cell 0; have b1_w21 : w21.cell? ⟨w.heap.size + 2, 1, none⟩ = some (.int .u64 key2) := HT21.out.ask.cell 1; have b2_w21 : w21.cell? ⟨w.heap.size + 2, 2, none⟩ = some (.int .u64 ptr2) := HT21.out.ask.cell 2; clear ho21 h21)
              | (go_at_call 10; refine (HW2.out _).mono ?_; rintro e w22 ⟨⟨v22, rfl⟩, h22⟩; have HT22 := Lib.hid (HT21.out.below h22); clear h22)
              | (go_at_call 12; refine (HK.out _).mono ?_; rintro e w23 ⟨rfl, h23⟩; have HT23 := Lib.hid (HT22.out.below h23); clear h23)
              | ((with_reducible refine show_loadN9 ?_); refine load_mg9 (by rfl) _ _ rfl w.heap.size 0 rfl m.cl _ (ndR HTr.out.nd) Try.underlying27 rfl ndI ?_)
              | ((with_reducible refine show_loadN9 ?_); refine load_mg9 (by rfl) _ _ rfl w.heap.size 0 rfl m.cl _ (ndR HT3.out.nd) Try.underlying27 rfl ndI ?_)
              | (go_at_call 13; refine (r8Valid_any m _).mono ?_; rintro e w3 ⟨⟨v3, rfl, ho3⟩, h3⟩; have HO3 := Lib.hid (show OwnE w.heap.size w3 v3 m.es from ⟨_, hwl, ho3⟩); have HT3 := Lib.hid (HTr.out.below h3); clear ho3 h3)
              | (go_at_call 18; refine (HIV.out _).mono ?_; rintro e w4 ⟨rfl, h4⟩; have HT4 := Lib.hid (HT3.out.below h4); have HO4 := Lib.hid (HO3.out.low h4); have HT20 := HT4; have b0_w4 : w4.cell? ⟨w.heap.size + 2, 0, none⟩ = some (.int .i64 k2) := HT4.out.ask.cell 0; have b1_w4 : w4.cell? ⟨w.heap.size + 2, 1, none⟩ = some (.int .u64 key2) := HT4.out.ask.cell 1; have b2_w4 : w4.cell? ⟨w.heap.size + 2, 2, none⟩ = some (.int .u64 ptr2) := HT4.out.ask.cell 2; clear h4))
            go_ret
            exact ⟨rfl, HT23.out.low⟩
  · have hE1 : (E != 0) = true := by simpa using hE
    clear hR
    go_enter Try.func8, Try.ntmps8
    go_wp2_with (first
      | (rw [← HWa.out]; go_simp)
      | ((with_reducible refine show_loadN9 ?_); refine wpList_load_mid rfl _ _ rfl w.heap.size 0 rfl n.cl _ (ndR HR1.out) Try.underlying27 rfl ndI ?_)
      | (go_at_call 9; refine (HM.out _).mono ?_; rintro e w1 ⟨⟨v1, rfl, ho1⟩, h1⟩; have HB1 := Lib.hid h1; clear h1 ho1)
      | (go_at_call 12; refine (HK.out _).mono ?_; rintro e w4 ⟨rfl, h4⟩; have HB4 := Lib.hid h4; clear h4))
    go_ret
    exact ⟨rfl, low_and (low_and HB0.out HB1.out) HB4.out⟩
end Go.Proofs.Ytbadlmicbbjkaaa
