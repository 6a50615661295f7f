/- FastOnce: the law is true of any base, any node, any change that is asked for; conditions: numbers of the width. -/
import Derived.Test.YtbadlmicbbjkaaaN9Oh
namespace Go.Proofs.Ytbadlmicbbjkaaa
open Go.RowKit
set_option linter.unusedVariables false
set_option linter.unusedSimpArgs false
attribute [local go_sem] Oper.semAt_some
theorem uws_at {V : List Int} (h : V.length = 24) {j : Nat} (hj : j < 24) {x : Int} (hx : x = V.getD j 0) : (uws V)[j]? = some (.int .u64 x) := by
  rw [hx]
  unfold uws
  rw [List.getElem?_map, List.getD_eq_getElem?_getD, List.getElem?_eq_getElem (show j < V.length by omega)]
  rfl
theorem wrap_12 (c : Int) : (IntKind.u64.wrap (c + 1) != IntKind.u64.wrap (c + 2)) = true := by
  simp only [IntKind.wrap_u64, bne_iff_ne, ne_eq]; omega
theorem wrap_21 (c : Int) : (IntKind.u64.wrap (c + 2) != IntKind.u64.wrap (c + 1)) = true := by
  simp only [IntKind.wrap_u64, bne_iff_ne, ne_eq]; omega
set_option maxRecDepth 100000 in
set_option maxHeartbeats 16000000 in
theorem fastOnce_any {base : Int} (hb : 0 ≤ base) (n : Nd) (k key ptr : Int) (w : World) : Calls Try.prog 6 #[.int .u64 base, n.V, .agg #[.int .i64 k, .int .u64 key, .int .u64 ptr]] w fun e w' => e = .returned (.bool true) ∧ Below w.heap.size w w' := by
  have r0 := Row.new w 27 n.cl.toArray
  have r1 := r0.below (alloc_low (w.alloc (.cells n.cl.toArray 27)) (.cells #[.int .i64 k, .int .u64 key, .int .u64 ptr] 29)) r0.lt
  have ra := Row.new (w.alloc (.cells n.cl.toArray 27)) 29 #[.int .i64 k, .int .u64 key, .int .u64 ptr]
  rw [show (w.alloc (.cells n.cl.toArray 27)).heap.size = w.heap.size + 1 by simp] at ra
  have hb0 := low_and (alloc_low w (.cells n.cl.toArray 27)) (alloc_low (w.alloc (.cells n.cl.toArray 27)) (.cells #[.int .i64 k, .int .u64 key, .int .u64 ptr] 29))
  obtain ⟨Wa, hWa⟩ : ∃ Wa, Wa = (w.alloc (.cells n.cl.toArray 27)).alloc (.cells #[.int .i64 k, .int .u64 key, .int .u64 ptr] 29) := ⟨_, rfl⟩
  have hsa : Wa.heap.size = w.heap.size + 2 := by rw [hWa]; simp
  rw [← hWa] at r1 ra hb0
  have HR1 := Lib.hid (show NdAt Wa w.heap.size n from r1)
  have HRA := Lib.hid ra
  have a0 : Wa.cell? ⟨w.heap.size + 1, 0, none⟩ = some (.int .i64 k) := ra.cell 0
  have a1 : Wa.cell? ⟨w.heap.size + 1, 1, none⟩ = some (.int .u64 key) := ra.cell 1
  have a2 : Wa.cell? ⟨w.heap.size + 1, 2, none⟩ = some (.int .u64 ptr) := ra.cell 2
  have HB0 := Lib.hid hb0
  have HWa := Lib.hid hWa
  have HSA := Lib.hid hsa
  have HK := Lib.hid (fun W' => n9known_any W')
  have HM0 := fun W' => made_any hb n k key ptr W'
  obtain ⟨hlen, he0, he7⟩ := askP_ok base n (kd9 k) key ptr
  obtain ⟨hd0, hd6⟩ := kd9_lt k
  obtain ⟨l, E, hR⟩ : ∃ l E, askP base n (kd9 k) key ptr = (l, E) := ⟨_, _, rfl⟩
  rw [hR] at HM0 hlen he0 he7
  have hlen : l.length ≤ 100 := hlen
  have he0 : 0 ≤ E := he0
  have he7 : E ≤ 7 := he7
  obtain ⟨d, hd⟩ : ∃ d, d = kd9 k := ⟨_, rfl⟩
  rw [← hd] at hR hd0 hd6
  have HM := Lib.hid (fun W' => (show Calls Try.prog 9 #[.int .u64 base, n.V, .agg #[.int .i64 k, .int .u64 key, .int .u64 ptr]] W' (fun e w' => (∃ v, e = .returned (.tuple #[v, .int .i64 E]) ∧ w'.ownsRow W'.heap.size 45 2 v l.length (flatE l)) ∧ Below W'.heap.size W' w') from HM0 W'))
  clear hWa hb0 r0 r1 ra HM0 hd hsa
  by_cases hE : E = 0
  · subst hE
    obtain ⟨hbok, hpos⟩ := ask_bok hd0 hd6 hR
    obtain ⟨J, hW, hEf, hJn⟩ := ask_way hd0 hd6 hR
    have HOnce := Lib.hid (fun (i : Nat) (hi : i < l.length) (m m2 : Nd) (hm : apL base n (l.take i) = some m) (hm2 : apL base n (l.take (i + 1)) = some m2) => once_law hd0 hd6 hR hi hm hm2)
    obtain ⟨L, hL⟩ : ∃ L, L = l.length := ⟨_, rfl⟩
    have HL := Lib.hid hL
    have HPos := Lib.hid hpos
    have HWj := Lib.hid hW
    have HBok := Lib.hid hbok
    have EGa := Lib.hid (enters_of Try.func15 (by kernel_rfl) rfl)
    have mixed : Try.prog.follows .mixedOrders = true := by kernel_rfl
    obtain ⟨mm0, hmm0, hmm1, _⟩ := hW.at_ 0 (Nat.zero_le _)
    cases hmm0
    obtain ⟨W0, hW0⟩ : ∃ W0, W0 = wo9 n := ⟨_, rfl⟩
    have HU0 := Lib.hid (show (uws W0).length = 24 by rw [uws_len, hW0]; rfl)
    have HWD0 := Lib.hid (fun W => (show Calls Try.prog 19 #[n.V] W (fun e w' => e = .returned (.agg (uws W0).toArray) ∧ Below W.heap.size W w') from by
      have := r8Words_any n W
      rw [words_wo9 hmm1.1, ← hW0] at this
      exact this))
    have HSQ0 := Lib.hid (show sq base n l 0 = uws W0 by rw [sq_zero, hW0])
    rw [← hL] at hlen HM
    clear hL hW hbok hpos hR hJn hEf hmm1 hW0
    go_enter Try.func6, Try.ntmps6
    go_wp2_with (first
      | (rw [← HWa.out]; go_simp)
      | ((with_reducible refine show_loadN9 ?_); refine wpList_load_mid rfl _ _ rfl w.heap.size 0 rfl n.cl _ (ndR HR1.out) Try.underlying27 rfl ndI ?_)
      | ((with_reducible refine show_loadN9 ?_); refine wpList_load_mid rfl _ _ rfl w.heap.size 0 rfl n.cl _ (ndR HLE.out.nd) Try.underlying27 rfl ndI ?_)
      | (go_at_call 9; refine (HM.out _).mono ?_; rintro e w1 ⟨⟨v1, rfl, ho1⟩, h1⟩; obtain ⟨g, cap, rfl, hg1, hg2, hcs⟩ := puts_cells (l := l) (by rw [← HL.out]; exact ho1) HPos.out; rw [← HL.out]; have HLE := Lib.hid (show LA9 w w1 base n k key ptr l g 0 n from ⟨HR1.out.below h1 HR1.out.lt, rfl, HRA.out.below h1 HRA.out.lt, hcs, by have := HSA.out; omega, hg2, low_and HB0.out h1⟩); have c3 : w1.cell? ⟨w.heap.size, 3, none⟩ = some (.int .u64 n.ct) := ndAt_at HLE.out.nd 3; clear ho1 h1 hg1 hg2 hcs)
      | (go_at_call 19; refine (HWD0.out _).mono ?_; rintro e w2 ⟨rfl, h2⟩; have HLE2 := Lib.hid (HLE.out.below (low_and h2 (alloc_low w2 (.cells (uws W0).toArray 51)))); have hs12 := h2.size; clear h2)
      | ((with_reducible refine show_build51 ?_); refine build51 rfl _ rfl (uws W0) HU0.out rfl ?_)
      | (at_builtin; refine app51 rfl _ _ rfl w1.heap.size _ 0 [] rfl (World.ownsRow_nil _ _ _ _) w2.heap.size (uws W0) HU0.out (uws_one _) rfl (Row.new w2 51 _) (by omega) (by simp; omega) ?_; intro v3 w3 hs3 hg3; have HS3 := Lib.hid (show Seen w1.heap.size w3 v3 (sq base n l 0) 1 from by rw [HSQ0.out]; exact hs3); have HL3 := Lib.hid (HLE2.out.grown (B := w1.heap.size) hg3 (by intro q hq; cases hq) HLE.out.glt); clear hs3 hg3))
    have hgB0 := HLE.out.glt
    have hwB0 : w.heap.size < w1.heap.size := HLE.out.nd.lt
    obtain ⟨B, hB⟩ : ∃ B, B = w1.heap.size := ⟨_, rfl⟩
    rw [← hB] at HS3 hgB0 hwB0
    have hgB := hgB0
    have hwB := hwB0
    clear hgB0 hwB0 hB
    go_loopw [10, 11] (fun sv iv wr => ∃ (i' : Nat) (m : Nd), i' ≤ L ∧ iv = .int .i64 (i' : Int) ∧ LA9 w wr base n k key ptr l g i' m ∧ Seen B wr sv (sq base n l i') (i' + 1)) (fun _ iv _ => L - (intOf iv).toNat)
    case atStart => exact ⟨0, n, Nat.zero_le _, rfl, HL3.out, HS3.out⟩
    case round =>
      rename World => wr
      obtain ⟨i, m, hi, rfl, hle, hsn⟩ := hrel
      have HLr := Lib.hid hle
      by_cases hlt : i < L
      · have hilen : decide ((i : Int) < (L : Int)) = true := by rw [decide_eq_true_eq]; omega
        obtain ⟨gs, caps, rfl, _, _, _⟩ := hsn.shape
        have HSr := Lib.hid hsn
        obtain ⟨hm1, hes1, m2, ⟨sA, sV⟩, hs, hap2, _, hm2, hes2, hapR⟩ := LA9.step HWj.out HBok.out (by rw [← HL.out]; exact hlt) hle.apd
        obtain ⟨f1, f2⟩ := flatE_at l i _ hs
        have HSt := Lib.hid (show ∀ W, Below wr.heap.size wr W → NdAt W w.heap.size m ∧ W.cell? ⟨g, i * 2, none⟩ = some (.int .u64 sA) ∧ W.cell? ⟨g, i * 2 + 1, none⟩ = some (.int .u64 sV) from fun W hbw => ⟨(HLr.out.below hbw).nd, (HLr.out.below hbw).cells _ _ f1, (HLr.out.below hbw).cells _ _ f2⟩)
        have HAp := Lib.hid (fun W' => (show Calls Try.prog 15 #[.int .u64 base, m.V, .agg #[.int .u64 sA, .int .u64 sV]] W' (fun e w' => e = .returned (.tuple #[m2.V, .int .i64 0]) ∧ Below W'.heap.size W' w') from by
          have := r9apply_any hb m sA sV W'
          rw [hapR] at this
          exact this))
        have HAP2 := Lib.hid hap2
        have hgl := hle.glt
        obtain ⟨hct, hold⟩ := HOnce.out i (by rw [← HL.out]; exact hlt) m m2 hle.apd hap2
        obtain ⟨V2, hV2⟩ : ∃ V2, V2 = wo9 m2 := ⟨_, rfl⟩
        obtain ⟨V1, hV1⟩ : ∃ V1, V1 = wsAt base (wo9 n) (l.take i) := ⟨_, rfl⟩
        have HV2l := Lib.hid (show V2.length = 24 by rw [hV2]; rfl)
        have HV1l := Lib.hid (show V1.length = 24 by rw [hV1, wsAt_len]; rfl)
        have HU2 := Lib.hid (show (uws V2).length = 24 by rw [uws_len]; exact HV2l.out)
        have HU1 := Lib.hid (show (uws V1).length = 24 by rw [uws_len]; exact HV1l.out)
        have HWs2 := Lib.hid (show V2 = wsAt base (wo9 n) (l.take (i + 1)) by rw [hV2]; exact (apL_wo9 hap2).1)
        have HOld := Lib.hid (show ∀ j, V2.getD j 0 ≠ V1.getD j 0 → ∀ q, q ≤ i → (wsAt base (wo9 n) (l.take q)).getD j 0 ≠ V2.getD j 0 from fun j hj q hq => by
          obtain ⟨mq, hmq, _, _⟩ := HWj.out.at_ q (by rw [← HL.out]; omega)
          have := hold j (by rw [← hV2, (apL_wo9 hle.apd).1, ← hV1]; exact hj) q hq mq hmq
          rw [(apL_wo9 hmq).1, ← hV2] at this
          exact this)
        have HWD2 := Lib.hid (fun W => (show Calls Try.prog 19 #[m2.V] W (fun e w' => e = .returned (.agg (uws V2).toArray) ∧ Below W.heap.size W w') from by
          have := r8Words_any m2 W
          rw [words_wo9 hm2, ← hV2] at this
          exact this))
        have lastR : ∀ (W : World), Seen B W (.slice (some ⟨gs, 0, none⟩) (i + 1) caps) (sq base n l i) (i + 1) → W.rangeAt gs (i * 24) (uws V1) := fun W h x u hx => by
          obtain ⟨gsx, capx, hex, _, _, hcx⟩ := h.shape
          have hgg : gs = gsx := by cases hex; rfl
          rw [hgg]
          have hx24 : x < 24 := by have := (List.getElem?_eq_some_iff.1 hx).1; rw [HU1.out] at this; exact this
          refine hcx _ _ ?_
          rw [sq_at base n l i i x (Nat.le_refl _) hx24, ← hV1]
          rw [uws_at HV1l.out hx24 rfl] at hx
          exact hx
        have lastR := Lib.hid lastR
        rw [← HL.out] at hct
        obtain ⟨ctv, hctv⟩ : ∃ ctv, ctv = m2.ct := ⟨_, rfl⟩
        rw [← hctv] at hct
        have HCt := Lib.hid hctv
        clear hle hsn hm1 hes1 hs hap2 hm2 hes2 hapR f1 f2 hold hV2 hV1 hctv
        go_upto_region 10 with (fail)
        go_cut [12, 13] (fun s12 s13 wx => ∃ p, s12 = .pointer (some ⟨p, 0, none⟩) ∧ s13 = .int .i64 0 ∧ NdAt wx p m2 ∧ wr.heap.size ≤ p ∧ Below wr.heap.size wr wx)
        case first =>
          refine wp_region_held_drew (S := fun W' => NdAt W' w.heap.size m ∧ W'.cell? ⟨g, i * 2, none⟩ = some (.int .u64 sA) ∧ W'.cell? ⟨g, i * 2 + 1, none⟩ = some (.int .u64 sV)) (by kernel_rfl) (HSt.out _ (drew_low9 _)) (fun hHeld => ?_)
          refine wpAnyH_take (i := 0) (oi := ⟨some 42, _, _, _, _, _⟩) (v := .int .u64 base) rfl (by kernel_rfl) (by kernel_rfl) (by kernel_rfl) (fun _ _ _ h => h) (Or.inl ⟨by rfl, by intro WW hSw; (try dsimp only at hSw); go_simp⟩) (by assumption) ?_
          (try simp only [Act.put, List.setIfInBounds_toArray, List.set_cons_zero, List.set_cons_succ])
          refine wpAnyH_take (i := 1) (oi := ⟨some 43, _, _, _, _, _⟩) (v := .agg m.cl.toArray) rfl (by kernel_rfl) (by kernel_rfl) (by kernel_rfl) (fun _ _ _ h => h) (yieldsIf_load_mid (by rfl) _ _ rfl w.heap.size 0 rfl m.cl _ (fun w' hw' => ndR hw'.1) Try.underlying27 rfl ndI) (by assumption) ?_
          (try simp only [Act.put, List.setIfInBounds_toArray, List.set_cons_zero, List.set_cons_succ])
          refine wpAnyH_take (i := 2) (oi := ⟨some 44, _, _, _, _, _⟩) (v := .slice (some ⟨g, 0, none⟩) L cap) rfl (by kernel_rfl) (by kernel_rfl) (by kernel_rfl) (fun _ _ _ h => h) (Or.inl ⟨by rfl, by intro WW hSw; (try dsimp only at hSw); go_simp⟩) (by assumption) ?_
          (try simp only [Act.put, List.setIfInBounds_toArray, List.set_cons_zero, List.set_cons_succ])
          refine wpAnyH_take (i := 3) (oi := ⟨some 45, _, _, _, _, _⟩) (v := .int .i64 (i : Int)) rfl (by kernel_rfl) (by kernel_rfl) (by kernel_rfl) (fun _ _ _ h => h) (Or.inl ⟨by rfl, by intro WW hSw; (try dsimp only at hSw); go_simp⟩) (by assumption) ?_
          (try simp only [Act.put, List.setIfInBounds_toArray, List.set_cons_zero, List.set_cons_succ])
          refine wpAnyH_take (i := 4) (oi := ⟨some 46, _, _, _, _, _⟩) (v := .pointer (some ⟨g, i * 2, none⟩)) rfl (by kernel_rfl) (by kernel_rfl) (by kernel_rfl) (fun _ _ _ h => h) (Or.inl ⟨by rfl, by intro WW hSw; (try dsimp only at hSw); go_simp⟩) (by assumption) ?_
          (try simp only [Act.put, List.setIfInBounds_toArray, List.set_cons_zero, List.set_cons_succ])
          refine wpAnyH_take (i := 5) (oi := ⟨some 47, _, _, _, _, _⟩) (v := .agg #[.int .u64 sA, .int .u64 sV]) rfl (by kernel_rfl) (by kernel_rfl) (by kernel_rfl) (fun _ _ _ h => h) (Or.inl ⟨by rfl, by intro WW hSw; (try dsimp only at hSw); go_simp⟩) (by assumption) ?_
          (try simp only [Act.put, List.setIfInBounds_toArray, List.set_cons_zero, List.set_cons_succ])
          refine wpAnyH_ready (rs := [6, 10]) (by kernel_rfl) (by simp) (AllReadyH.cons (i := 6) (o := ⟨some 48, _, _, _, _, _⟩) rfl (fun K hK => ?_) (AllReadyH.cons (i := 10) (o := ⟨some 12, _, _, _, _, _⟩) rfl (fun K hK => ?_) AllReadyH.nil))
          · refine step_calls (by rfl) 15 EGa.out [.tmp 42, .tmp 43, .tmp 47] _ rfl [.int .u64 base, m.V, .agg #[.int .u64 sA, .int .u64 sV]] rfl (HAp.out _) ?_
            rintro e w2 ⟨rfl, h2⟩
            refine ⟨_, rfl, hK.out _ _ (HSt.out _ (low_and (drew_low9 _) h2)) (fun hSn => ?_)⟩
            clear hK K
            (try simp only [Act.put, List.setIfInBounds_toArray, List.set_cons_zero, List.set_cons_succ])
            refine wpAnyH_take (i := 7) (oi := ⟨some 41, _, _, _, _, _⟩) (v := .tuple #[m2.V, .int .i64 0]) rfl (by kernel_rfl) (by kernel_rfl) (by kernel_rfl) (fun _ _ _ h => h) (Or.inl ⟨by rfl, by intro WW hSw; (try dsimp only at hSw); go_simp⟩) (by assumption) ?_
            (try simp only [Act.put, List.setIfInBounds_toArray, List.set_cons_zero, List.set_cons_succ])
            refine wpAnyH_take (i := 8) (oi := ⟨some 49, _, _, _, _, _⟩) (v := m2.V) rfl (by kernel_rfl) (by kernel_rfl) (by kernel_rfl) (fun _ _ _ h => h) (Or.inl ⟨by rfl, by intro WW hSw; (try dsimp only at hSw); go_simp⟩) (by assumption) ?_
            (try simp only [Act.put, List.setIfInBounds_toArray, List.set_cons_zero, List.set_cons_succ])
            refine wpAnyH_take (i := 9) (oi := ⟨some 50, _, _, _, _, _⟩) (v := .int .i64 0) rfl (by kernel_rfl) (by kernel_rfl) (by kernel_rfl) (fun _ _ _ h => h) (Or.inl ⟨by rfl, by intro WW hSw; (try dsimp only at hSw); go_simp⟩) (by assumption) ?_
            (try simp only [Act.put, List.setIfInBounds_toArray, List.set_cons_zero, List.set_cons_succ])
            refine wpAnyH_one (i := 10) (oi := ⟨some 12, _, _, _, _, _⟩) rfl (by kernel_rfl) (fun K hK => ?_)
            rw [if_pos (by rfl)]
            unfold Oper.wp
            go_simp
            refine hK _ _ (HSt.out _ (low_and (low_and (drew_low9 _) h2) (alloc_low _ _))) (fun hSa => ?_)
            clear hK K
            (try simp only [Act.put, List.setIfInBounds_toArray, List.set_cons_zero, List.set_cons_succ])
            refine wpAnyH_one (i := 11) (oi := ⟨none, _, _, _, _, _⟩) rfl (by kernel_rfl) (fun K hK => ?_)
            rw [if_pos (by rfl)]
            refine wp_store_mid 27 _ _ rfl (w2.heap.size) 0 m2.cl.toArray rfl rfl (row_there (Row.new w2 27 zeroNd.cl.toArray) (Nat.le_refl 21)) ndI (all_oneCell_toArray (cl_one _)) ?_
            refine hK _ _ (HSt.out _ (setCells_low _ ((low_and (drew_low9 wr) h2).size) (low_and (low_and (drew_low9 _) h2) (alloc_low _ _)))) (fun hS2 => ?_)
            clear hK K
            (try simp only [Act.put, List.setIfInBounds_toArray, List.set_cons_zero, List.set_cons_succ])
            refine wpAnyH_take (i := 12) (oi := ⟨some 13, _, _, _, _, _⟩) (v := .int .i64 0) rfl (by kernel_rfl) (by kernel_rfl) (by kernel_rfl) (fun _ _ _ h => h) (Or.inl ⟨by rfl, by intro WW hSw; (try dsimp only at hSw); go_simp⟩) (by assumption) ?_
            (try simp only [Act.put, List.setIfInBounds_toArray, List.set_cons_zero, List.set_cons_succ])
            refine wpAnyH_done (by kernel_rfl) ?_ _
            go_wp2
            go_meet
            exact ⟨w2.heap.size, rfl, rfl, row_setCells (Row.new w2 27 zeroNd.cl.toArray) rfl, (low_and (drew_low9 wr) h2).size, setCells_low m2.cl (low_and (drew_low9 wr) h2).size (low_and (low_and (drew_low9 wr) h2) (alloc_low _ _))⟩
          · rw [if_pos (by rfl)]
            unfold Oper.wp
            go_simp
            refine hK.out _ _ (HSt.out _ (low_and (drew_low9 _) (alloc_low _ _))) (fun hSa => ?_)
            clear hK K
            (try simp only [Act.put, List.setIfInBounds_toArray, List.set_cons_zero, List.set_cons_succ])
            refine wpAnyH_one (i := 6) (oi := ⟨some 48, _, _, _, _, _⟩) rfl (by kernel_rfl) (fun K hK => ?_)
            refine step_calls (by rfl) 15 EGa.out [.tmp 42, .tmp 43, .tmp 47] _ rfl [.int .u64 base, m.V, .agg #[.int .u64 sA, .int .u64 sV]] rfl (HAp.out _) ?_
            rintro e w2 ⟨rfl, h2⟩
            refine ⟨_, rfl, hK _ _ (HSt.out _ (low_and (low_and (drew_low9 _) (alloc_low _ _)) h2)) (fun hSn => ?_)⟩
            clear hK K
            (try simp only [Act.put, List.setIfInBounds_toArray, List.set_cons_zero, List.set_cons_succ])
            refine wpAnyH_take (i := 7) (oi := ⟨some 41, _, _, _, _, _⟩) (v := .tuple #[m2.V, .int .i64 0]) rfl (by kernel_rfl) (by kernel_rfl) (by kernel_rfl) (fun _ _ _ h => h) (Or.inl ⟨by rfl, by intro WW hSw; (try dsimp only at hSw); go_simp⟩) (by assumption) ?_
            (try simp only [Act.put, List.setIfInBounds_toArray, List.set_cons_zero, List.set_cons_succ])
            refine wpAnyH_take (i := 8) (oi := ⟨some 49, _, _, _, _, _⟩) (v := m2.V) rfl (by kernel_rfl) (by kernel_rfl) (by kernel_rfl) (fun _ _ _ h => h) (Or.inl ⟨by rfl, by intro WW hSw; (try dsimp only at hSw); go_simp⟩) (by assumption) ?_
            (try simp only [Act.put, List.setIfInBounds_toArray, List.set_cons_zero, List.set_cons_succ])
            refine wpAnyH_take (i := 9) (oi := ⟨some 50, _, _, _, _, _⟩) (v := .int .i64 0) rfl (by kernel_rfl) (by kernel_rfl) (by kernel_rfl) (fun _ _ _ h => h) (Or.inl ⟨by rfl, by intro WW hSw; (try dsimp only at hSw); go_simp⟩) (by assumption) ?_
            (try simp only [Act.put, List.setIfInBounds_toArray, List.set_cons_zero, List.set_cons_succ])
            refine wpAnyH_one (i := 11) (oi := ⟨none, _, _, _, _, _⟩) rfl (by kernel_rfl) (fun K hK => ?_)
            rw [if_pos (by rfl)]
            refine wp_store_mid 27 _ _ rfl (wr.drew.heap.size) 0 m2.cl.toArray rfl rfl (row_there ((Row.new wr.drew 27 zeroNd.cl.toArray).below h2 (Row.new wr.drew 27 zeroNd.cl.toArray).lt) (Nat.le_refl 21)) ndI (all_oneCell_toArray (cl_one _)) ?_
            refine hK _ _ (HSt.out _ (setCells_low _ (Nat.le_refl _) (low_and (low_and (drew_low9 _) (alloc_low _ _)) h2))) (fun hS2 => ?_)
            clear hK K
            (try simp only [Act.put, List.setIfInBounds_toArray, List.set_cons_zero, List.set_cons_succ])
            refine wpAnyH_take (i := 12) (oi := ⟨some 13, _, _, _, _, _⟩) (v := .int .i64 0) rfl (by kernel_rfl) (by kernel_rfl) (by kernel_rfl) (fun _ _ _ h => h) (Or.inl ⟨by rfl, by intro WW hSw; (try dsimp only at hSw); go_simp⟩) (by assumption) ?_
            (try simp only [Act.put, List.setIfInBounds_toArray, List.set_cons_zero, List.set_cons_succ])
            refine wpAnyH_done (by kernel_rfl) ?_ _
            go_wp2
            go_meet
            exact ⟨wr.drew.heap.size, rfl, rfl, row_setCells ((Row.new wr.drew 27 zeroNd.cl.toArray).below h2 (Row.new wr.drew 27 zeroNd.cl.toArray).lt) rfl, (Nat.le_refl _ : wr.heap.size ≤ wr.drew.heap.size), setCells_low m2.cl (Nat.le_refl _) (low_and (low_and (drew_low9 wr) (alloc_low _ _)) h2)⟩
        case rest =>
          obtain ⟨p, rfl, rfl, hnd2, hp, hbx⟩ := hcut
          rename World => wx
          have HLx := Lib.hid (HLr.out.below hbx)
          have HSx := Lib.hid (HSr.out.below hbx)
          have HNx := Lib.hid hnd2
          have c3 : wx.cell? ⟨p, 3, none⟩ = some (.int .u64 ctv) := by rw [HCt.out]; exact ndAt_at HNx.out 3
          clear HSt HAp hnd2 hp hbx
          by_cases hend : i + 1 < L
          · rw [if_pos hend] at hct
            subst hct
            have n1 := wrap_12 n.ct
            have n2 : ((i : Int) + 1 == (L : Int)) = false := by rw [beq_eq_false_iff_ne]; omega
            go_wp2_with (first
              | ((with_reducible refine show_loadN9 ?_); refine wpList_load_mid rfl _ _ rfl p 0 rfl m2.cl _ (ndR HNx.out) Try.underlying27 rfl ndI ?_)
              | ((with_reducible refine show_loadN9 ?_); refine wpList_load_mid rfl _ _ rfl w.heap.size 0 rfl m2.cl _ (ndR HL6.out.nd) Try.underlying27 rfl ndI ?_)
              | ((with_reducible refine show_storeN9 ?_); refine wpList_store_row rfl _ _ _ rfl w.heap.size m2.cl rfl rfl HLx.out.nd rfl ndI (cl_one _) ?_; have HL6 := Lib.hid (HLx.out.store HAP2.out); have HS6 := Lib.hid (HSx.out.set hwB m2.cl); obtain ⟨W6, hW6⟩ : ∃ W6, W6 = wx.setCells w.heap.size 0 m2.cl := ⟨_, rfl⟩; rw [← hW6] at HL6 HS6 ⊢; clear hW6)
              | (go_at_call 19; refine (HWD2.out _).mono ?_; rintro e w7 ⟨rfl, h7⟩; have HL7 := Lib.hid (HL6.out.below h7); have HS7 := Lib.hid (HS6.out.below h7); clear h7)
              | ((with_reducible refine show_store51 ?_); refine wpList_store_row rfl _ _ _ rfl W8.heap.size (uws V1) rfl rfl (Row.new W8 51 zeroW.toArray) HU1.out (by rw [HU1.out]; exact w24I) (uws_one _) ?_; obtain ⟨wl, hwl, hr9, hb9⟩ := store_w51 W8 (uws V1) HU1.out; rw [← hwl]; have HQl := Lib.hid hr9; have HPl := Lib.hid (HP8.out.below hb9 HP8.out.lt); have HLl := Lib.hid (HL8.out.below hb9); have HSl := Lib.hid (HS8.out.below hb9); clear hwl hr9 hb9)
              | ((with_reducible refine show_store51 ?_); refine wpList_store_row rfl _ _ _ rfl w7.heap.size (uws V2) rfl rfl (Row.new w7 51 zeroW.toArray) HU2.out (by rw [HU2.out]; exact w24I) (uws_one _) ?_; obtain ⟨W8, hW8, hr8, hb8⟩ := store_w51 w7 (uws V2) HU2.out; rw [← hW8]; have HP8 := Lib.hid hr8; have HL8 := Lib.hid (HL7.out.below hb8); have HS8 := Lib.hid (HS7.out.below hb8); clear hW8 hr8 hb8)
              | ((with_reducible refine show_load51 ?_); refine wpList_load_mid rfl _ _ rfl gs (i * 24) rfl (uws V1) _ (lastR.out _ HS8.out) Try.underlying51 rfl (by rw [HU1.out]; exact w24I) ?_))
            obtain ⟨pw, hpw⟩ : ∃ pw, pw = w7.heap.size := ⟨_, rfl⟩
            obtain ⟨pq, hpq⟩ : ∃ pq, pq = W8.heap.size := ⟨_, rfl⟩
            rw [← hpw] at HPl ⊢
            rw [← hpq] at HQl ⊢
            clear hpw hpq
            obtain ⟨gsx, capx, hex, hgx1, hgx2, hcx⟩ := HSl.out.shape
            have hgg : gs = gsx := by cases hex; rfl
            have hBl : B ≤ wl.heap.size := by omega
            have HGs := Lib.hid (show gs < wl.heap.size by omega)
            have HCs := Lib.hid (show ∀ (y : Nat) (u : Value), (sq base n l i)[y]? = some u → wl.cell? ⟨gs, y, none⟩ = some u from by rw [hgg]; exact hcx)
            clear hex hgx1 hgx2 hcx hgg
            go_loopw [16] (fun jv W => ∃ j : Nat, j ≤ 24 ∧ jv = .int .i64 (j : Int) ∧ Below wl.heap.size wl W) (fun jv _ => 24 - (intOf jv).toNat)
            case atStart => exact ⟨0, by omega, rfl, Below.refl _ _⟩
            case round =>
              rename World => wj
              obtain ⟨j, hj, rfl, hbj⟩ := hrel
              have HBJ := Lib.hid hbj
              by_cases hj2 : j < 24
              · have p0 : decide ((j : Int) < 24) = true := by rw [decide_eq_true_eq]; omega
                obtain ⟨x2, hx2⟩ : ∃ x2, x2 = V2.getD j 0 := ⟨_, rfl⟩
                obtain ⟨x1, hx1⟩ : ∃ x1, x1 = V1.getD j 0 := ⟨_, rfl⟩
                have HX2 := Lib.hid (show (uws V2)[j]? = some (.int .u64 x2) from uws_at HV2l.out hj2 hx2)
                have HX1 := Lib.hid (show (uws V1)[j]? = some (.int .u64 x1) from uws_at HV1l.out hj2 hx1)
                have HNew := Lib.hid (show x2 ≠ x1 → ∀ q, q ≤ i → (wsAt base (wo9 n) (l.take q)).getD j 0 ≠ x2 from fun h => by rw [hx2]; exact HOld.out j (by rw [← hx2, ← hx1]; exact h))
                clear hx2 hx1 hbj
                go_wp2_with fail
                go_loopw [17] (fun kv W => ∃ q : Nat, q ≤ i + 1 ∧ kv = .int .i64 (q : Int) ∧ Below wl.heap.size wl W) (fun kv _ => i + 1 - (intOf kv).toNat)
                case atStart => exact ⟨0, by omega, rfl, HBJ.out⟩
                case round =>
                  rename World => wq
                  obtain ⟨q, hq, rfl, hbq⟩ := hrel
                  have HBQ := Lib.hid hbq
                  have cW : wq.cell? ⟨pw, j, none⟩ = some (.int .u64 x2) := by have := (HPl.out.below hbq HPl.out.lt).cell j; rw [List.getElem?_toArray] at this; exact this.trans HX2.out
                  have cV : wq.cell? ⟨pq, j, none⟩ = some (.int .u64 x1) := by have := (HQl.out.below hbq HQl.out.lt).cell j; rw [List.getElem?_toArray] at this; exact this.trans HX1.out
                  have ca := fun p : LowBy wq => p.cell cW
                  have cb := fun p : LowBy wq => p.cell cV
                  by_cases hq2 : q < i + 1
                  · have p1 : decide ((q : Int) < (i : Int) + 1) = true := by rw [decide_eq_true_eq]; omega
                    obtain ⟨xq, hxq⟩ : ∃ xq, xq = (wsAt base (wo9 n) (l.take q)).getD j 0 := ⟨_, rfl⟩
                    have hsl := (HSl.out.below hbq)
                    have cS : wq.cell? ⟨gs, q * 24 + j, none⟩ = some (.int .u64 xq) := (hbq.cell (p := ⟨gs, q * 24 + j, none⟩) HGs.out).trans (HCs.out _ _ (by rw [hxq]; exact sq_at base n l i q j (by omega) hj2))
                    have cc := fun p : LowBy wq => p.cell cS
                    by_cases hne : x2 = x1
                    · subst hne
                      have p2 : (x2 != x2) = false := by simp
                      clear hxq hsl cW cV cS
                      go_wp2_with fail
                      refine wp_region_quiet_low (by assumption) (by kernel_rfl) ?_
                      repeat (go_big_quiet_step (fail))
                      refine wpQuiet_nil ?_
                      intro _ hw'
                      obtain ⟨p, hw''⟩ := hw'
                      subst hw''
                      have HBP := Lib.hid p.low
                      clear ca cb cc
                      generalize p.W = wz at *
                      go_wp2_with fail
                      exact ⟨⟨j + 1, by omega, by go_num, low_and HBQ.out HBP.out⟩, by simp [intOf]; omega⟩
                    · have p2 : (x2 != x1) = true := by simpa using hne
                      have p3 : (xq == x2) = false := by rw [beq_eq_false_iff_ne, hxq]; exact HNew.out hne q (by omega)
                      clear hxq hsl cW cV
                      go_wp2_with fail
                      refine wp_region_quiet_low (by assumption) (by kernel_rfl) ?_
                      repeat (go_big_quiet_step (fail))
                      refine wpQuiet_nil ?_
                      intro _ hw'
                      obtain ⟨p, hw''⟩ := hw'
                      subst hw''
                      have HBP := Lib.hid p.low
                      have cW2 := ca p
                      have cS2 := cc p
                      clear ca cb cc cS
                      generalize p.W = wz at *
                      have ca := fun p : LowBy wz => p.cell cW2
                      have cc := fun p : LowBy wz => p.cell cS2
                      clear cW2 cS2
                      go_wp2_with fail
                      refine wp_region_quiet_low (by assumption) (by kernel_rfl) ?_
                      repeat (go_big_quiet_step (fail))
                      refine wpQuiet_nil ?_
                      intro _ hw'
                      obtain ⟨p, hw''⟩ := hw'
                      subst hw''
                      have HBP2 := Lib.hid p.low
                      have cW2 := ca p
                      have cS2 := cc p
                      clear ca cc
                      generalize p.W = wy at *
                      have ca := fun p : LowBy wy => p.cell cW2
                      have cc := fun p : LowBy wy => p.cell cS2
                      clear cW2 cS2
                      go_wp2_with fail
                      refine wp_region_quiet_low (by assumption) (by kernel_rfl) ?_
                      repeat (go_big_quiet_step (fail))
                      refine wpQuiet_nil ?_
                      intro _ hw'
                      obtain ⟨p, hw''⟩ := hw'
                      subst hw''
                      have HBP3 := Lib.hid p.low
                      clear ca cc
                      generalize p.W = wx2 at *
                      go_wp2_with fail
                      exact ⟨⟨q + 1, by omega, by go_num, low_and (low_and (low_and HBQ.out HBP.out) HBP2.out) HBP3.out⟩, by simp [intOf]; omega⟩
                  · have p1 : decide ((q : Int) < (i : Int) + 1) = false := by rw [decide_eq_false_iff_not]; omega
                    clear cW cV
                    go_wp2_with fail
                    refine wp_region_quiet_low (by assumption) (by kernel_rfl) ?_
                    repeat (go_big_quiet_step (fail))
                    refine wpQuiet_nil ?_
                    intro _ hw'
                    obtain ⟨p, hw''⟩ := hw'
                    subst hw''
                    have HBP := Lib.hid p.low
                    clear ca cb
                    generalize p.W = wz at *
                    go_wp2_with fail
                    exact ⟨⟨j + 1, by omega, by go_num, low_and HBQ.out HBP.out⟩, by simp [intOf]; omega⟩
              · have p0 : decide ((j : Int) < 24) = false := by rw [decide_eq_false_iff_not]; omega
                have HPj := Lib.hid (HPl.out.below hbj HPl.out.lt)
                have HLj := Lib.hid (HLl.out.below hbj)
                have HSj := Lib.hid (HSl.out.below hbj)
                have hBj : B ≤ wj.heap.size := Nat.le_trans hBl hbj.size
                clear hbj
                go_wp2_with (first
                  | ((with_reducible refine show_load51 ?_); refine wpList_load_mid rfl _ _ rfl pw 0 rfl (uws V2) _ (rowR HPj.out) Try.underlying51 rfl (by rw [HU2.out]; exact w24I) ?_)
                  | ((with_reducible refine show_build51 ?_); refine build51 rfl _ rfl (uws V2) HU2.out rfl ?_)
                  | (at_builtin; refine app51 rfl _ _ rfl B _ (i + 1) (sq base n l i) rfl (ownS_low HSj.out.own (alloc_low _ _)) wj.heap.size (uws V2) HU2.out (uws_one _) rfl (Row.new wj 51 _) (by omega) (by simp; omega) ?_; intro v9 w9 hs9 hg9; have HS9 := Lib.hid hs9; have HL9 := Lib.hid ((HLj.out.below (alloc_low _ _)).grown hg9 (ownB HSj.out.own) hgB); clear hs9 hg9))
                refine ⟨⟨i + 1, m2, by omega, by go_num, HL9.out, ?_⟩, by simp [intOf]; omega⟩
                rw [sq_succ, ← HWs2.out]
                exact HS9.out
          · rw [if_neg hend] at hct
            subst hct
            have n1 := wrap_21 n.ct
            have n2 : decide ((i : Int) + 1 < (L : Int)) = false := by rw [decide_eq_false_iff_not]; omega
            go_wp2_with (first
              | ((with_reducible refine show_loadN9 ?_); refine wpList_load_mid rfl _ _ rfl p 0 rfl m2.cl _ (ndR HNx.out) Try.underlying27 rfl ndI ?_)
              | ((with_reducible refine show_loadN9 ?_); refine wpList_load_mid rfl _ _ rfl w.heap.size 0 rfl m2.cl _ (ndR HL6.out.nd) Try.underlying27 rfl ndI ?_)
              | ((with_reducible refine show_storeN9 ?_); refine wpList_store_row rfl _ _ _ rfl w.heap.size m2.cl rfl rfl HLx.out.nd rfl ndI (cl_one _) ?_; have HL6 := Lib.hid (HLx.out.store HAP2.out); have HS6 := Lib.hid (HSx.out.set hwB m2.cl); obtain ⟨W6, hW6⟩ : ∃ W6, W6 = wx.setCells w.heap.size 0 m2.cl := ⟨_, rfl⟩; rw [← hW6] at HL6 HS6 ⊢; clear hW6)
              | (go_at_call 19; refine (HWD2.out _).mono ?_; rintro e w7 ⟨rfl, h7⟩; have HL7 := Lib.hid (HL6.out.below h7); have HS7 := Lib.hid (HS6.out.below h7); clear h7)
              | ((with_reducible refine show_store51 ?_); refine wpList_store_row rfl _ _ _ rfl W8.heap.size (uws V1) rfl rfl (Row.new W8 51 zeroW.toArray) HU1.out (by rw [HU1.out]; exact w24I) (uws_one _) ?_; obtain ⟨wl, hwl, hr9, hb9⟩ := store_w51 W8 (uws V1) HU1.out; rw [← hwl]; have HQl := Lib.hid hr9; have HPl := Lib.hid (HP8.out.below hb9 HP8.out.lt); have HLl := Lib.hid (HL8.out.below hb9); have HSl := Lib.hid (HS8.out.below hb9); clear hwl hr9 hb9)
              | ((with_reducible refine show_store51 ?_); refine wpList_store_row rfl _ _ _ rfl w7.heap.size (uws V2) rfl rfl (Row.new w7 51 zeroW.toArray) HU2.out (by rw [HU2.out]; exact w24I) (uws_one _) ?_; obtain ⟨W8, hW8, hr8, hb8⟩ := store_w51 w7 (uws V2) HU2.out; rw [← hW8]; have HP8 := Lib.hid hr8; have HL8 := Lib.hid (HL7.out.below hb8); have HS8 := Lib.hid (HS7.out.below hb8); clear hW8 hr8 hb8)
              | ((with_reducible refine show_load51 ?_); refine wpList_load_mid rfl _ _ rfl gs (i * 24) rfl (uws V1) _ (lastR.out _ HS8.out) Try.underlying51 rfl (by rw [HU1.out]; exact w24I) ?_))
            obtain ⟨pw, hpw⟩ : ∃ pw, pw = w7.heap.size := ⟨_, rfl⟩
            obtain ⟨pq, hpq⟩ : ∃ pq, pq = W8.heap.size := ⟨_, rfl⟩
            rw [← hpw] at HPl ⊢
            rw [← hpq] at HQl ⊢
            clear hpw hpq
            obtain ⟨gsx, capx, hex, hgx1, hgx2, hcx⟩ := HSl.out.shape
            have hgg : gs = gsx := by cases hex; rfl
            have hBl : B ≤ wl.heap.size := by omega
            have HGs := Lib.hid (show gs < wl.heap.size by omega)
            have HCs := Lib.hid (show ∀ (y : Nat) (u : Value), (sq base n l i)[y]? = some u → wl.cell? ⟨gs, y, none⟩ = some u from by rw [hgg]; exact hcx)
            clear hex hgx1 hgx2 hcx hgg
            go_loopw [16] (fun jv W => ∃ j : Nat, j ≤ 24 ∧ jv = .int .i64 (j : Int) ∧ Below wl.heap.size wl W) (fun jv _ => 24 - (intOf jv).toNat)
            case atStart => exact ⟨0, by omega, rfl, Below.refl _ _⟩
            case round =>
              rename World => wj
              obtain ⟨j, hj, rfl, hbj⟩ := hrel
              have HBJ := Lib.hid hbj
              by_cases hj2 : j < 24
              · have p0 : decide ((j : Int) < 24) = true := by rw [decide_eq_true_eq]; omega
                obtain ⟨x2, hx2⟩ : ∃ x2, x2 = V2.getD j 0 := ⟨_, rfl⟩
                obtain ⟨x1, hx1⟩ : ∃ x1, x1 = V1.getD j 0 := ⟨_, rfl⟩
                have HX2 := Lib.hid (show (uws V2)[j]? = some (.int .u64 x2) from uws_at HV2l.out hj2 hx2)
                have HX1 := Lib.hid (show (uws V1)[j]? = some (.int .u64 x1) from uws_at HV1l.out hj2 hx1)
                have HNew := Lib.hid (show x2 ≠ x1 → ∀ q, q ≤ i → (wsAt base (wo9 n) (l.take q)).getD j 0 ≠ x2 from fun h => by rw [hx2]; exact HOld.out j (by rw [← hx2, ← hx1]; exact h))
                clear hx2 hx1 hbj
                go_wp2_with fail
                go_loopw [17] (fun kv W => ∃ q : Nat, q ≤ i + 1 ∧ kv = .int .i64 (q : Int) ∧ Below wl.heap.size wl W) (fun kv _ => i + 1 - (intOf kv).toNat)
                case atStart => exact ⟨0, by omega, rfl, HBJ.out⟩
                case round =>
                  rename World => wq
                  obtain ⟨q, hq, rfl, hbq⟩ := hrel
                  have HBQ := Lib.hid hbq
                  have cW : wq.cell? ⟨pw, j, none⟩ = some (.int .u64 x2) := by have := (HPl.out.below hbq HPl.out.lt).cell j; rw [List.getElem?_toArray] at this; exact this.trans HX2.out
                  have cV : wq.cell? ⟨pq, j, none⟩ = some (.int .u64 x1) := by have := (HQl.out.below hbq HQl.out.lt).cell j; rw [List.getElem?_toArray] at this; exact this.trans HX1.out
                  have ca := fun p : LowBy wq => p.cell cW
                  have cb := fun p : LowBy wq => p.cell cV
                  by_cases hq2 : q < i + 1
                  · have p1 : decide ((q : Int) < (i : Int) + 1) = true := by rw [decide_eq_true_eq]; omega
                    obtain ⟨xq, hxq⟩ : ∃ xq, xq = (wsAt base (wo9 n) (l.take q)).getD j 0 := ⟨_, rfl⟩
                    have hsl := (HSl.out.below hbq)
                    have cS : wq.cell? ⟨gs, q * 24 + j, none⟩ = some (.int .u64 xq) := (hbq.cell (p := ⟨gs, q * 24 + j, none⟩) HGs.out).trans (HCs.out _ _ (by rw [hxq]; exact sq_at base n l i q j (by omega) hj2))
                    have cc := fun p : LowBy wq => p.cell cS
                    by_cases hne : x2 = x1
                    · subst hne
                      have p2 : (x2 != x2) = false := by simp
                      clear hxq hsl cW cV cS
                      go_wp2_with fail
                      refine wp_region_quiet_low (by assumption) (by kernel_rfl) ?_
                      repeat (go_big_quiet_step (fail))
                      refine wpQuiet_nil ?_
                      intro _ hw'
                      obtain ⟨p, hw''⟩ := hw'
                      subst hw''
                      have HBP := Lib.hid p.low
                      clear ca cb cc
                      generalize p.W = wz at *
                      go_wp2_with fail
                      exact ⟨⟨j + 1, by omega, by go_num, low_and HBQ.out HBP.out⟩, by simp [intOf]; omega⟩
                    · have p2 : (x2 != x1) = true := by simpa using hne
                      have p3 : (xq == x2) = false := by rw [beq_eq_false_iff_ne, hxq]; exact HNew.out hne q (by omega)
                      clear hxq hsl cW cV
                      go_wp2_with fail
                      refine wp_region_quiet_low (by assumption) (by kernel_rfl) ?_
                      repeat (go_big_quiet_step (fail))
                      refine wpQuiet_nil ?_
                      intro _ hw'
                      obtain ⟨p, hw''⟩ := hw'
                      subst hw''
                      have HBP := Lib.hid p.low
                      have cW2 := ca p
                      have cS2 := cc p
                      clear ca cb cc cS
                      generalize p.W = wz at *
                      have ca := fun p : LowBy wz => p.cell cW2
                      have cc := fun p : LowBy wz => p.cell cS2
                      clear cW2 cS2
                      go_wp2_with fail
                      refine wp_region_quiet_low (by assumption) (by kernel_rfl) ?_
                      repeat (go_big_quiet_step (fail))
                      refine wpQuiet_nil ?_
                      intro _ hw'
                      obtain ⟨p, hw''⟩ := hw'
                      subst hw''
                      have HBP2 := Lib.hid p.low
                      have cW2 := ca p
                      have cS2 := cc p
                      clear ca cc
                      generalize p.W = wy at *
                      have ca := fun p : LowBy wy => p.cell cW2
                      have cc := fun p : LowBy wy => p.cell cS2
                      clear cW2 cS2
                      go_wp2_with fail
                      refine wp_region_quiet_low (by assumption) (by kernel_rfl) ?_
                      repeat (go_big_quiet_step (fail))
                      refine wpQuiet_nil ?_
                      intro _ hw'
                      obtain ⟨p, hw''⟩ := hw'
                      subst hw''
                      have HBP3 := Lib.hid p.low
                      clear ca cc
                      generalize p.W = wx2 at *
                      go_wp2_with fail
                      exact ⟨⟨q + 1, by omega, by go_num, low_and (low_and (low_and HBQ.out HBP.out) HBP2.out) HBP3.out⟩, by simp [intOf]; omega⟩
                  · have p1 : decide ((q : Int) < (i : Int) + 1) = false := by rw [decide_eq_false_iff_not]; omega
                    clear cW cV
                    go_wp2_with fail
                    refine wp_region_quiet_low (by assumption) (by kernel_rfl) ?_
                    repeat (go_big_quiet_step (fail))
                    refine wpQuiet_nil ?_
                    intro _ hw'
                    obtain ⟨p, hw''⟩ := hw'
                    subst hw''
                    have HBP := Lib.hid p.low
                    clear ca cb
                    generalize p.W = wz at *
                    go_wp2_with fail
                    exact ⟨⟨j + 1, by omega, by go_num, low_and HBQ.out HBP.out⟩, by simp [intOf]; omega⟩
              · have p0 : decide ((j : Int) < 24) = false := by rw [decide_eq_false_iff_not]; omega
                have HPj := Lib.hid (HPl.out.below hbj HPl.out.lt)
                have HLj := Lib.hid (HLl.out.below hbj)
                have HSj := Lib.hid (HSl.out.below hbj)
                have hBj : B ≤ wj.heap.size := Nat.le_trans hBl hbj.size
                clear hbj
                go_wp2_with (first
                  | ((with_reducible refine show_load51 ?_); refine wpList_load_mid rfl _ _ rfl pw 0 rfl (uws V2) _ (rowR HPj.out) Try.underlying51 rfl (by rw [HU2.out]; exact w24I) ?_)
                  | ((with_reducible refine show_build51 ?_); refine build51 rfl _ rfl (uws V2) HU2.out rfl ?_)
                  | (at_builtin; refine app51 rfl _ _ rfl B _ (i + 1) (sq base n l i) rfl (ownS_low HSj.out.own (alloc_low _ _)) wj.heap.size (uws V2) HU2.out (uws_one _) rfl (Row.new wj 51 _) (by omega) (by simp; omega) ?_; intro v9 w9 hs9 hg9; have HS9 := Lib.hid hs9; have HL9 := Lib.hid ((HLj.out.below (alloc_low _ _)).grown hg9 (ownB HSj.out.own) hgB); clear hs9 hg9))
                refine ⟨⟨i + 1, m2, by omega, by go_num, HL9.out, ?_⟩, by simp [intOf]; omega⟩
                rw [sq_succ, ← HWs2.out]
                exact HS9.out
      · have hnl2 : decide ((i : Int) < (L : Int)) = false := by rw [decide_eq_false_iff_not]; omega
        clear hle hsn
        go_wp2_with (go_at_call 12; refine (HK.out _).mono ?_; rintro e w9 ⟨rfl, h9⟩)
        go_ret
        exact ⟨rfl, low_and HLr.out.low h9⟩
  · have hE1 : (E != 0) = true := by simpa using hE
    clear hR
    go_enter Try.func6, Try.ntmps6
    go_wp2_with (first
      | (rw [← HWa.out]; go_simp)
      | ((with_reducible refine show_loadN9 ?_); refine wpList_load_mid rfl _ _ rfl w.heap.size 0 rfl n.cl _ (ndR HR1.out) Try.underlying27 rfl ndI ?_)
      | (go_at_call 9; refine (HM.out _).mono ?_; rintro e w1 ⟨⟨v1, rfl, ho1⟩, h1⟩; have HB1 := Lib.hid h1; clear h1 ho1)
      | (go_at_call 12; refine (HK.out _).mono ?_; rintro e w4 ⟨rfl, h4⟩; have HB4 := Lib.hid h4; clear h4))
    go_ret
    exact ⟨rfl, low_and (low_and HB0.out HB1.out) HB4.out⟩
end Go.Proofs.Ytbadlmicbbjkaaa
