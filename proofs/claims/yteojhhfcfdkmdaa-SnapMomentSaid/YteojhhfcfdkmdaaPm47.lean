/- Texts of this claim, packed: SnMt. -/
import Derived.Test.YteojhhfcfdkmdaaPm46
set_option linter.unusedSimpArgs false
set_option linter.unusedVariables false
/- The law SnapMoment; conditions: the numbers are such as Go's types hold. -/
namespace Go.Proofs.Yteojhhfcfdkmdaa
open Go.RowKit
set_option linter.unusedVariables false
attribute [local go_sem] Oper.semAt_some
theorem run_build_wr (gy : Nat) (n : Nd) (A : Option Addr) (m c : Nat) (W : World) : (Instr.build 39 #[(0, .pointer (some ⟨gy, 0, none⟩)), (1, .agg n.cl.toArray), (2, .slice A m c)]).run Try.prog W = .ok (.agg (wrV gy n (.slice A m c) (.pointer none)).toArray) W := by
  kernel_rfl
/-- A writer is built. -/
theorem wpList_build_wr {ops : Array Oper} {rest : List Oper} {op : Oper} {a : Act} {w : World} {Q : Exit → Act → World → Prop} (hgd : op.guard = none) (x y z : Operand) (ho : op.op = .build 39 #[(0, x), (1, y), (2, z)])
    (gy : Nat) (n : Nd) (A : Option Addr) (m c : Nat) (hx : a.eval x = .pointer (some ⟨gy, 0, none⟩)) (hy : a.eval y = .agg n.cl.toArray) (hz : a.eval z = .slice A m c) (h : wpList Try.prog ops Q rest (a.put op.dst (.agg (wrV gy n (.slice A m c) (.pointer none)).toArray)) w) : wpList Try.prog ops Q (op :: rest) a w :=
  wpList_plain hgd fun _ hK => by
    unfold Oper.wp execOp
    simp only [ho]
    simp only [List.map_toArray, List.map_cons, List.map_nil, hx, hy, hz, run_build_wr, Sem.run_bind, Sem.run_pure, Result.andThen_ok]
    exact hK _ _ h
theorem show_buildW {P : Program} {ops : Array Oper} {rest : List Oper} {Q : Exit → Act → World → Prop} {d : Option Nat} {t2 : TypeId} {x y z : Operand} {ps : String} {af : Array Edge} {a : Act} {w : World} (h : wpList P ops Q (⟨d, .build 39 #[(0, x), (1, y), (2, z)], t2, ps, af, none⟩ :: rest) a w) : wpList P ops Q (⟨d, .build 39 #[(0, x), (1, y), (2, z)], t2, ps, af, none⟩ :: rest) a w := h
theorem show_boxW {P : Program} {ops : Array Oper} {rest : List Oper} {Q : Exit → Act → World → Prop} {d : Option Nat} {t2 : TypeId} {x : Operand} {ps : String} {af : Array Edge} {a : Act} {w : World} (h : wpList P ops Q (⟨d, .box 39 x, t2, ps, af, none⟩ :: rest) a w) : wpList P ops Q (⟨d, .box 39 x, t2, ps, af, none⟩ :: rest) a w := h
set_option maxRecDepth 100000 in
set_option maxHeartbeats 12800000 in
theorem snapMoment_main (n : Nd) (hf : n.Fits) (low : Int) (hl : 0 ≤ low ∧ low < 18446744073709551616) (A : Option Addr) (m cap : Nat) (l : List Ask3) (ahead : Int) (AT : Option Addr) (nT capT : Nat) (w : World) (ha : AsksIn w A m cap l) (hT : TurnsS w AT nT) (hrb : rightB n = true) (hm20 : m ≤ 20) (hT300 : nT ≤ 300) :
    Calls Try.prog 3 #[n.V, .int .u64 low, .slice A m cap, .int .i64 ahead, .slice AT nT capT] w fun e w' => e = .returned (.bool true) ∧ Below w.heap.size w w' := by
  have mixed : Try.prog.follows .mixedOrders = true := by kernel_rfl
  have hws := fits_words (side_fits hf)
  have HLD := Lib.hid fun W => laid11_any n.side low hws hl W
  have HLds := Lib.hid (laidM_Lds hws hl)
  have HRT := Lib.hid fun W => right11_any n W
  have HCU := Lib.hid (cur_start hf hrb)
  have HMI := Lib.hid (mem_start hf hl hrb)
  have rx := Row.new w 27 n.cl.toArray
  obtain ⟨Wa, hWa⟩ : ∃ Wa, Wa = w.alloc (.cells n.cl.toArray 27) := ⟨_, rfl⟩
  rw [← hWa] at rx
  have HBa := Lib.hid (show Below w.heap.size w Wa by rw [hWa]; exact alloc_low _ _)
  have Rx := Lib.hid rx
  have HWa := Lib.hid hWa
  obtain ⟨M, hM⟩ : ∃ M, M = n.side := ⟨_, rfl⟩
  rw [← hM] at HLD HLds HRT HCU HMI
  obtain ⟨s, hs⟩ : ∃ s, s = laidM M low := ⟨_, rfl⟩
  rw [← hs] at HLD HLds HMI
  rw [hrb] at HRT
  have HFW := Lib.hid (show decide (m ≤ 20) = true from decide_eq_true hm20)
  have HAS := Lib.hid ha
  have HTU := Lib.hid hT
  have hgt : decide ((300 : Int) < (nT : Int)) = false := by rw [decide_eq_false_iff_not]; omega
  have HN := Lib.hid (And.intro hm20 hT300)
  have EI := Lib.hid (enters_of Try.func15 (by kernel_rfl) rfl)
  have EL := Lib.hid (enters_of Try.func16 (by kernel_rfl) rfl)
  have EV := Lib.hid (enters_of Try.func17 (by kernel_rfl) rfl)
  have ET := Lib.hid (enters_of Try.func10 (by kernel_rfl) rfl)
  clear hM hs hf hws hl rx hWa hrb hm20 hT300 ha hT
  go_enter Try.func3, Try.ntmps3
  go_upto_region 8 with (first
      | ((with_reducible refine show_loadN ?_); first
          | (rw [← HWa.out]; refine wpList_load_mid rfl _ _ rfl w.heap.size 0 rfl n.cl _ (ndR Rx.out) Try.underlying27 rfl ndI ?_)
          | (refine wpList_load_mid rfl _ _ rfl w.heap.size 0 rfl M.cl _ (ndR R2.out) Try.underlying27 rfl ndI ?_)
          | (refine wpList_load_mid rfl _ _ rfl w.heap.size 0 rfl M.cl _ (ndR R4.out) Try.underlying27 rfl ndI ?_))
      | (go_at_call 4; refine (HRT.out _).mono ?_; rintro e w1 ⟨rfl, hb1⟩; have HB1 := Lib.hid hb1; have R1 := Lib.hid (Rx.out.below hb1 Rx.out.lt); clear hb1)
      | ((with_reducible refine show_storeN ?_); refine wpList_store_row rfl _ _ _ rfl w.heap.size M.cl rfl rfl R1.out rfl ndI (cl_one _) ?_; have r2 := row_setCells (vs := M.cl) R1.out rfl; have hb2 := setCells_low M.cl (Nat.le_refl _) (low_and HBa.out HB1.out); obtain ⟨W2, hW2⟩ : ∃ W2, W2 = w1.setCells w.heap.size 0 M.cl := ⟨_, rfl⟩; rw [← hW2] at r2 hb2 ⊢; have R2 := Lib.hid (show NdAt W2 w.heap.size M from r2); have HB2 := Lib.hid hb2; clear r2 hb2 hW2)
      | (go_at_call 5; refine (HLD.out _).mono ?_; rintro e w3 ⟨y, rfl, hm, hf, hb3⟩; have HM := Lib.hid hm; have HF := Lib.hid hf; have HB3 := Lib.hid hb3; clear hm hf hb3)
      | (go_at_call 6; refine (few11_any A m cap _).mono ?_; rintro e w4 ⟨rfl, hb4⟩; rw [HFW.out]; have HB4 := Lib.hid hb4; clear hb4; have R4 := Lib.hid (R2.out.below (low_and HB3.out HB4.out) R2.out.lt))
      | ((with_reducible refine show_buildW ?_); refine wpList_build_wr rfl _ _ _ rfl y.g M A m cap rfl rfl rfl ?_)
      | ((with_reducible refine show_boxW ?_); refine wpList_boxTo rfl _ _ rfl _ rfl w4.heap.size rfl (wrV y.g M (.slice A m cap) (.pointer none)).toArray rfl ?_; obtain ⟨W5, hW5⟩ : ∃ W5, W5 = w4.alloc (.cells (wrV y.g M (.slice A m cap) (.pointer none)).toArray 39) := ⟨_, rfl⟩; rw [← hW5]; have HW5 := Lib.hid hW5; clear hW5))
  obtain ⟨gw, hgw⟩ : ∃ gw, gw = w4.heap.size := ⟨_, rfl⟩
  obtain ⟨W5, hW5⟩ : ∃ W5, W5 = w4.alloc (.cells (wrV y.g M (.slice A m cap) (.pointer none)).toArray 39) := ⟨_, rfl⟩
  rw [← hW5]
  rw [← hgw]
  have hws : WS W2 gw 55 55 low y s (Wr.rest M) M l none W5 := by
    have hb4 := HB4.out
    have h45 : Below w4.heap.size w4 W5 := by rw [hW5]; exact alloc_below _ _
    have hlt := HM.out.lt
    have h34 := hb4.size
    have h23 := HB3.out.size
    refine ws_start (V := .slice A m cap) ((HM.out.below hb4).below h45) (low_and (low_and HB3.out hb4) h45) HF.out (fun hk => ?_) (by omega) ?_ (HAS.out.at_.below HB2.out) HLds.out HMI.out HCU.out HAS.out.2.2.2.1
    · have := hlt gw hk
      omega
    · rw [hW5, hgw]
      exact Row.new w4 _ _
  have HWS := Lib.hid hws
  have HGW := Lib.hid hgw
  clear hws hW5 hgw
  obtain ⟨X, hX, hX40⟩ : ∃ X : Nat, wrap64 ((IntKind.u64.wrap ahead).tmod 40) = (X : Int) ∧ X < 40 := by
    have h1 : 0 ≤ IntKind.u64.wrap ahead := by rw [IntKind.wrap_u64]; omega
    have h2 : (IntKind.u64.wrap ahead).tmod 40 = IntKind.u64.wrap ahead % 40 := Int.tmod_eq_emod_of_nonneg h1
    refine ⟨(IntKind.u64.wrap ahead % 40).toNat, ?_, by omega⟩
    rw [h2]
    unfold wrap64
    omega
  go_wp2_with fail
  go_loopw [14] (fun i wr => ∃ (k : Nat) (y1 : Lay) (s1 : St) (x : Wr) (nE : Nd) (l1 : List Ask3) (R : Option (Nat × RnRS × Value)), k ≤ 40 ∧ i = .int .i64 (k : Int) ∧ y1.g = y.g ∧ WS W2 gw (55 + k) (55 + k) low y1 s1 x nE l1 R wr) (fun i _ => 64 - (intOf i).toNat)
  case atStart => exact ⟨0, y, s, Wr.rest M, M, l, none, by omega, rfl, rfl, HWS.out⟩
  case round =>
    rename World => wr
    obtain ⟨k, y1, s1, x, nE, l1, R, hk, rfl, hyg, hws⟩ := hrel
    by_cases hlt : (k : Int) < (X : Int)
    · have HST := Lib.hid (wstep11_any hws (by omega) (by omega))
      have HYG := Lib.hid hyg
      clear hws hyg
      go_wp2_with fail
      refine HST.out.mono ?_
      rintro e w6 hp6
      obtain ⟨b6, y6, s6, x6, n6, l6, R6, rfl, h6, g6, _⟩ := hp6
      have H6 := Lib.hid h6
      have G6 := Lib.hid g6
      clear h6 g6 HST HWS
      go_wp2_with fail
      exact ⟨⟨k + 1, y6, s6, x6, n6, l6, R6, by omega, by go_num, G6.out.trans HYG.out, H6.out⟩, by simp [intOf]; omega⟩
    · have HWS2 := Lib.hid (show WS W2 gw 100 100 low y1 s1 x nE l1 R wr from hws.mono (by omega) (by omega))
      have HYG := Lib.hid hyg
      clear hws hyg HWS
      go_wp2_with fail
      refine (snNew_any _ 1088 _).mono ?_
      rintro e w6 ⟨rfl, hw6⟩
      have hb6 : Below wr.heap.size wr w6 := by rw [← hw6]; exact alloc_below _ _
      have hlb : LB W2 w6 gw wr.heap.size 100 100 low y1 s1 x nE l1 R (fun _ => x.c) (fun _ => 0) 0 0 (SS.new 1088) (.slice none 0 0) := lb_start HWS2.out rfl hb6 (by rw [← hw6, HYG.out]; exact ⟨_, Row.new _ _ _, zeroS_is _ _ _⟩)
      obtain ⟨gs, hgs⟩ : ∃ gs, gs = wr.heap.size := ⟨_, rfl⟩
      obtain ⟨C, hC⟩ : ∃ C : Nat → Nd, C = (fun _ => x.c) := ⟨_, rfl⟩
      obtain ⟨cN, hcN⟩ : ∃ cN : Nat → Nat, cN = (fun _ => 0) := ⟨_, rfl⟩
      rw [← hgs, ← hC, ← hcN] at hlb
      rw [← hgs]
      have HLB := Lib.hid hlb
      clear hlb hb6 hw6 hgs hC hcN
      go_wp2_with fail
      refine (HLB.out.now (by omega) HYG.out).mono ?_
      rintro e w7 ⟨rfl, y7, s7, hy7, hv7, hn7, hlb7⟩
      have HLB7 := Lib.hid hlb7
      have HY7 := Lib.hid hy7
      clear hy7 hv7 hn7 hlb7 HLB
      go_wp2_with fail
      refine (trN_V (C 0) _).mono ?_
      rintro e w8 ⟨rfl, hb8⟩
      have HLB8 := Lib.hid (HLB7.out.below hb8)
      clear hb8 HLB7
      go_wp2_with ((with_reducible refine show_buildN ?_); refine buildN rfl _ rfl (trN (C 0)) rfl ?_; obtain ⟨W9, hW9⟩ : ∃ W9, W9 = w8.alloc (.cells (trN (C 0)).cl.toArray 27) := ⟨_, rfl⟩; rw [← hW9]; have HW9 := Lib.hid hW9; clear hW9)
      obtain ⟨V9, hV9⟩ : ∃ V9 : Value, V9 = .slice (some ⟨w8.heap.size, 0, none⟩) 1 1 := ⟨_, rfl⟩
      have HLB9 := Lib.hid (show LB W2 W9 gw gs 100 124 low y7 s7 x nE l1 R C cN 0 1 (SS.new 1088) V9 from by rw [HW9.out, hV9]; exact HLB8.out.first)
      try rw [← hV9]
      clear hV9
      have hw64 : wrap64 ((nT : Int) + 64) = (nT : Int) + 64 := by have := HN.out; unfold wrap64; omega
      have HNL := Lib.hid (show s7.nl = 64 from HLB9.out.ws.lds.nls)
      go_loopw [16, 17] (fun V i wr2 => ∃ (j t : Nat) (y2 : Lay) (s2 : St) (x2 : Wr) (n2 : Nd) (l2 : List Ask3) (Rr : Option (Nat × RnRS × Value)) (C2 : Nat → Nd) (cN2 : Nat → Nat) (S2 : SS), j ≤ nT + 64 ∧ i = .int .i64 (j : Int) ∧ t ≤ j ∧ y2.g = y.g ∧ LB W2 wr2 gw gs (200 + j) (200 + 30 * j) low y2 s2 x2 n2 l2 Rr C2 cN2 t (t + 1) S2 V ∧ (nT = 0 → s2.view = s7.view ∧ s2.nl = s7.nl ∧ S2 = SS.it (ldV s7) (ldK s7) j (SS.new 1088) ∧ ∀ u, u ≤ j → (SS.it (ldV s7) (ldK s7) u (SS.new 1088)).d = false)) (fun _ i _ => 400 - (intOf i).toNat)
      case atStart => exact ⟨0, 0, y7, s7, x, nE, l1, R, C, cN, SS.new 1088, by omega, rfl, by omega, HY7.out, HLB9.out.mono (by omega) (by omega), fun _ => ⟨rfl, rfl, rfl, fun u hu => by rw [show u = 0 by omega]; rfl⟩⟩
      case round =>
        rename World => wr2
        obtain ⟨j, t, y2, s2, x2, n2, l2, Rr, C2, cN2, S2, hj, rfl, htj, hy2, hlb, hcl⟩ := hrel
        have HY2 := Lib.hid hy2
        have HCL := Lib.hid hcl
        have hNN := HN.out
        clear hy2 hcl HLB8 HLB9 HWS2
        by_cases hjn : j < nT + 64
        · have hjx : (j : Int) < (nT : Int) + 64 := by omega
          by_cases hjT : j < nT
          · have hjy : (j : Int) < (nT : Int) := by omega
            obtain ⟨aT, b, rfl, hcT⟩ := HTU.out j hjT
            have hct : wr2.cell? (aT.add j) = some (.bool b) := (hlb.ws.lw.cell (Nat.lt_of_lt_of_le (cell_lt hcT) HB2.out.size)).trans ((HB2.out.cell (cell_lt hcT)).trans hcT)
            clear hcT
            cases b with
            | true =>
              have HST := Lib.hid (wstep11_any hlb.ws (by omega) (by omega))
              have HLB := Lib.hid hlb
              clear hlb
              go_wp2_with fail
              refine HST.out.mono ?_
              rintro e w10 hp10
              obtain ⟨b10, y10, s10, x10, n10, l10, R10, C10, cN10, rfl, hy10, hlb10⟩ := HLB.out.wstep (by omega) hp10
              have HLB10 := Lib.hid hlb10
              have HY10 := Lib.hid (hy10.trans HY2.out)
              clear hlb10 hy10 hp10 HLB HST HCL hct
              go_wp2_with fail
              refine (HLB10.out.now (by omega) HY10.out).mono ?_
              rintro e w11 ⟨rfl, y11, s11, hy11, hv11, hn11, hlb11⟩
              have HLB11 := Lib.hid hlb11
              have HY11 := Lib.hid hy11
              clear hy11 hv11 hn11 hlb11 HLB10
              go_wp2_with fail
              refine (trN_V (C10 (t + 1)) _).mono ?_
              rintro e w12 ⟨rfl, hb12⟩
              have HLB12 := Lib.hid (HLB11.out.below hb12)
              clear hb12 HLB11
              go_wp2_with (first
                | ((with_reducible refine show_buildN ?_); refine buildN rfl _ rfl (trN (C10 (t + 1))) rfl ?_; obtain ⟨W13, hW13⟩ : ∃ W13, W13 = w12.alloc (.cells (trN (C10 (t + 1))).cl.toArray 27) := ⟨_, rfl⟩; rw [← hW13]; have HR13 := Lib.hid (show Row W13 w12.heap.size 27 (trN (C10 (t + 1))).cl.toArray from by rw [hW13]; exact Row.new _ _ _); have HLB13 := Lib.hid (HLB12.out.below (show Below w12.heap.size w12 W13 from by rw [hW13]; exact alloc_below _ _)); clear hW13)
                | (at_builtin; refine appN rfl _ _ rfl W2.heap.size u16 (t + 1) (moL C10 (t + 1)) rfl HLB13.out.mo w12.heap.size (trN (C10 (t + 1))) rfl HR13.out (by omega) HLB13.out.ws.lw.size ?_; intro v14 w14 ho14 hg14 hb14; have HLB14 := Lib.hid (HLB13.out.app hg14 ho14 hb14 (by omega)); clear ho14 hg14 hb14))
              exact ⟨⟨j + 1, t + 1, y11, s11, x10, n10, l10, R10, C10, cN10, S2, by omega, by go_num, by omega, HY11.out, HLB14.out.mono (by omega) (by omega), fun h0 => by omega⟩, by simp [intOf]; omega⟩
            | false =>
              have HSP := Lib.hid (hlb.snap (by omega))
              clear hlb
              go_wp2_with fail
              refine HSP.out.mono ?_
              rintro e w10 ⟨rfl, hq10⟩
              obtain ⟨D, hD⟩ : ∃ D, D = (S2.go (ldV s2) (ldK s2)).d := ⟨_, rfl⟩
              rw [← hD] at hq10 ⊢
              have HQ := Lib.hid hq10
              have HD := Lib.hid hD
              clear hq10 hD HSP
              cases D with
              | false =>
                go_wp2_with fail
                have hq := HQ.out
                rw [if_neg (by decide)] at hq
                obtain ⟨y11, s11, hy11, hv11, hn11, hlb11⟩ := hq
                refine ⟨⟨j + 1, t, y11, s11, x2, n2, l2, Rr, C2, cN2, S2.go (ldV s2) (ldK s2), by omega, by go_num, by omega, hy11.trans HY2.out, hlb11.mono (by omega) (by omega), fun h0 => ?_⟩, by simp [intOf]; omega⟩
                obtain ⟨c1, c2, c3, c4⟩ := HCL.out h0
                have hgo : SS.it (ldV s7) (ldK s7) (j + 1) (SS.new 1088) = S2.go (ldV s2) (ldK s2) := by
                  have := ldK_view c1 c2 S2.ask
                  show (SS.it (ldV s7) (ldK s7) j (SS.new 1088)).next _ _ = _
                  rw [← c3]
                  show S2.next (ldV s7 S2.ask) (ldK s7 S2.ask) = S2.next (ldV s2 S2.ask) (ldK s2 S2.ask)
                  rw [this.1, this.2]
                refine ⟨hv11.trans c1, hn11.trans c2, hgo.symm, fun u hu => ?_⟩
                by_cases e : u = j + 1
                · rw [e, hgo]
                  exact HD.out.symm
                · exact c4 u (by omega)
              | true =>
                have hq := HQ.out
                rw [if_pos rfl] at hq
                obtain ⟨σ, hle⟩ := hq
                have HLE := Lib.hid hle
                clear hle HQ HCL
                obtain ⟨y3, s3, n3, S3, hat, h00, d1, k0, hn3, hlo3⟩ := HLE.out.at_
                obtain ⟨gV, cV, T1, hT1, hT1v, rfl⟩ : ∃ gV cV T1, T1 = t + 1 ∧ T1 ≤ 9000000 ∧ u16 = .slice (some ⟨gV, 0, none⟩) T1 cV := by
                  rcases HLE.out.mo.2 with ⟨_, h0⟩ | ⟨g, cap, cur, e, _⟩
                  · omega
                  · exact ⟨g, cap, t + 1, rfl, by omega, e⟩
                have HT1 := Lib.hid hT1
                clear hT1
                have hone := one_off HLE.out.ok
                have HTX := Lib.hid fun W => trN_V (C2 σ) W
                have hx3 : ((C2 σ).tr ((C2 σ).len + 1) (C2 σ).len).nx = (C2 σ).nx := rfl
                obtain ⟨X3, hX3⟩ : ∃ X3, X3 = (C2 σ).tr ((C2 σ).len + 1) (C2 σ).len := ⟨_, rfl⟩
                rw [← hX3] at hn3 hone HTX hx3
                have HNO := Lib.hid (hat.nodeD h00 d1 k0 hn3)
                obtain ⟨hv, hb, hnx, hhv, hhi⟩ : ∃ hv hb, (X3.nx != 0) = hb ∧ hv = (if hb = true then low else 0) ∧ ∀ W, Below w10.heap.size w10 W → Calls Try.prog 14 #[.pointer (some ⟨gs, 0, none⟩)] W fun e w' => e = .returned (.tuple #[.int .u64 hv, .bool hb]) ∧ Below W.heap.size W w' := by
                  by_cases hx0 : X3.nx = 0
                  · exact ⟨0, false, by simpa using hx0, rfl, hat.high0 h00 d1 k0 hn3 (.inr hx0)⟩
                  · exact ⟨low, true, by simpa using hx0, rfl, hat.high1 h00 d1 k0 hn3 hx0 (hlo3 (by rw [← hx3]; exact hx0))⟩
                have HHI := Lib.hid hhi
                have HONE := Lib.hid hone
                clear hat h00 d1 k0 hn3 hlo3 hhi hone hX3 hx3
                go_wp2_with fail
                refine (HNO.out _ (Below.refl _ _)).mono ?_
                rintro e w11 ⟨rfl, hb11⟩
                have HB11 := Lib.hid hb11
                clear hb11 HNO
                go_upto_region 26 with (first
                  | ((with_reducible refine show_storeN ?_); refine wpList_store_row rfl _ _ _ rfl w11.heap.size X3.cl rfl rfl (Row.new w11 27 zeroNd.cl.toArray) rfl ndI (cl_one _) ?_; obtain ⟨W12, hW12, hn12, hb12⟩ := store_gen11 w11 X3; rw [← hW12]; have HB12 := Lib.hid (low_and HB11.out hb12); have HN12 := Lib.hid hn12; clear hW12 hn12 hb12)
                  | (go_at_call 14; refine (HHI.out _ HB12.out).mono ?_; rintro e w13 ⟨rfl, hb13⟩; have HB13 := Lib.hid (low_and HB12.out hb13); have HNX := Lib.hid (HN12.out.below hb13 HN12.out.lt); clear hb13))
                obtain ⟨gx, hgx⟩ : ∃ gx, gx = w11.heap.size := ⟨_, rfl⟩
                (try rw [← hgx])
                rw [← hgx] at HNX
                have HGX := Lib.hid hgx
                clear hgx
                have HST := Lib.hid (show ∀ W, Below w13.heap.size w13 W → W.rangeAt gx 0 X3.cl from fun W hb => ndR (HNX.out.below hb HNX.out.lt))
                (try refine wp_region_noPanic ?_)
                cases hb with
                | false =>
                  subst hhv
                  by_cases hneg : X3.inv < 0
                  · have hge : decide (0 ≤ X3.inv) = false := by rw [decide_eq_false_iff_not]; omega
                    refine wp_region_held_drew (S := fun W : World => W.rangeAt gx 0 X3.cl) (by kernel_rfl) (HST.out _ (drew_below _)) (fun hHeld => ?_)
                    refine wpAnyH_take (i := 0) (oi := ⟨some 113, _, _, _, _, _⟩) (v := .int .i64 0) rfl (by kernel_rfl) (by kernel_rfl) (by kernel_rfl) (fun _ _ _ h => h) (Or.inl ⟨by kernel_rfl, by intro WW hSw; have s0 := hSw; clear hSw; go_simp⟩) (by assumption) ?_
                    (try simp only [Act.put, List.setIfInBounds_toArray, List.set_cons_zero, List.set_cons_succ])
                    refine wpAnyH_take (i := 1) (oi := ⟨some 114, _, _, _, _, _⟩) (v := .bool false) rfl (by kernel_rfl) (by kernel_rfl) (by kernel_rfl) (fun _ _ _ h => h) (Or.inl ⟨by kernel_rfl, by intro WW hSw; have s0 := hSw; clear hSw; go_simp⟩) (by assumption) ?_
                    (try simp only [Act.put, List.setIfInBounds_toArray, List.set_cons_zero, List.set_cons_succ])
                    refine wpAnyH_take (i := 2) (oi := ⟨some 115, _, _, _, _, _⟩) (v := .bool false) rfl (by kernel_rfl) (by kernel_rfl) (by kernel_rfl) (fun _ _ _ h => h) (Or.inl ⟨by kernel_rfl, by intro WW hSw; have s0 := hSw; clear hSw; go_simp⟩) (by assumption) ?_
                    (try simp only [Act.put, List.setIfInBounds_toArray, List.set_cons_zero, List.set_cons_succ])
                    refine wpAnyH_take (i := 3) (oi := ⟨some 116, _, _, _, _, _⟩) (v := .bool false) rfl (by kernel_rfl) (by kernel_rfl) (by kernel_rfl) (fun _ _ _ h => h) (Or.inl ⟨by kernel_rfl, by intro WW hSw; have s0 := hSw; clear hSw; go_simp⟩) (by assumption) ?_
                    (try simp only [Act.put, List.setIfInBounds_toArray, List.set_cons_zero, List.set_cons_succ])
                    refine wpAnyH_take (i := 4) (oi := ⟨some 117, _, _, _, _, _⟩) (v := .pointer (some ⟨gx, 2, none⟩)) rfl (by kernel_rfl) (by kernel_rfl) (by kernel_rfl) (fun _ _ _ h => h) (Or.inl ⟨by kernel_rfl, by intro WW hSw; have s0 := hSw; clear hSw; go_simp⟩) (by assumption) ?_
                    (try simp only [Act.put, List.setIfInBounds_toArray, List.set_cons_zero, List.set_cons_succ])
                    refine wpAnyH_take (i := 5) (oi := ⟨some 118, _, _, _, _, _⟩) (v := .int .u64 X3.nx) rfl (by kernel_rfl) (by kernel_rfl) (by kernel_rfl) (fun _ _ _ h => h) (Or.inl ⟨by kernel_rfl, by intro WW hSw; have s0 := hSw 2 _ (show X3.cl[2]? = some (.int .u64 X3.nx) from rfl); clear hSw; go_simp⟩) (by assumption) ?_
                    (try simp only [Act.put, List.setIfInBounds_toArray, List.set_cons_zero, List.set_cons_succ])
                    refine wpAnyH_take (i := 6) (oi := ⟨some 119, _, _, _, _, _⟩) (v := .bool false) rfl (by kernel_rfl) (by kernel_rfl) (by kernel_rfl) (fun _ _ _ h => h) (Or.inl ⟨by kernel_rfl, by intro WW hSw; have s0 := hSw; clear hSw; go_simp⟩) (by assumption) ?_
                    (try simp only [Act.put, List.setIfInBounds_toArray, List.set_cons_zero, List.set_cons_succ])
                    refine wpAnyH_take (i := 7) (oi := ⟨some 120, _, _, _, _, _⟩) (v := .bool false) rfl (by kernel_rfl) (by kernel_rfl) (by kernel_rfl) (fun _ _ _ h => h) (Or.inl ⟨by kernel_rfl, by intro WW hSw; have s0 := hSw; clear hSw; go_simp⟩) (by assumption) ?_
                    (try simp only [Act.put, List.setIfInBounds_toArray, List.set_cons_zero, List.set_cons_succ])
                    refine wpAnyH_take (i := 8) (oi := ⟨some 121, _, _, _, _, _⟩) (v := .bool false) rfl (by kernel_rfl) (by kernel_rfl) (by kernel_rfl) (fun _ _ _ h => h) (Or.inl ⟨by kernel_rfl, by intro WW hSw; have s0 := hSw; clear hSw; go_simp⟩) (by assumption) ?_
                    (try simp only [Act.put, List.setIfInBounds_toArray, List.set_cons_zero, List.set_cons_succ])
                    refine wpAnyH_take (i := 9) (oi := ⟨some 122, _, _, _, _, _⟩) (v := .bool false) rfl (by kernel_rfl) (by kernel_rfl) (by kernel_rfl) (fun _ _ _ h => h) (Or.inl ⟨by kernel_rfl, by intro WW hSw; have s0 := hSw; clear hSw; go_simp⟩) (by assumption) ?_
                    (try simp only [Act.put, List.setIfInBounds_toArray, List.set_cons_zero, List.set_cons_succ])
                    refine wpAnyH_take (i := 10) (oi := ⟨some 123, _, _, _, _, _⟩) (v := .bool false) rfl (by kernel_rfl) (by kernel_rfl) (by kernel_rfl) (fun _ _ _ h => h) (Or.inl ⟨by kernel_rfl, by intro WW hSw; have s0 := hSw; clear hSw; go_simp⟩) (by assumption) ?_
                    (try simp only [Act.put, List.setIfInBounds_toArray, List.set_cons_zero, List.set_cons_succ])
                    refine wpAnyH_take (i := 11) (oi := ⟨some 124, _, _, _, _, _⟩) (v := .bool false) rfl (by kernel_rfl) (by kernel_rfl) (by kernel_rfl) (fun _ _ _ h => h) (Or.inl ⟨by kernel_rfl, by intro WW hSw; have s0 := hSw; clear hSw; go_simp⟩) (by assumption) ?_
                    (try simp only [Act.put, List.setIfInBounds_toArray, List.set_cons_zero, List.set_cons_succ])
                    refine wpAnyH_take (i := 12) (oi := ⟨some 125, _, _, _, _, _⟩) (v := undef) rfl (by kernel_rfl) (by kernel_rfl) (by kernel_rfl) (fun _ _ _ h => h) (Or.inr ⟨by kernel_rfl, rfl⟩) (by assumption) ?_
                    (try simp only [Act.put, List.setIfInBounds_toArray, List.set_cons_zero, List.set_cons_succ])
                    refine wpAnyH_take (i := 13) (oi := ⟨some 126, _, _, _, _, _⟩) (v := undef) rfl (by kernel_rfl) (by kernel_rfl) (by kernel_rfl) (fun _ _ _ h => h) (Or.inr ⟨by kernel_rfl, rfl⟩) (by assumption) ?_
                    (try simp only [Act.put, List.setIfInBounds_toArray, List.set_cons_zero, List.set_cons_succ])
                    refine wpAnyH_take (i := 14) (oi := ⟨some 127, _, _, _, _, _⟩) (v := undef) rfl (by kernel_rfl) (by kernel_rfl) (by kernel_rfl) (fun _ _ _ h => h) (Or.inr ⟨by kernel_rfl, rfl⟩) (by assumption) ?_
                    (try simp only [Act.put, List.setIfInBounds_toArray, List.set_cons_zero, List.set_cons_succ])
                    refine wpAnyH_take (i := 15) (oi := ⟨some 128, _, _, _, _, _⟩) (v := .bool false) rfl (by kernel_rfl) (by kernel_rfl) (by kernel_rfl) (fun _ _ _ h => h) (Or.inl ⟨by kernel_rfl, by intro WW hSw; have s0 := hSw; clear hSw; go_simp⟩) (by assumption) ?_
                    (try simp only [Act.put, List.setIfInBounds_toArray, List.set_cons_zero, List.set_cons_succ])
                    refine wpAnyH_take (i := 16) (oi := ⟨some 129, _, _, _, _, _⟩) (v := .bool false) rfl (by kernel_rfl) (by kernel_rfl) (by kernel_rfl) (fun _ _ _ h => h) (Or.inl ⟨by kernel_rfl, by intro WW hSw; have s0 := hSw; clear hSw; go_simp⟩) (by assumption) ?_
                    (try simp only [Act.put, List.setIfInBounds_toArray, List.set_cons_zero, List.set_cons_succ])
                    refine wpAnyH_take (i := 17) (oi := ⟨some 130, _, _, _, _, _⟩) (v := .bool false) rfl (by kernel_rfl) (by kernel_rfl) (by kernel_rfl) (fun _ _ _ h => h) (Or.inl ⟨by kernel_rfl, by intro WW hSw; have s0 := hSw; clear hSw; go_simp⟩) (by assumption) ?_
                    (try simp only [Act.put, List.setIfInBounds_toArray, List.set_cons_zero, List.set_cons_succ])
                    refine wpAnyH_take (i := 18) (oi := ⟨some 131, _, _, _, _, _⟩) (v := .agg X3.cl.toArray) rfl (by kernel_rfl) (by kernel_rfl) (by kernel_rfl) (fun _ _ _ h => h) (yieldsIf_load_mid (by rfl) _ _ rfl gx 0 rfl X3.cl _ (fun w h => h) Try.underlying27 rfl ndI) (by assumption) ?_
                    (try simp only [Act.put, List.setIfInBounds_toArray, List.set_cons_zero, List.set_cons_succ])
                    refine wpAnyH_one (i := 19) (oi := ⟨some 132, _, _, _, _, _⟩) rfl (by kernel_rfl) (fun K hK => ?_)
                    refine step_calls (by rfl) 15 EI.out [.tmp 131] _ rfl [.agg X3.cl.toArray] rfl (r8Inv_any X3 _) ?_
                    rintro e w15 ⟨rfl, hb15⟩
                    have HB15 := Lib.hid (Below.and (drew_below _) hb15)
                    clear hb15
                    refine ⟨_, rfl, hK _ _ (HST.out _ HB15.out) (fun hHeld => ?_)⟩
                    clear hK K
                    (try simp only [Act.put, List.setIfInBounds_toArray, List.set_cons_zero, List.set_cons_succ])
                    refine wpAnyH_take (i := 20) (oi := ⟨some 133, _, _, _, _, _⟩) (v := .bool false) rfl (by kernel_rfl) (by kernel_rfl) (by kernel_rfl) (fun _ _ _ h => h) (Or.inl ⟨by kernel_rfl, by intro WW hSw; have s0 := hSw; clear hSw; go_simp⟩) (by assumption) ?_
                    (try simp only [Act.put, List.setIfInBounds_toArray, List.set_cons_zero, List.set_cons_succ])
                    refine wpAnyH_take (i := 21) (oi := ⟨some 134, _, _, _, _, _⟩) (v := .bool false) rfl (by kernel_rfl) (by kernel_rfl) (by kernel_rfl) (fun _ _ _ h => h) (Or.inl ⟨by kernel_rfl, by intro WW hSw; have s0 := hSw; clear hSw; go_simp⟩) (by assumption) ?_
                    (try simp only [Act.put, List.setIfInBounds_toArray, List.set_cons_zero, List.set_cons_succ])
                    refine wpAnyH_take (i := 22) (oi := ⟨some 135, _, _, _, _, _⟩) (v := undef) rfl (by kernel_rfl) (by kernel_rfl) (by kernel_rfl) (fun _ _ _ h => h) (Or.inr ⟨by kernel_rfl, rfl⟩) (by assumption) ?_
                    (try simp only [Act.put, List.setIfInBounds_toArray, List.set_cons_zero, List.set_cons_succ])
                    refine wpAnyH_take (i := 24) (oi := ⟨some 137, _, _, _, _, _⟩) (v := undef) rfl (by kernel_rfl) (by kernel_rfl) (by kernel_rfl) (fun _ _ _ h => h) (Or.inr ⟨by kernel_rfl, rfl⟩) (by assumption) ?_
                    (try simp only [Act.put, List.setIfInBounds_toArray, List.set_cons_zero, List.set_cons_succ])
                    refine wpAnyH_take (i := 23) (oi := ⟨some 136, _, _, _, _, _⟩) (v := undef) rfl (by kernel_rfl) (by kernel_rfl) (by kernel_rfl) (fun _ _ _ h => h) (Or.inr ⟨by kernel_rfl, rfl⟩) (by assumption) ?_
                    (try simp only [Act.put, List.setIfInBounds_toArray, List.set_cons_zero, List.set_cons_succ])
                    refine wpAnyH_take (i := 25) (oi := ⟨some 138, _, _, _, _, _⟩) (v := undef) rfl (by kernel_rfl) (by kernel_rfl) (by kernel_rfl) (fun _ _ _ h => h) (Or.inr ⟨by kernel_rfl, rfl⟩) (by assumption) ?_
                    (try simp only [Act.put, List.setIfInBounds_toArray, List.set_cons_zero, List.set_cons_succ])
                    refine wpAnyH_take (i := 26) (oi := ⟨some 139, _, _, _, _, _⟩) (v := undef) rfl (by kernel_rfl) (by kernel_rfl) (by kernel_rfl) (fun _ _ _ h => h) (Or.inr ⟨by kernel_rfl, rfl⟩) (by assumption) ?_
                    (try simp only [Act.put, List.setIfInBounds_toArray, List.set_cons_zero, List.set_cons_succ])
                    refine wpAnyH_take (i := 27) (oi := ⟨some 140, _, _, _, _, _⟩) (v := undef) rfl (by kernel_rfl) (by kernel_rfl) (by kernel_rfl) (fun _ _ _ h => h) (Or.inr ⟨by kernel_rfl, rfl⟩) (by assumption) ?_
                    (try simp only [Act.put, List.setIfInBounds_toArray, List.set_cons_zero, List.set_cons_succ])
                    refine wpAnyH_take (i := 28) (oi := ⟨some 141, _, _, _, _, _⟩) (v := undef) rfl (by kernel_rfl) (by kernel_rfl) (by kernel_rfl) (fun _ _ _ h => h) (Or.inr ⟨by kernel_rfl, rfl⟩) (by assumption) ?_
                    (try simp only [Act.put, List.setIfInBounds_toArray, List.set_cons_zero, List.set_cons_succ])
                    refine wpAnyH_take (i := 29) (oi := ⟨some 142, _, _, _, _, _⟩) (v := .bool false) rfl (by kernel_rfl) (by kernel_rfl) (by kernel_rfl) (fun _ _ _ h => h) (Or.inl ⟨by kernel_rfl, by intro WW hSw; have s0 := hSw; clear hSw; go_simp⟩) (by assumption) ?_
                    (try simp only [Act.put, List.setIfInBounds_toArray, List.set_cons_zero, List.set_cons_succ])
                    refine wpAnyH_take (i := 30) (oi := ⟨some 143, _, _, _, _, _⟩) (v := .bool false) rfl (by kernel_rfl) (by kernel_rfl) (by kernel_rfl) (fun _ _ _ h => h) (Or.inl ⟨by kernel_rfl, by intro WW hSw; have s0 := hSw; clear hSw; go_simp⟩) (by assumption) ?_
                    (try simp only [Act.put, List.setIfInBounds_toArray, List.set_cons_zero, List.set_cons_succ])
                    refine wpAnyH_done (by kernel_rfl) ?_ _
                    clear hHeld
                    (try refine (‹∀ (a : Act) (w : World), Code.wp Try.prog _ _ a w → _›) _ _ ?_)
                    have HB18 := Lib.hid (low_and HB13.out HB15.out)
                    have HB98 := Lib.hid HB15.out
                    clear HST
                    go_wp2_with fail
                    go_loopw [24] (fun i wr3 => ∃ q : Nat, q ≤ σ ∧ i = .int .i64 (q : Int) ∧ Below w13.heap.size w13 wr3) (fun i _ => 400 - (intOf i).toNat)
                    case atStart => exact ⟨0, Nat.zero_le _, rfl, HB98.out⟩
                    case round =>
                      rename World => wr3
                      obtain ⟨q, hq, rfl, hb3⟩ := hrel
                      have hσ := HLE.out.le
                      have hT1 := HT1.out
                      have hqt : (q : Int) < (T1 : Int) := by omega
                      have hq0 : (0 : Int) ≤ (q : Int) := by omega
                      have hmo := ownS_low (ownS_low HLE.out.mo HB13.out) hb3
                      have HST3 := Lib.hid (show ∀ W, Below wr3.heap.size wr3 W → W.rangeAt gV (q * 21) (trN (C2 q)).cl ∧ W.rangeAt gx 0 X3.cl from fun W hb => by
                        refine ⟨fun j v hv => ?_, ndR ((HNX.out.below hb3 HNX.out.lt).below hb (Nat.lt_of_lt_of_le HNX.out.lt hb3.size))⟩
                        have hj : j < 21 := by
                          have := (List.getElem?_eq_some_iff.1 hv).1
                          rw [(trN (C2 q)).size] at this
                          exact this
                        have := (ownS_low hmo hb).cells rfl (21 * q + j) v (by rw [moL_at (by omega) hj]; exact hv)
                        rw [Addr.add_lit, Nat.zero_add, show 21 * q = q * 21 by omega] at this
                        exact this)
                      obtain ⟨rq, hrq, hre⟩ : ∃ r : Bool, (∀ w, (binOp .eql 27 (trN (C2 q)).V (trN (C2 σ)).V).run Try.prog w = .ok (.bool r) w) ∧ (q = σ → r = true) := by
                        by_cases e : q = σ
                        · subst e
                          exact ⟨true, fun w => eq_node _ w, fun _ => rfl⟩
                        · obtain ⟨r, h⟩ := eql_nodes (trN (C2 q)) (trN (C2 σ))
                          exact ⟨r, h, fun e2 => absurd e2 e⟩
                      obtain ⟨VQ, hVQ⟩ : ∃ VQ, VQ = (trN (C2 q)).V := ⟨_, rfl⟩
                      obtain ⟨VS, hVS⟩ : ∃ VS, VS = (trN (C2 σ)).V := ⟨_, rfl⟩
                      have HTX2 := Lib.hid (show ∀ W, Calls Try.prog 10 #[X3.V] W fun e w' => e = .returned VS ∧ Below W.heap.size W w' from by rw [hVS]; exact HTX.out)
                      rw [← hVQ, ← hVS] at hrq
                      have hge2 : ∀ (x y : Operand) (w : World), (eqGuard .eql 27 x y VQ VS).run Try.prog w = .ok () w := fun x y w => by
                        rw [hVQ, hVS]
                        unfold Nd.V
                        exact run_eqGuard_agg _ _ _ _ _ _ _ (show Try.prog.eqGuardType Try.prog.depth 27 = false from by kernel_rfl)
                      have HVQ := Lib.hid hVQ
                      have HB3' := Lib.hid hb3
                      have HRE := Lib.hid hre
                      clear hVQ hVS hmo hb3 hre
                      go_upto_region 31 with fail
                      (try refine wp_region_noPanic ?_)
                      refine wp_region_held_drew (S := fun W : World => W.rangeAt gV (q * 21) (trN (C2 q)).cl ∧ W.rangeAt gx 0 X3.cl) (by kernel_rfl) (HST3.out _ (drew_below _)) (fun hHeld => ?_)
                      refine wpAnyH_take (i := 0) (oi := ⟨some 150, _, _, _, _, _⟩) (v := .slice (some ⟨gV, 0, none⟩) T1 cV) rfl (by kernel_rfl) (by kernel_rfl) (by kernel_rfl) (fun _ _ _ h => h) (Or.inl ⟨by kernel_rfl, by intro WW hSw; go_simp⟩) (by assumption) ?_
                      (try simp only [Act.put, List.setIfInBounds_toArray, List.set_cons_zero, List.set_cons_succ])
                      refine wpAnyH_take (i := 1) (oi := ⟨some 151, _, _, _, _, _⟩) (v := .int .i64 (q : Int)) rfl (by kernel_rfl) (by kernel_rfl) (by kernel_rfl) (fun _ _ _ h => h) (Or.inl ⟨by kernel_rfl, by intro WW hSw; go_simp⟩) (by assumption) ?_
                      (try simp only [Act.put, List.setIfInBounds_toArray, List.set_cons_zero, List.set_cons_succ])
                      refine wpAnyH_take (i := 2) (oi := ⟨some 152, _, _, _, _, _⟩) (v := .pointer (some ⟨gV, q * 21, none⟩)) rfl (by kernel_rfl) (by kernel_rfl) (by kernel_rfl) (fun _ _ _ h => h) (Or.inl ⟨by kernel_rfl, by intro WW hSw; go_simp⟩) (by assumption) ?_
                      (try simp only [Act.put, List.setIfInBounds_toArray, List.set_cons_zero, List.set_cons_succ])
                      refine wpAnyH_take (i := 3) (oi := ⟨some 153, _, _, _, _, _⟩) (v := VQ) rfl (by kernel_rfl) (by kernel_rfl) (by kernel_rfl) (fun _ _ _ h => h) (by rw [HVQ.out]; exact yieldsIf_load_mid (by rfl) _ _ rfl gV (q * 21) rfl (trN (C2 q)).cl _ (fun w h => h.1) Try.underlying27 rfl ndI) (by assumption) ?_
                      (try simp only [Act.put, List.setIfInBounds_toArray, List.set_cons_zero, List.set_cons_succ])
                      refine wpAnyH_take (i := 4) (oi := ⟨some 154, _, _, _, _, _⟩) (v := .agg X3.cl.toArray) rfl (by kernel_rfl) (by kernel_rfl) (by kernel_rfl) (fun _ _ _ h => h) (yieldsIf_load_mid (by rfl) _ _ rfl gx 0 rfl X3.cl _ (fun w h => h.2) Try.underlying27 rfl ndI) (by assumption) ?_
                      (try simp only [Act.put, List.setIfInBounds_toArray, List.set_cons_zero, List.set_cons_succ])
                      refine wpAnyH_one (i := 5) (oi := ⟨some 155, _, _, _, _, _⟩) rfl (by kernel_rfl) (fun K hK => ?_)
                      refine step_calls (by rfl) 10 ET.out [.tmp 154] _ rfl [.agg X3.cl.toArray] rfl (HTX2.out _) ?_
                      rintro e w19 ⟨rfl, hb19⟩
                      have HB19 := Lib.hid (Below.and (drew_below _) hb19)
                      clear hb19
                      refine ⟨_, rfl, hK _ _ (HST3.out _ HB19.out) (fun hHeld => ?_)⟩
                      clear hK K
                      (try simp only [Act.put, List.setIfInBounds_toArray, List.set_cons_zero, List.set_cons_succ])
                      refine wpAnyH_take (i := 6) (oi := ⟨some 156, _, _, _, _, _⟩) (v := .bool rq) rfl (by kernel_rfl) (by kernel_rfl) (by kernel_rfl) (fun _ _ _ h => h) (Or.inl ⟨by kernel_rfl, by intro WW hSw; go_simp⟩) (by assumption) ?_
                      (try simp only [Act.put, List.setIfInBounds_toArray, List.set_cons_zero, List.set_cons_succ])
                      refine wpAnyH_done (by kernel_rfl) ?_ _
                      clear hHeld
                      (try refine (‹∀ (a : Act) (w : World), Code.wp Try.prog _ _ a w → _›) _ _ ?_)
                      have HB20 := Lib.hid (low_and HB3'.out HB19.out)
                      cases rq with
                      | true =>
                        go_wp2_with fail
                        refine (known11_any _).mono ?_
                        rintro e wk ⟨rfl, hbk⟩
                        have HBK := Lib.hid hbk
                        clear hbk
                        go_wp2_with fail
                        go_ret
                        exact ⟨rfl, low_and (low_and (low_and (low_and HB2.out HLE.out.lw) HB13.out) HB20.out) HBK.out⟩
                      | false =>
                        go_wp2_with fail
                        have hne : q ≠ σ := fun e => by have := HRE.out e; cases this
                        exact ⟨⟨q + 1, by omega, by go_num, HB20.out⟩, by simp [intOf]; omega⟩
                  · have hge : decide (0 ≤ X3.inv) = true := by rw [decide_eq_true_eq]; omega
                    have hsub : IntKind.i64.wrap ((X3.len : Int) - (X3.es.length : Int)) = 1 := by rw [HONE.out (by omega)]; first | rfl | decide | kernel_rfl
                    refine wp_region_held_drew (S := fun W : World => W.rangeAt gx 0 X3.cl) (by kernel_rfl) (HST.out _ (drew_below _)) (fun hHeld => ?_)
                    refine wpAnyH_take (i := 0) (oi := ⟨some 113, _, _, _, _, _⟩) (v := .int .i64 0) rfl (by kernel_rfl) (by kernel_rfl) (by kernel_rfl) (fun _ _ _ h => h) (Or.inl ⟨by kernel_rfl, by intro WW hSw; have s0 := hSw; clear hSw; go_simp⟩) (by assumption) ?_
                    (try simp only [Act.put, List.setIfInBounds_toArray, List.set_cons_zero, List.set_cons_succ])
                    refine wpAnyH_take (i := 1) (oi := ⟨some 114, _, _, _, _, _⟩) (v := .bool false) rfl (by kernel_rfl) (by kernel_rfl) (by kernel_rfl) (fun _ _ _ h => h) (Or.inl ⟨by kernel_rfl, by intro WW hSw; have s0 := hSw; clear hSw; go_simp⟩) (by assumption) ?_
                    (try simp only [Act.put, List.setIfInBounds_toArray, List.set_cons_zero, List.set_cons_succ])
                    refine wpAnyH_take (i := 2) (oi := ⟨some 115, _, _, _, _, _⟩) (v := .bool false) rfl (by kernel_rfl) (by kernel_rfl) (by kernel_rfl) (fun _ _ _ h => h) (Or.inl ⟨by kernel_rfl, by intro WW hSw; have s0 := hSw; clear hSw; go_simp⟩) (by assumption) ?_
                    (try simp only [Act.put, List.setIfInBounds_toArray, List.set_cons_zero, List.set_cons_succ])
                    refine wpAnyH_take (i := 3) (oi := ⟨some 116, _, _, _, _, _⟩) (v := .bool false) rfl (by kernel_rfl) (by kernel_rfl) (by kernel_rfl) (fun _ _ _ h => h) (Or.inl ⟨by kernel_rfl, by intro WW hSw; have s0 := hSw; clear hSw; go_simp⟩) (by assumption) ?_
                    (try simp only [Act.put, List.setIfInBounds_toArray, List.set_cons_zero, List.set_cons_succ])
                    refine wpAnyH_take (i := 4) (oi := ⟨some 117, _, _, _, _, _⟩) (v := .pointer (some ⟨gx, 2, none⟩)) rfl (by kernel_rfl) (by kernel_rfl) (by kernel_rfl) (fun _ _ _ h => h) (Or.inl ⟨by kernel_rfl, by intro WW hSw; have s0 := hSw; clear hSw; go_simp⟩) (by assumption) ?_
                    (try simp only [Act.put, List.setIfInBounds_toArray, List.set_cons_zero, List.set_cons_succ])
                    refine wpAnyH_take (i := 5) (oi := ⟨some 118, _, _, _, _, _⟩) (v := .int .u64 X3.nx) rfl (by kernel_rfl) (by kernel_rfl) (by kernel_rfl) (fun _ _ _ h => h) (Or.inl ⟨by kernel_rfl, by intro WW hSw; have s0 := hSw 2 _ (show X3.cl[2]? = some (.int .u64 X3.nx) from rfl); clear hSw; go_simp⟩) (by assumption) ?_
                    (try simp only [Act.put, List.setIfInBounds_toArray, List.set_cons_zero, List.set_cons_succ])
                    refine wpAnyH_take (i := 6) (oi := ⟨some 119, _, _, _, _, _⟩) (v := .bool false) rfl (by kernel_rfl) (by kernel_rfl) (by kernel_rfl) (fun _ _ _ h => h) (Or.inl ⟨by kernel_rfl, by intro WW hSw; have s0 := hSw; clear hSw; go_simp⟩) (by assumption) ?_
                    (try simp only [Act.put, List.setIfInBounds_toArray, List.set_cons_zero, List.set_cons_succ])
                    refine wpAnyH_take (i := 7) (oi := ⟨some 120, _, _, _, _, _⟩) (v := .bool false) rfl (by kernel_rfl) (by kernel_rfl) (by kernel_rfl) (fun _ _ _ h => h) (Or.inl ⟨by kernel_rfl, by intro WW hSw; have s0 := hSw; clear hSw; go_simp⟩) (by assumption) ?_
                    (try simp only [Act.put, List.setIfInBounds_toArray, List.set_cons_zero, List.set_cons_succ])
                    refine wpAnyH_take (i := 8) (oi := ⟨some 121, _, _, _, _, _⟩) (v := .bool false) rfl (by kernel_rfl) (by kernel_rfl) (by kernel_rfl) (fun _ _ _ h => h) (Or.inl ⟨by kernel_rfl, by intro WW hSw; have s0 := hSw; clear hSw; go_simp⟩) (by assumption) ?_
                    (try simp only [Act.put, List.setIfInBounds_toArray, List.set_cons_zero, List.set_cons_succ])
                    refine wpAnyH_take (i := 9) (oi := ⟨some 122, _, _, _, _, _⟩) (v := .bool false) rfl (by kernel_rfl) (by kernel_rfl) (by kernel_rfl) (fun _ _ _ h => h) (Or.inl ⟨by kernel_rfl, by intro WW hSw; have s0 := hSw; clear hSw; go_simp⟩) (by assumption) ?_
                    (try simp only [Act.put, List.setIfInBounds_toArray, List.set_cons_zero, List.set_cons_succ])
                    refine wpAnyH_take (i := 10) (oi := ⟨some 123, _, _, _, _, _⟩) (v := .bool false) rfl (by kernel_rfl) (by kernel_rfl) (by kernel_rfl) (fun _ _ _ h => h) (Or.inl ⟨by kernel_rfl, by intro WW hSw; have s0 := hSw; clear hSw; go_simp⟩) (by assumption) ?_
                    (try simp only [Act.put, List.setIfInBounds_toArray, List.set_cons_zero, List.set_cons_succ])
                    refine wpAnyH_take (i := 11) (oi := ⟨some 124, _, _, _, _, _⟩) (v := .bool false) rfl (by kernel_rfl) (by kernel_rfl) (by kernel_rfl) (fun _ _ _ h => h) (Or.inl ⟨by kernel_rfl, by intro WW hSw; have s0 := hSw; clear hSw; go_simp⟩) (by assumption) ?_
                    (try simp only [Act.put, List.setIfInBounds_toArray, List.set_cons_zero, List.set_cons_succ])
                    refine wpAnyH_take (i := 12) (oi := ⟨some 125, _, _, _, _, _⟩) (v := undef) rfl (by kernel_rfl) (by kernel_rfl) (by kernel_rfl) (fun _ _ _ h => h) (Or.inr ⟨by kernel_rfl, rfl⟩) (by assumption) ?_
                    (try simp only [Act.put, List.setIfInBounds_toArray, List.set_cons_zero, List.set_cons_succ])
                    refine wpAnyH_take (i := 13) (oi := ⟨some 126, _, _, _, _, _⟩) (v := undef) rfl (by kernel_rfl) (by kernel_rfl) (by kernel_rfl) (fun _ _ _ h => h) (Or.inr ⟨by kernel_rfl, rfl⟩) (by assumption) ?_
                    (try simp only [Act.put, List.setIfInBounds_toArray, List.set_cons_zero, List.set_cons_succ])
                    refine wpAnyH_take (i := 14) (oi := ⟨some 127, _, _, _, _, _⟩) (v := undef) rfl (by kernel_rfl) (by kernel_rfl) (by kernel_rfl) (fun _ _ _ h => h) (Or.inr ⟨by kernel_rfl, rfl⟩) (by assumption) ?_
                    (try simp only [Act.put, List.setIfInBounds_toArray, List.set_cons_zero, List.set_cons_succ])
                    refine wpAnyH_take (i := 15) (oi := ⟨some 128, _, _, _, _, _⟩) (v := .bool false) rfl (by kernel_rfl) (by kernel_rfl) (by kernel_rfl) (fun _ _ _ h => h) (Or.inl ⟨by kernel_rfl, by intro WW hSw; have s0 := hSw; clear hSw; go_simp⟩) (by assumption) ?_
                    (try simp only [Act.put, List.setIfInBounds_toArray, List.set_cons_zero, List.set_cons_succ])
                    refine wpAnyH_take (i := 16) (oi := ⟨some 129, _, _, _, _, _⟩) (v := .bool false) rfl (by kernel_rfl) (by kernel_rfl) (by kernel_rfl) (fun _ _ _ h => h) (Or.inl ⟨by kernel_rfl, by intro WW hSw; have s0 := hSw; clear hSw; go_simp⟩) (by assumption) ?_
                    (try simp only [Act.put, List.setIfInBounds_toArray, List.set_cons_zero, List.set_cons_succ])
                    refine wpAnyH_take (i := 17) (oi := ⟨some 130, _, _, _, _, _⟩) (v := .bool false) rfl (by kernel_rfl) (by kernel_rfl) (by kernel_rfl) (fun _ _ _ h => h) (Or.inl ⟨by kernel_rfl, by intro WW hSw; have s0 := hSw; clear hSw; go_simp⟩) (by assumption) ?_
                    (try simp only [Act.put, List.setIfInBounds_toArray, List.set_cons_zero, List.set_cons_succ])
                    refine wpAnyH_take (i := 18) (oi := ⟨some 131, _, _, _, _, _⟩) (v := .agg X3.cl.toArray) rfl (by kernel_rfl) (by kernel_rfl) (by kernel_rfl) (fun _ _ _ h => h) (yieldsIf_load_mid (by rfl) _ _ rfl gx 0 rfl X3.cl _ (fun w h => h) Try.underlying27 rfl ndI) (by assumption) ?_
                    (try simp only [Act.put, List.setIfInBounds_toArray, List.set_cons_zero, List.set_cons_succ])
                    refine wpAnyH_one (i := 19) (oi := ⟨some 132, _, _, _, _, _⟩) rfl (by kernel_rfl) (fun K hK => ?_)
                    refine step_calls (by rfl) 15 EI.out [.tmp 131] _ rfl [.agg X3.cl.toArray] rfl (r8Inv_any X3 _) ?_
                    rintro e w15 ⟨rfl, hb15⟩
                    have HB15 := Lib.hid (Below.and (drew_below _) hb15)
                    clear hb15
                    refine ⟨_, rfl, hK _ _ (HST.out _ HB15.out) (fun hHeld => ?_)⟩
                    clear hK K
                    (try simp only [Act.put, List.setIfInBounds_toArray, List.set_cons_zero, List.set_cons_succ])
                    refine wpAnyH_take (i := 20) (oi := ⟨some 133, _, _, _, _, _⟩) (v := .bool true) rfl (by kernel_rfl) (by kernel_rfl) (by kernel_rfl) (fun _ _ _ h => h) (Or.inl ⟨by kernel_rfl, by intro WW hSw; have s0 := hSw; clear hSw; go_simp⟩) (by assumption) ?_
                    (try simp only [Act.put, List.setIfInBounds_toArray, List.set_cons_zero, List.set_cons_succ])
                    refine wpAnyH_take (i := 21) (oi := ⟨some 134, _, _, _, _, _⟩) (v := .bool true) rfl (by kernel_rfl) (by kernel_rfl) (by kernel_rfl) (fun _ _ _ h => h) (Or.inl ⟨by kernel_rfl, by intro WW hSw; have s0 := hSw; clear hSw; go_simp⟩) (by assumption) ?_
                    (try simp only [Act.put, List.setIfInBounds_toArray, List.set_cons_zero, List.set_cons_succ])
                    refine wpAnyH_take (i := 22) (oi := ⟨some 135, _, _, _, _, _⟩) (v := .agg X3.cl.toArray) rfl (by kernel_rfl) (by kernel_rfl) (by kernel_rfl) (fun _ _ _ h => h) (yieldsIf_load_mid (by rfl) _ _ rfl gx 0 rfl X3.cl _ (fun w h => h) Try.underlying27 rfl ndI) (by assumption) ?_
                    (try simp only [Act.put, List.setIfInBounds_toArray, List.set_cons_zero, List.set_cons_succ])
                    refine wpAnyH_take (i := 24) (oi := ⟨some 137, _, _, _, _, _⟩) (v := .agg X3.cl.toArray) rfl (by kernel_rfl) (by kernel_rfl) (by kernel_rfl) (fun _ _ _ h => h) (yieldsIf_load_mid (by rfl) _ _ rfl gx 0 rfl X3.cl _ (fun w h => h) Try.underlying27 rfl ndI) (by assumption) ?_
                    (try simp only [Act.put, List.setIfInBounds_toArray, List.set_cons_zero, List.set_cons_succ])
                    refine wpAnyH_one (i := 23) (oi := ⟨some 136, _, _, _, _, _⟩) rfl (by kernel_rfl) (fun K hK => ?_)
                    refine step_calls (by rfl) 16 EL.out [.tmp 135] _ rfl [.agg X3.cl.toArray] rfl (r8Len_any X3 _) ?_
                    rintro e w16 ⟨rfl, hb16⟩
                    have HB16 := Lib.hid (Below.and HB15.out hb16)
                    clear hb16
                    refine ⟨_, rfl, hK _ _ (HST.out _ HB16.out) (fun hHeld => ?_)⟩
                    clear hK K
                    (try simp only [Act.put, List.setIfInBounds_toArray, List.set_cons_zero, List.set_cons_succ])
                    refine wpAnyH_one (i := 25) (oi := ⟨some 138, _, _, _, _, _⟩) rfl (by kernel_rfl) (fun K hK => ?_)
                    refine step_calls (by rfl) 17 EV.out [.tmp 137] _ rfl [.agg X3.cl.toArray] rfl (r8Valid_any X3 _) ?_
                    rintro e w17 ⟨⟨v17, rfl, ho17⟩, hb17⟩
                    have HB17 := Lib.hid (Below.and HB16.out hb17)
                    obtain ⟨A17, c17, rfl⟩ := own6_sl ho17
                    clear hb17 ho17
                    refine ⟨_, rfl, hK _ _ (HST.out _ HB17.out) (fun hHeld => ?_)⟩
                    clear hK K
                    (try simp only [Act.put, List.setIfInBounds_toArray, List.set_cons_zero, List.set_cons_succ])
                    refine wpAnyH_take (i := 26) (oi := ⟨some 139, _, _, _, _, _⟩) (v := .int .i64 (X3.es.length : Int)) rfl (by kernel_rfl) (by kernel_rfl) (by kernel_rfl) (fun _ _ _ h => h) (Or.inl ⟨by kernel_rfl, by intro WW hSw; have s0 := hSw; clear hSw; go_simp⟩) (by assumption) ?_
                    (try simp only [Act.put, List.setIfInBounds_toArray, List.set_cons_zero, List.set_cons_succ])
                    refine wpAnyH_take (i := 27) (oi := ⟨some 140, _, _, _, _, _⟩) (v := .int .i64 1) rfl (by kernel_rfl) (by kernel_rfl) (by kernel_rfl) (fun _ _ _ h => h) (Or.inl ⟨by kernel_rfl, by intro WW hSw; have s0 := hSw; clear hSw; go_simp⟩) (by assumption) ?_
                    (try simp only [Act.put, List.setIfInBounds_toArray, List.set_cons_zero, List.set_cons_succ])
                    refine wpAnyH_take (i := 28) (oi := ⟨some 141, _, _, _, _, _⟩) (v := .bool false) rfl (by kernel_rfl) (by kernel_rfl) (by kernel_rfl) (fun _ _ _ h => h) (Or.inl ⟨by kernel_rfl, by intro WW hSw; have s0 := hSw; clear hSw; go_simp⟩) (by assumption) ?_
                    (try simp only [Act.put, List.setIfInBounds_toArray, List.set_cons_zero, List.set_cons_succ])
                    refine wpAnyH_take (i := 29) (oi := ⟨some 142, _, _, _, _, _⟩) (v := .bool false) rfl (by kernel_rfl) (by kernel_rfl) (by kernel_rfl) (fun _ _ _ h => h) (Or.inl ⟨by kernel_rfl, by intro WW hSw; have s0 := hSw; clear hSw; go_simp⟩) (by assumption) ?_
                    (try simp only [Act.put, List.setIfInBounds_toArray, List.set_cons_zero, List.set_cons_succ])
                    refine wpAnyH_take (i := 30) (oi := ⟨some 143, _, _, _, _, _⟩) (v := .bool false) rfl (by kernel_rfl) (by kernel_rfl) (by kernel_rfl) (fun _ _ _ h => h) (Or.inl ⟨by kernel_rfl, by intro WW hSw; have s0 := hSw; clear hSw; go_simp⟩) (by assumption) ?_
                    (try simp only [Act.put, List.setIfInBounds_toArray, List.set_cons_zero, List.set_cons_succ])
                    refine wpAnyH_done (by kernel_rfl) ?_ _
                    clear hHeld
                    (try refine (‹∀ (a : Act) (w : World), Code.wp Try.prog _ _ a w → _›) _ _ ?_)
                    have HB18 := Lib.hid (low_and HB13.out HB17.out)
                    have HB98 := Lib.hid HB17.out
                    clear HST
                    go_wp2_with fail
                    go_loopw [24] (fun i wr3 => ∃ q : Nat, q ≤ σ ∧ i = .int .i64 (q : Int) ∧ Below w13.heap.size w13 wr3) (fun i _ => 400 - (intOf i).toNat)
                    case atStart => exact ⟨0, Nat.zero_le _, rfl, HB98.out⟩
                    case round =>
                      rename World => wr3
                      obtain ⟨q, hq, rfl, hb3⟩ := hrel
                      have hσ := HLE.out.le
                      have hT1 := HT1.out
                      have hqt : (q : Int) < (T1 : Int) := by omega
                      have hq0 : (0 : Int) ≤ (q : Int) := by omega
                      have hmo := ownS_low (ownS_low HLE.out.mo HB13.out) hb3
                      have HST3 := Lib.hid (show ∀ W, Below wr3.heap.size wr3 W → W.rangeAt gV (q * 21) (trN (C2 q)).cl ∧ W.rangeAt gx 0 X3.cl from fun W hb => by
                        refine ⟨fun j v hv => ?_, ndR ((HNX.out.below hb3 HNX.out.lt).below hb (Nat.lt_of_lt_of_le HNX.out.lt hb3.size))⟩
                        have hj : j < 21 := by
                          have := (List.getElem?_eq_some_iff.1 hv).1
                          rw [(trN (C2 q)).size] at this
                          exact this
                        have := (ownS_low hmo hb).cells rfl (21 * q + j) v (by rw [moL_at (by omega) hj]; exact hv)
                        rw [Addr.add_lit, Nat.zero_add, show 21 * q = q * 21 by omega] at this
                        exact this)
                      obtain ⟨rq, hrq, hre⟩ : ∃ r : Bool, (∀ w, (binOp .eql 27 (trN (C2 q)).V (trN (C2 σ)).V).run Try.prog w = .ok (.bool r) w) ∧ (q = σ → r = true) := by
                        by_cases e : q = σ
                        · subst e
                          exact ⟨true, fun w => eq_node _ w, fun _ => rfl⟩
                        · obtain ⟨r, h⟩ := eql_nodes (trN (C2 q)) (trN (C2 σ))
                          exact ⟨r, h, fun e2 => absurd e2 e⟩
                      obtain ⟨VQ, hVQ⟩ : ∃ VQ, VQ = (trN (C2 q)).V := ⟨_, rfl⟩
                      obtain ⟨VS, hVS⟩ : ∃ VS, VS = (trN (C2 σ)).V := ⟨_, rfl⟩
                      have HTX2 := Lib.hid (show ∀ W, Calls Try.prog 10 #[X3.V] W fun e w' => e = .returned VS ∧ Below W.heap.size W w' from by rw [hVS]; exact HTX.out)
                      rw [← hVQ, ← hVS] at hrq
                      have hge2 : ∀ (x y : Operand) (w : World), (eqGuard .eql 27 x y VQ VS).run Try.prog w = .ok () w := fun x y w => by
                        rw [hVQ, hVS]
                        unfold Nd.V
                        exact run_eqGuard_agg _ _ _ _ _ _ _ (show Try.prog.eqGuardType Try.prog.depth 27 = false from by kernel_rfl)
                      have HVQ := Lib.hid hVQ
                      have HB3' := Lib.hid hb3
                      have HRE := Lib.hid hre
                      clear hVQ hVS hmo hb3 hre
                      go_upto_region 31 with fail
                      (try refine wp_region_noPanic ?_)
                      refine wp_region_held_drew (S := fun W : World => W.rangeAt gV (q * 21) (trN (C2 q)).cl ∧ W.rangeAt gx 0 X3.cl) (by kernel_rfl) (HST3.out _ (drew_below _)) (fun hHeld => ?_)
                      refine wpAnyH_take (i := 0) (oi := ⟨some 150, _, _, _, _, _⟩) (v := .slice (some ⟨gV, 0, none⟩) T1 cV) rfl (by kernel_rfl) (by kernel_rfl) (by kernel_rfl) (fun _ _ _ h => h) (Or.inl ⟨by kernel_rfl, by intro WW hSw; go_simp⟩) (by assumption) ?_
                      (try simp only [Act.put, List.setIfInBounds_toArray, List.set_cons_zero, List.set_cons_succ])
                      refine wpAnyH_take (i := 1) (oi := ⟨some 151, _, _, _, _, _⟩) (v := .int .i64 (q : Int)) rfl (by kernel_rfl) (by kernel_rfl) (by kernel_rfl) (fun _ _ _ h => h) (Or.inl ⟨by kernel_rfl, by intro WW hSw; go_simp⟩) (by assumption) ?_
                      (try simp only [Act.put, List.setIfInBounds_toArray, List.set_cons_zero, List.set_cons_succ])
                      refine wpAnyH_take (i := 2) (oi := ⟨some 152, _, _, _, _, _⟩) (v := .pointer (some ⟨gV, q * 21, none⟩)) rfl (by kernel_rfl) (by kernel_rfl) (by kernel_rfl) (fun _ _ _ h => h) (Or.inl ⟨by kernel_rfl, by intro WW hSw; go_simp⟩) (by assumption) ?_
                      (try simp only [Act.put, List.setIfInBounds_toArray, List.set_cons_zero, List.set_cons_succ])
                      refine wpAnyH_take (i := 3) (oi := ⟨some 153, _, _, _, _, _⟩) (v := VQ) rfl (by kernel_rfl) (by kernel_rfl) (by kernel_rfl) (fun _ _ _ h => h) (by rw [HVQ.out]; exact yieldsIf_load_mid (by rfl) _ _ rfl gV (q * 21) rfl (trN (C2 q)).cl _ (fun w h => h.1) Try.underlying27 rfl ndI) (by assumption) ?_
                      (try simp only [Act.put, List.setIfInBounds_toArray, List.set_cons_zero, List.set_cons_succ])
                      refine wpAnyH_take (i := 4) (oi := ⟨some 154, _, _, _, _, _⟩) (v := .agg X3.cl.toArray) rfl (by kernel_rfl) (by kernel_rfl) (by kernel_rfl) (fun _ _ _ h => h) (yieldsIf_load_mid (by rfl) _ _ rfl gx 0 rfl X3.cl _ (fun w h => h.2) Try.underlying27 rfl ndI) (by assumption) ?_
                      (try simp only [Act.put, List.setIfInBounds_toArray, List.set_cons_zero, List.set_cons_succ])
                      refine wpAnyH_one (i := 5) (oi := ⟨some 155, _, _, _, _, _⟩) rfl (by kernel_rfl) (fun K hK => ?_)
                      refine step_calls (by rfl) 10 ET.out [.tmp 154] _ rfl [.agg X3.cl.toArray] rfl (HTX2.out _) ?_
                      rintro e w19 ⟨rfl, hb19⟩
                      have HB19 := Lib.hid (Below.and (drew_below _) hb19)
                      clear hb19
                      refine ⟨_, rfl, hK _ _ (HST3.out _ HB19.out) (fun hHeld => ?_)⟩
                      clear hK K
                      (try simp only [Act.put, List.setIfInBounds_toArray, List.set_cons_zero, List.set_cons_succ])
                      refine wpAnyH_take (i := 6) (oi := ⟨some 156, _, _, _, _, _⟩) (v := .bool rq) rfl (by kernel_rfl) (by kernel_rfl) (by kernel_rfl) (fun _ _ _ h => h) (Or.inl ⟨by kernel_rfl, by intro WW hSw; go_simp⟩) (by assumption) ?_
                      (try simp only [Act.put, List.setIfInBounds_toArray, List.set_cons_zero, List.set_cons_succ])
                      refine wpAnyH_done (by kernel_rfl) ?_ _
                      clear hHeld
                      (try refine (‹∀ (a : Act) (w : World), Code.wp Try.prog _ _ a w → _›) _ _ ?_)
                      have HB20 := Lib.hid (low_and HB3'.out HB19.out)
                      cases rq with
                      | true =>
                        go_wp2_with fail
                        refine (known11_any _).mono ?_
                        rintro e wk ⟨rfl, hbk⟩
                        have HBK := Lib.hid hbk
                        clear hbk
                        go_wp2_with fail
                        go_ret
                        exact ⟨rfl, low_and (low_and (low_and (low_and HB2.out HLE.out.lw) HB13.out) HB20.out) HBK.out⟩
                      | false =>
                        go_wp2_with fail
                        have hne : q ≠ σ := fun e => by have := HRE.out e; cases this
                        exact ⟨⟨q + 1, by omega, by go_num, HB20.out⟩, by simp [intOf]; omega⟩
                | true =>
                  rw [if_pos rfl] at hhv
                  subst hv
                  by_cases hneg : X3.inv < 0
                  · have hge : decide (0 ≤ X3.inv) = false := by rw [decide_eq_false_iff_not]; omega
                    refine wp_region_held_drew (S := fun W : World => W.rangeAt gx 0 X3.cl) (by kernel_rfl) (HST.out _ (drew_below _)) (fun hHeld => ?_)
                    refine wpAnyH_take (i := 0) (oi := ⟨some 113, _, _, _, _, _⟩) (v := .int .i64 0) rfl (by kernel_rfl) (by kernel_rfl) (by kernel_rfl) (fun _ _ _ h => h) (Or.inl ⟨by kernel_rfl, by intro WW hSw; have s0 := hSw; clear hSw; go_simp⟩) (by assumption) ?_
                    (try simp only [Act.put, List.setIfInBounds_toArray, List.set_cons_zero, List.set_cons_succ])
                    refine wpAnyH_take (i := 1) (oi := ⟨some 114, _, _, _, _, _⟩) (v := .bool false) rfl (by kernel_rfl) (by kernel_rfl) (by kernel_rfl) (fun _ _ _ h => h) (Or.inl ⟨by kernel_rfl, by intro WW hSw; have s0 := hSw; clear hSw; go_simp⟩) (by assumption) ?_
                    (try simp only [Act.put, List.setIfInBounds_toArray, List.set_cons_zero, List.set_cons_succ])
                    refine wpAnyH_take (i := 2) (oi := ⟨some 115, _, _, _, _, _⟩) (v := .bool false) rfl (by kernel_rfl) (by kernel_rfl) (by kernel_rfl) (fun _ _ _ h => h) (Or.inl ⟨by kernel_rfl, by intro WW hSw; have s0 := hSw; clear hSw; go_simp⟩) (by assumption) ?_
                    (try simp only [Act.put, List.setIfInBounds_toArray, List.set_cons_zero, List.set_cons_succ])
                    refine wpAnyH_take (i := 3) (oi := ⟨some 116, _, _, _, _, _⟩) (v := .bool true) rfl (by kernel_rfl) (by kernel_rfl) (by kernel_rfl) (fun _ _ _ h => h) (Or.inl ⟨by kernel_rfl, by intro WW hSw; have s0 := hSw; clear hSw; go_simp⟩) (by assumption) ?_
                    (try simp only [Act.put, List.setIfInBounds_toArray, List.set_cons_zero, List.set_cons_succ])
                    refine wpAnyH_take (i := 4) (oi := ⟨some 117, _, _, _, _, _⟩) (v := .pointer (some ⟨gx, 2, none⟩)) rfl (by kernel_rfl) (by kernel_rfl) (by kernel_rfl) (fun _ _ _ h => h) (Or.inl ⟨by kernel_rfl, by intro WW hSw; have s0 := hSw; clear hSw; go_simp⟩) (by assumption) ?_
                    (try simp only [Act.put, List.setIfInBounds_toArray, List.set_cons_zero, List.set_cons_succ])
                    refine wpAnyH_take (i := 5) (oi := ⟨some 118, _, _, _, _, _⟩) (v := .int .u64 X3.nx) rfl (by kernel_rfl) (by kernel_rfl) (by kernel_rfl) (fun _ _ _ h => h) (Or.inl ⟨by kernel_rfl, by intro WW hSw; have s0 := hSw 2 _ (show X3.cl[2]? = some (.int .u64 X3.nx) from rfl); clear hSw; go_simp⟩) (by assumption) ?_
                    (try simp only [Act.put, List.setIfInBounds_toArray, List.set_cons_zero, List.set_cons_succ])
                    refine wpAnyH_take (i := 6) (oi := ⟨some 119, _, _, _, _, _⟩) (v := .bool true) rfl (by kernel_rfl) (by kernel_rfl) (by kernel_rfl) (fun _ _ _ h => h) (Or.inl ⟨by kernel_rfl, by intro WW hSw; have s0 := hSw; clear hSw; go_simp⟩) (by assumption) ?_
                    (try simp only [Act.put, List.setIfInBounds_toArray, List.set_cons_zero, List.set_cons_succ])
                    refine wpAnyH_take (i := 7) (oi := ⟨some 120, _, _, _, _, _⟩) (v := .bool false) rfl (by kernel_rfl) (by kernel_rfl) (by kernel_rfl) (fun _ _ _ h => h) (Or.inl ⟨by kernel_rfl, by intro WW hSw; have s0 := hSw; clear hSw; go_simp⟩) (by assumption) ?_
                    (try simp only [Act.put, List.setIfInBounds_toArray, List.set_cons_zero, List.set_cons_succ])
                    refine wpAnyH_take (i := 8) (oi := ⟨some 121, _, _, _, _, _⟩) (v := .bool false) rfl (by kernel_rfl) (by kernel_rfl) (by kernel_rfl) (fun _ _ _ h => h) (Or.inl ⟨by kernel_rfl, by intro WW hSw; have s0 := hSw; clear hSw; go_simp⟩) (by assumption) ?_
                    (try simp only [Act.put, List.setIfInBounds_toArray, List.set_cons_zero, List.set_cons_succ])
                    refine wpAnyH_take (i := 9) (oi := ⟨some 122, _, _, _, _, _⟩) (v := .bool false) rfl (by kernel_rfl) (by kernel_rfl) (by kernel_rfl) (fun _ _ _ h => h) (Or.inl ⟨by kernel_rfl, by intro WW hSw; have s0 := hSw; clear hSw; go_simp⟩) (by assumption) ?_
                    (try simp only [Act.put, List.setIfInBounds_toArray, List.set_cons_zero, List.set_cons_succ])
                    refine wpAnyH_take (i := 10) (oi := ⟨some 123, _, _, _, _, _⟩) (v := .bool true) rfl (by kernel_rfl) (by kernel_rfl) (by kernel_rfl) (fun _ _ _ h => h) (Or.inl ⟨by kernel_rfl, by intro WW hSw; have s0 := hSw; clear hSw; go_simp⟩) (by assumption) ?_
                    (try simp only [Act.put, List.setIfInBounds_toArray, List.set_cons_zero, List.set_cons_succ])
                    refine wpAnyH_take (i := 11) (oi := ⟨some 124, _, _, _, _, _⟩) (v := .bool true) rfl (by kernel_rfl) (by kernel_rfl) (by kernel_rfl) (fun _ _ _ h => h) (Or.inl ⟨by kernel_rfl, by intro WW hSw; have s0 := hSw; clear hSw; go_simp⟩) (by assumption) ?_
                    (try simp only [Act.put, List.setIfInBounds_toArray, List.set_cons_zero, List.set_cons_succ])
                    refine wpAnyH_take (i := 12) (oi := ⟨some 125, _, _, _, _, _⟩) (v := .int .u64 low) rfl (by kernel_rfl) (by kernel_rfl) (by kernel_rfl) (fun _ _ _ h => h) (Or.inl ⟨by kernel_rfl, by intro WW hSw; have s0 := hSw; clear hSw; go_simp⟩) (by assumption) ?_
                    (try simp only [Act.put, List.setIfInBounds_toArray, List.set_cons_zero, List.set_cons_succ])
                    refine wpAnyH_take (i := 13) (oi := ⟨some 126, _, _, _, _, _⟩) (v := .int .u64 low) rfl (by kernel_rfl) (by kernel_rfl) (by kernel_rfl) (fun _ _ _ h => h) (Or.inl ⟨by kernel_rfl, by intro WW hSw; have s0 := hSw; clear hSw; go_simp⟩) (by assumption) ?_
                    (try simp only [Act.put, List.setIfInBounds_toArray, List.set_cons_zero, List.set_cons_succ])
                    refine wpAnyH_take (i := 14) (oi := ⟨some 127, _, _, _, _, _⟩) (v := .bool false) rfl (by kernel_rfl) (by kernel_rfl) (by kernel_rfl) (fun _ _ _ h => h) (Or.inl ⟨by kernel_rfl, by intro WW hSw; have s0 := hSw; clear hSw; go_simp⟩) (by assumption) ?_
                    (try simp only [Act.put, List.setIfInBounds_toArray, List.set_cons_zero, List.set_cons_succ])
                    refine wpAnyH_take (i := 15) (oi := ⟨some 128, _, _, _, _, _⟩) (v := .bool false) rfl (by kernel_rfl) (by kernel_rfl) (by kernel_rfl) (fun _ _ _ h => h) (Or.inl ⟨by kernel_rfl, by intro WW hSw; have s0 := hSw; clear hSw; go_simp⟩) (by assumption) ?_
                    (try simp only [Act.put, List.setIfInBounds_toArray, List.set_cons_zero, List.set_cons_succ])
                    refine wpAnyH_take (i := 16) (oi := ⟨some 129, _, _, _, _, _⟩) (v := .bool false) rfl (by kernel_rfl) (by kernel_rfl) (by kernel_rfl) (fun _ _ _ h => h) (Or.inl ⟨by kernel_rfl, by intro WW hSw; have s0 := hSw; clear hSw; go_simp⟩) (by assumption) ?_
                    (try simp only [Act.put, List.setIfInBounds_toArray, List.set_cons_zero, List.set_cons_succ])
                    refine wpAnyH_take (i := 17) (oi := ⟨some 130, _, _, _, _, _⟩) (v := .bool false) rfl (by kernel_rfl) (by kernel_rfl) (by kernel_rfl) (fun _ _ _ h => h) (Or.inl ⟨by kernel_rfl, by intro WW hSw; have s0 := hSw; clear hSw; go_simp⟩) (by assumption) ?_
                    (try simp only [Act.put, List.setIfInBounds_toArray, List.set_cons_zero, List.set_cons_succ])
                    refine wpAnyH_take (i := 18) (oi := ⟨some 131, _, _, _, _, _⟩) (v := .agg X3.cl.toArray) rfl (by kernel_rfl) (by kernel_rfl) (by kernel_rfl) (fun _ _ _ h => h) (yieldsIf_load_mid (by rfl) _ _ rfl gx 0 rfl X3.cl _ (fun w h => h) Try.underlying27 rfl ndI) (by assumption) ?_
                    (try simp only [Act.put, List.setIfInBounds_toArray, List.set_cons_zero, List.set_cons_succ])
                    refine wpAnyH_one (i := 19) (oi := ⟨some 132, _, _, _, _, _⟩) rfl (by kernel_rfl) (fun K hK => ?_)
                    refine step_calls (by rfl) 15 EI.out [.tmp 131] _ rfl [.agg X3.cl.toArray] rfl (r8Inv_any X3 _) ?_
                    rintro e w15 ⟨rfl, hb15⟩
                    have HB15 := Lib.hid (Below.and (drew_below _) hb15)
                    clear hb15
                    refine ⟨_, rfl, hK _ _ (HST.out _ HB15.out) (fun hHeld => ?_)⟩
                    clear hK K
                    (try simp only [Act.put, List.setIfInBounds_toArray, List.set_cons_zero, List.set_cons_succ])
                    refine wpAnyH_take (i := 20) (oi := ⟨some 133, _, _, _, _, _⟩) (v := .bool false) rfl (by kernel_rfl) (by kernel_rfl) (by kernel_rfl) (fun _ _ _ h => h) (Or.inl ⟨by kernel_rfl, by intro WW hSw; have s0 := hSw; clear hSw; go_simp⟩) (by assumption) ?_
                    (try simp only [Act.put, List.setIfInBounds_toArray, List.set_cons_zero, List.set_cons_succ])
                    refine wpAnyH_take (i := 21) (oi := ⟨some 134, _, _, _, _, _⟩) (v := .bool false) rfl (by kernel_rfl) (by kernel_rfl) (by kernel_rfl) (fun _ _ _ h => h) (Or.inl ⟨by kernel_rfl, by intro WW hSw; have s0 := hSw; clear hSw; go_simp⟩) (by assumption) ?_
                    (try simp only [Act.put, List.setIfInBounds_toArray, List.set_cons_zero, List.set_cons_succ])
                    refine wpAnyH_take (i := 22) (oi := ⟨some 135, _, _, _, _, _⟩) (v := undef) rfl (by kernel_rfl) (by kernel_rfl) (by kernel_rfl) (fun _ _ _ h => h) (Or.inr ⟨by kernel_rfl, rfl⟩) (by assumption) ?_
                    (try simp only [Act.put, List.setIfInBounds_toArray, List.set_cons_zero, List.set_cons_succ])
                    refine wpAnyH_take (i := 24) (oi := ⟨some 137, _, _, _, _, _⟩) (v := undef) rfl (by kernel_rfl) (by kernel_rfl) (by kernel_rfl) (fun _ _ _ h => h) (Or.inr ⟨by kernel_rfl, rfl⟩) (by assumption) ?_
                    (try simp only [Act.put, List.setIfInBounds_toArray, List.set_cons_zero, List.set_cons_succ])
                    refine wpAnyH_take (i := 23) (oi := ⟨some 136, _, _, _, _, _⟩) (v := undef) rfl (by kernel_rfl) (by kernel_rfl) (by kernel_rfl) (fun _ _ _ h => h) (Or.inr ⟨by kernel_rfl, rfl⟩) (by assumption) ?_
                    (try simp only [Act.put, List.setIfInBounds_toArray, List.set_cons_zero, List.set_cons_succ])
                    refine wpAnyH_take (i := 25) (oi := ⟨some 138, _, _, _, _, _⟩) (v := undef) rfl (by kernel_rfl) (by kernel_rfl) (by kernel_rfl) (fun _ _ _ h => h) (Or.inr ⟨by kernel_rfl, rfl⟩) (by assumption) ?_
                    (try simp only [Act.put, List.setIfInBounds_toArray, List.set_cons_zero, List.set_cons_succ])
                    refine wpAnyH_take (i := 26) (oi := ⟨some 139, _, _, _, _, _⟩) (v := undef) rfl (by kernel_rfl) (by kernel_rfl) (by kernel_rfl) (fun _ _ _ h => h) (Or.inr ⟨by kernel_rfl, rfl⟩) (by assumption) ?_
                    (try simp only [Act.put, List.setIfInBounds_toArray, List.set_cons_zero, List.set_cons_succ])
                    refine wpAnyH_take (i := 27) (oi := ⟨some 140, _, _, _, _, _⟩) (v := undef) rfl (by kernel_rfl) (by kernel_rfl) (by kernel_rfl) (fun _ _ _ h => h) (Or.inr ⟨by kernel_rfl, rfl⟩) (by assumption) ?_
                    (try simp only [Act.put, List.setIfInBounds_toArray, List.set_cons_zero, List.set_cons_succ])
                    refine wpAnyH_take (i := 28) (oi := ⟨some 141, _, _, _, _, _⟩) (v := undef) rfl (by kernel_rfl) (by kernel_rfl) (by kernel_rfl) (fun _ _ _ h => h) (Or.inr ⟨by kernel_rfl, rfl⟩) (by assumption) ?_
                    (try simp only [Act.put, List.setIfInBounds_toArray, List.set_cons_zero, List.set_cons_succ])
                    refine wpAnyH_take (i := 29) (oi := ⟨some 142, _, _, _, _, _⟩) (v := .bool false) rfl (by kernel_rfl) (by kernel_rfl) (by kernel_rfl) (fun _ _ _ h => h) (Or.inl ⟨by kernel_rfl, by intro WW hSw; have s0 := hSw; clear hSw; go_simp⟩) (by assumption) ?_
                    (try simp only [Act.put, List.setIfInBounds_toArray, List.set_cons_zero, List.set_cons_succ])
                    refine wpAnyH_take (i := 30) (oi := ⟨some 143, _, _, _, _, _⟩) (v := .bool false) rfl (by kernel_rfl) (by kernel_rfl) (by kernel_rfl) (fun _ _ _ h => h) (Or.inl ⟨by kernel_rfl, by intro WW hSw; have s0 := hSw; clear hSw; go_simp⟩) (by assumption) ?_
                    (try simp only [Act.put, List.setIfInBounds_toArray, List.set_cons_zero, List.set_cons_succ])
                    refine wpAnyH_done (by kernel_rfl) ?_ _
                    clear hHeld
                    (try refine (‹∀ (a : Act) (w : World), Code.wp Try.prog _ _ a w → _›) _ _ ?_)
                    have HB18 := Lib.hid (low_and HB13.out HB15.out)
                    have HB98 := Lib.hid HB15.out
                    clear HST
                    go_wp2_with fail
                    go_loopw [24] (fun i wr3 => ∃ q : Nat, q ≤ σ ∧ i = .int .i64 (q : Int) ∧ Below w13.heap.size w13 wr3) (fun i _ => 400 - (intOf i).toNat)
                    case atStart => exact ⟨0, Nat.zero_le _, rfl, HB98.out⟩
                    case round =>
                      rename World => wr3
                      obtain ⟨q, hq, rfl, hb3⟩ := hrel
                      have hσ := HLE.out.le
                      have hT1 := HT1.out
                      have hqt : (q : Int) < (T1 : Int) := by omega
                      have hq0 : (0 : Int) ≤ (q : Int) := by omega
                      have hmo := ownS_low (ownS_low HLE.out.mo HB13.out) hb3
                      have HST3 := Lib.hid (show ∀ W, Below wr3.heap.size wr3 W → W.rangeAt gV (q * 21) (trN (C2 q)).cl ∧ W.rangeAt gx 0 X3.cl from fun W hb => by
                        refine ⟨fun j v hv => ?_, ndR ((HNX.out.below hb3 HNX.out.lt).below hb (Nat.lt_of_lt_of_le HNX.out.lt hb3.size))⟩
                        have hj : j < 21 := by
                          have := (List.getElem?_eq_some_iff.1 hv).1
                          rw [(trN (C2 q)).size] at this
                          exact this
                        have := (ownS_low hmo hb).cells rfl (21 * q + j) v (by rw [moL_at (by omega) hj]; exact hv)
                        rw [Addr.add_lit, Nat.zero_add, show 21 * q = q * 21 by omega] at this
                        exact this)
                      obtain ⟨rq, hrq, hre⟩ : ∃ r : Bool, (∀ w, (binOp .eql 27 (trN (C2 q)).V (trN (C2 σ)).V).run Try.prog w = .ok (.bool r) w) ∧ (q = σ → r = true) := by
                        by_cases e : q = σ
                        · subst e
                          exact ⟨true, fun w => eq_node _ w, fun _ => rfl⟩
                        · obtain ⟨r, h⟩ := eql_nodes (trN (C2 q)) (trN (C2 σ))
                          exact ⟨r, h, fun e2 => absurd e2 e⟩
                      obtain ⟨VQ, hVQ⟩ : ∃ VQ, VQ = (trN (C2 q)).V := ⟨_, rfl⟩
                      obtain ⟨VS, hVS⟩ : ∃ VS, VS = (trN (C2 σ)).V := ⟨_, rfl⟩
                      have HTX2 := Lib.hid (show ∀ W, Calls Try.prog 10 #[X3.V] W fun e w' => e = .returned VS ∧ Below W.heap.size W w' from by rw [hVS]; exact HTX.out)
                      rw [← hVQ, ← hVS] at hrq
                      have hge2 : ∀ (x y : Operand) (w : World), (eqGuard .eql 27 x y VQ VS).run Try.prog w = .ok () w := fun x y w => by
                        rw [hVQ, hVS]
                        unfold Nd.V
                        exact run_eqGuard_agg _ _ _ _ _ _ _ (show Try.prog.eqGuardType Try.prog.depth 27 = false from by kernel_rfl)
                      have HVQ := Lib.hid hVQ
                      have HB3' := Lib.hid hb3
                      have HRE := Lib.hid hre
                      clear hVQ hVS hmo hb3 hre
                      go_upto_region 31 with fail
                      (try refine wp_region_noPanic ?_)
                      refine wp_region_held_drew (S := fun W : World => W.rangeAt gV (q * 21) (trN (C2 q)).cl ∧ W.rangeAt gx 0 X3.cl) (by kernel_rfl) (HST3.out _ (drew_below _)) (fun hHeld => ?_)
                      refine wpAnyH_take (i := 0) (oi := ⟨some 150, _, _, _, _, _⟩) (v := .slice (some ⟨gV, 0, none⟩) T1 cV) rfl (by kernel_rfl) (by kernel_rfl) (by kernel_rfl) (fun _ _ _ h => h) (Or.inl ⟨by kernel_rfl, by intro WW hSw; go_simp⟩) (by assumption) ?_
                      (try simp only [Act.put, List.setIfInBounds_toArray, List.set_cons_zero, List.set_cons_succ])
                      refine wpAnyH_take (i := 1) (oi := ⟨some 151, _, _, _, _, _⟩) (v := .int .i64 (q : Int)) rfl (by kernel_rfl) (by kernel_rfl) (by kernel_rfl) (fun _ _ _ h => h) (Or.inl ⟨by kernel_rfl, by intro WW hSw; go_simp⟩) (by assumption) ?_
                      (try simp only [Act.put, List.setIfInBounds_toArray, List.set_cons_zero, List.set_cons_succ])
                      refine wpAnyH_take (i := 2) (oi := ⟨some 152, _, _, _, _, _⟩) (v := .pointer (some ⟨gV, q * 21, none⟩)) rfl (by kernel_rfl) (by kernel_rfl) (by kernel_rfl) (fun _ _ _ h => h) (Or.inl ⟨by kernel_rfl, by intro WW hSw; go_simp⟩) (by assumption) ?_
                      (try simp only [Act.put, List.setIfInBounds_toArray, List.set_cons_zero, List.set_cons_succ])
                      refine wpAnyH_take (i := 3) (oi := ⟨some 153, _, _, _, _, _⟩) (v := VQ) rfl (by kernel_rfl) (by kernel_rfl) (by kernel_rfl) (fun _ _ _ h => h) (by rw [HVQ.out]; exact yieldsIf_load_mid (by rfl) _ _ rfl gV (q * 21) rfl (trN (C2 q)).cl _ (fun w h => h.1) Try.underlying27 rfl ndI) (by assumption) ?_
                      (try simp only [Act.put, List.setIfInBounds_toArray, List.set_cons_zero, List.set_cons_succ])
                      refine wpAnyH_take (i := 4) (oi := ⟨some 154, _, _, _, _, _⟩) (v := .agg X3.cl.toArray) rfl (by kernel_rfl) (by kernel_rfl) (by kernel_rfl) (fun _ _ _ h => h) (yieldsIf_load_mid (by rfl) _ _ rfl gx 0 rfl X3.cl _ (fun w h => h.2) Try.underlying27 rfl ndI) (by assumption) ?_
                      (try simp only [Act.put, List.setIfInBounds_toArray, List.set_cons_zero, List.set_cons_succ])
                      refine wpAnyH_one (i := 5) (oi := ⟨some 155, _, _, _, _, _⟩) rfl (by kernel_rfl) (fun K hK => ?_)
                      refine step_calls (by rfl) 10 ET.out [.tmp 154] _ rfl [.agg X3.cl.toArray] rfl (HTX2.out _) ?_
                      rintro e w19 ⟨rfl, hb19⟩
                      have HB19 := Lib.hid (Below.and (drew_below _) hb19)
                      clear hb19
                      refine ⟨_, rfl, hK _ _ (HST3.out _ HB19.out) (fun hHeld => ?_)⟩
                      clear hK K
                      (try simp only [Act.put, List.setIfInBounds_toArray, List.set_cons_zero, List.set_cons_succ])
                      refine wpAnyH_take (i := 6) (oi := ⟨some 156, _, _, _, _, _⟩) (v := .bool rq) rfl (by kernel_rfl) (by kernel_rfl) (by kernel_rfl) (fun _ _ _ h => h) (Or.inl ⟨by kernel_rfl, by intro WW hSw; go_simp⟩) (by assumption) ?_
                      (try simp only [Act.put, List.setIfInBounds_toArray, List.set_cons_zero, List.set_cons_succ])
                      refine wpAnyH_done (by kernel_rfl) ?_ _
                      clear hHeld
                      (try refine (‹∀ (a : Act) (w : World), Code.wp Try.prog _ _ a w → _›) _ _ ?_)
                      have HB20 := Lib.hid (low_and HB3'.out HB19.out)
                      cases rq with
                      | true =>
                        go_wp2_with fail
                        refine (known11_any _).mono ?_
                        rintro e wk ⟨rfl, hbk⟩
                        have HBK := Lib.hid hbk
                        clear hbk
                        go_wp2_with fail
                        go_ret
                        exact ⟨rfl, low_and (low_and (low_and (low_and HB2.out HLE.out.lw) HB13.out) HB20.out) HBK.out⟩
                      | false =>
                        go_wp2_with fail
                        have hne : q ≠ σ := fun e => by have := HRE.out e; cases this
                        exact ⟨⟨q + 1, by omega, by go_num, HB20.out⟩, by simp [intOf]; omega⟩
                  · have hge : decide (0 ≤ X3.inv) = true := by rw [decide_eq_true_eq]; omega
                    have hsub : IntKind.i64.wrap ((X3.len : Int) - (X3.es.length : Int)) = 1 := by rw [HONE.out (by omega)]; first | rfl | decide | kernel_rfl
                    refine wp_region_held_drew (S := fun W : World => W.rangeAt gx 0 X3.cl) (by kernel_rfl) (HST.out _ (drew_below _)) (fun hHeld => ?_)
                    refine wpAnyH_take (i := 0) (oi := ⟨some 113, _, _, _, _, _⟩) (v := .int .i64 0) rfl (by kernel_rfl) (by kernel_rfl) (by kernel_rfl) (fun _ _ _ h => h) (Or.inl ⟨by kernel_rfl, by intro WW hSw; have s0 := hSw; clear hSw; go_simp⟩) (by assumption) ?_
                    (try simp only [Act.put, List.setIfInBounds_toArray, List.set_cons_zero, List.set_cons_succ])
                    refine wpAnyH_take (i := 1) (oi := ⟨some 114, _, _, _, _, _⟩) (v := .bool false) rfl (by kernel_rfl) (by kernel_rfl) (by kernel_rfl) (fun _ _ _ h => h) (Or.inl ⟨by kernel_rfl, by intro WW hSw; have s0 := hSw; clear hSw; go_simp⟩) (by assumption) ?_
                    (try simp only [Act.put, List.setIfInBounds_toArray, List.set_cons_zero, List.set_cons_succ])
                    refine wpAnyH_take (i := 2) (oi := ⟨some 115, _, _, _, _, _⟩) (v := .bool false) rfl (by kernel_rfl) (by kernel_rfl) (by kernel_rfl) (fun _ _ _ h => h) (Or.inl ⟨by kernel_rfl, by intro WW hSw; have s0 := hSw; clear hSw; go_simp⟩) (by assumption) ?_
                    (try simp only [Act.put, List.setIfInBounds_toArray, List.set_cons_zero, List.set_cons_succ])
                    refine wpAnyH_take (i := 3) (oi := ⟨some 116, _, _, _, _, _⟩) (v := .bool true) rfl (by kernel_rfl) (by kernel_rfl) (by kernel_rfl) (fun _ _ _ h => h) (Or.inl ⟨by kernel_rfl, by intro WW hSw; have s0 := hSw; clear hSw; go_simp⟩) (by assumption) ?_
                    (try simp only [Act.put, List.setIfInBounds_toArray, List.set_cons_zero, List.set_cons_succ])
                    refine wpAnyH_take (i := 4) (oi := ⟨some 117, _, _, _, _, _⟩) (v := .pointer (some ⟨gx, 2, none⟩)) rfl (by kernel_rfl) (by kernel_rfl) (by kernel_rfl) (fun _ _ _ h => h) (Or.inl ⟨by kernel_rfl, by intro WW hSw; have s0 := hSw; clear hSw; go_simp⟩) (by assumption) ?_
                    (try simp only [Act.put, List.setIfInBounds_toArray, List.set_cons_zero, List.set_cons_succ])
                    refine wpAnyH_take (i := 5) (oi := ⟨some 118, _, _, _, _, _⟩) (v := .int .u64 X3.nx) rfl (by kernel_rfl) (by kernel_rfl) (by kernel_rfl) (fun _ _ _ h => h) (Or.inl ⟨by kernel_rfl, by intro WW hSw; have s0 := hSw 2 _ (show X3.cl[2]? = some (.int .u64 X3.nx) from rfl); clear hSw; go_simp⟩) (by assumption) ?_
                    (try simp only [Act.put, List.setIfInBounds_toArray, List.set_cons_zero, List.set_cons_succ])
                    refine wpAnyH_take (i := 6) (oi := ⟨some 119, _, _, _, _, _⟩) (v := .bool true) rfl (by kernel_rfl) (by kernel_rfl) (by kernel_rfl) (fun _ _ _ h => h) (Or.inl ⟨by kernel_rfl, by intro WW hSw; have s0 := hSw; clear hSw; go_simp⟩) (by assumption) ?_
                    (try simp only [Act.put, List.setIfInBounds_toArray, List.set_cons_zero, List.set_cons_succ])
                    refine wpAnyH_take (i := 7) (oi := ⟨some 120, _, _, _, _, _⟩) (v := .bool false) rfl (by kernel_rfl) (by kernel_rfl) (by kernel_rfl) (fun _ _ _ h => h) (Or.inl ⟨by kernel_rfl, by intro WW hSw; have s0 := hSw; clear hSw; go_simp⟩) (by assumption) ?_
                    (try simp only [Act.put, List.setIfInBounds_toArray, List.set_cons_zero, List.set_cons_succ])
                    refine wpAnyH_take (i := 8) (oi := ⟨some 121, _, _, _, _, _⟩) (v := .bool false) rfl (by kernel_rfl) (by kernel_rfl) (by kernel_rfl) (fun _ _ _ h => h) (Or.inl ⟨by kernel_rfl, by intro WW hSw; have s0 := hSw; clear hSw; go_simp⟩) (by assumption) ?_
                    (try simp only [Act.put, List.setIfInBounds_toArray, List.set_cons_zero, List.set_cons_succ])
                    refine wpAnyH_take (i := 9) (oi := ⟨some 122, _, _, _, _, _⟩) (v := .bool false) rfl (by kernel_rfl) (by kernel_rfl) (by kernel_rfl) (fun _ _ _ h => h) (Or.inl ⟨by kernel_rfl, by intro WW hSw; have s0 := hSw; clear hSw; go_simp⟩) (by assumption) ?_
                    (try simp only [Act.put, List.setIfInBounds_toArray, List.set_cons_zero, List.set_cons_succ])
                    refine wpAnyH_take (i := 10) (oi := ⟨some 123, _, _, _, _, _⟩) (v := .bool true) rfl (by kernel_rfl) (by kernel_rfl) (by kernel_rfl) (fun _ _ _ h => h) (Or.inl ⟨by kernel_rfl, by intro WW hSw; have s0 := hSw; clear hSw; go_simp⟩) (by assumption) ?_
                    (try simp only [Act.put, List.setIfInBounds_toArray, List.set_cons_zero, List.set_cons_succ])
                    refine wpAnyH_take (i := 11) (oi := ⟨some 124, _, _, _, _, _⟩) (v := .bool true) rfl (by kernel_rfl) (by kernel_rfl) (by kernel_rfl) (fun _ _ _ h => h) (Or.inl ⟨by kernel_rfl, by intro WW hSw; have s0 := hSw; clear hSw; go_simp⟩) (by assumption) ?_
                    (try simp only [Act.put, List.setIfInBounds_toArray, List.set_cons_zero, List.set_cons_succ])
                    refine wpAnyH_take (i := 12) (oi := ⟨some 125, _, _, _, _, _⟩) (v := .int .u64 low) rfl (by kernel_rfl) (by kernel_rfl) (by kernel_rfl) (fun _ _ _ h => h) (Or.inl ⟨by kernel_rfl, by intro WW hSw; have s0 := hSw; clear hSw; go_simp⟩) (by assumption) ?_
                    (try simp only [Act.put, List.setIfInBounds_toArray, List.set_cons_zero, List.set_cons_succ])
                    refine wpAnyH_take (i := 13) (oi := ⟨some 126, _, _, _, _, _⟩) (v := .int .u64 low) rfl (by kernel_rfl) (by kernel_rfl) (by kernel_rfl) (fun _ _ _ h => h) (Or.inl ⟨by kernel_rfl, by intro WW hSw; have s0 := hSw; clear hSw; go_simp⟩) (by assumption) ?_
                    (try simp only [Act.put, List.setIfInBounds_toArray, List.set_cons_zero, List.set_cons_succ])
                    refine wpAnyH_take (i := 14) (oi := ⟨some 127, _, _, _, _, _⟩) (v := .bool false) rfl (by kernel_rfl) (by kernel_rfl) (by kernel_rfl) (fun _ _ _ h => h) (Or.inl ⟨by kernel_rfl, by intro WW hSw; have s0 := hSw; clear hSw; go_simp⟩) (by assumption) ?_
                    (try simp only [Act.put, List.setIfInBounds_toArray, List.set_cons_zero, List.set_cons_succ])
                    refine wpAnyH_take (i := 15) (oi := ⟨some 128, _, _, _, _, _⟩) (v := .bool false) rfl (by kernel_rfl) (by kernel_rfl) (by kernel_rfl) (fun _ _ _ h => h) (Or.inl ⟨by kernel_rfl, by intro WW hSw; have s0 := hSw; clear hSw; go_simp⟩) (by assumption) ?_
                    (try simp only [Act.put, List.setIfInBounds_toArray, List.set_cons_zero, List.set_cons_succ])
                    refine wpAnyH_take (i := 16) (oi := ⟨some 129, _, _, _, _, _⟩) (v := .bool false) rfl (by kernel_rfl) (by kernel_rfl) (by kernel_rfl) (fun _ _ _ h => h) (Or.inl ⟨by kernel_rfl, by intro WW hSw; have s0 := hSw; clear hSw; go_simp⟩) (by assumption) ?_
                    (try simp only [Act.put, List.setIfInBounds_toArray, List.set_cons_zero, List.set_cons_succ])
                    refine wpAnyH_take (i := 17) (oi := ⟨some 130, _, _, _, _, _⟩) (v := .bool false) rfl (by kernel_rfl) (by kernel_rfl) (by kernel_rfl) (fun _ _ _ h => h) (Or.inl ⟨by kernel_rfl, by intro WW hSw; have s0 := hSw; clear hSw; go_simp⟩) (by assumption) ?_
                    (try simp only [Act.put, List.setIfInBounds_toArray, List.set_cons_zero, List.set_cons_succ])
                    refine wpAnyH_take (i := 18) (oi := ⟨some 131, _, _, _, _, _⟩) (v := .agg X3.cl.toArray) rfl (by kernel_rfl) (by kernel_rfl) (by kernel_rfl) (fun _ _ _ h => h) (yieldsIf_load_mid (by rfl) _ _ rfl gx 0 rfl X3.cl _ (fun w h => h) Try.underlying27 rfl ndI) (by assumption) ?_
                    (try simp only [Act.put, List.setIfInBounds_toArray, List.set_cons_zero, List.set_cons_succ])
                    refine wpAnyH_one (i := 19) (oi := ⟨some 132, _, _, _, _, _⟩) rfl (by kernel_rfl) (fun K hK => ?_)
                    refine step_calls (by rfl) 15 EI.out [.tmp 131] _ rfl [.agg X3.cl.toArray] rfl (r8Inv_any X3 _) ?_
                    rintro e w15 ⟨rfl, hb15⟩
                    have HB15 := Lib.hid (Below.and (drew_below _) hb15)
                    clear hb15
                    refine ⟨_, rfl, hK _ _ (HST.out _ HB15.out) (fun hHeld => ?_)⟩
                    clear hK K
                    (try simp only [Act.put, List.setIfInBounds_toArray, List.set_cons_zero, List.set_cons_succ])
                    refine wpAnyH_take (i := 20) (oi := ⟨some 133, _, _, _, _, _⟩) (v := .bool true) rfl (by kernel_rfl) (by kernel_rfl) (by kernel_rfl) (fun _ _ _ h => h) (Or.inl ⟨by kernel_rfl, by intro WW hSw; have s0 := hSw; clear hSw; go_simp⟩) (by assumption) ?_
                    (try simp only [Act.put, List.setIfInBounds_toArray, List.set_cons_zero, List.set_cons_succ])
                    refine wpAnyH_take (i := 21) (oi := ⟨some 134, _, _, _, _, _⟩) (v := .bool true) rfl (by kernel_rfl) (by kernel_rfl) (by kernel_rfl) (fun _ _ _ h => h) (Or.inl ⟨by kernel_rfl, by intro WW hSw; have s0 := hSw; clear hSw; go_simp⟩) (by assumption) ?_
                    (try simp only [Act.put, List.setIfInBounds_toArray, List.set_cons_zero, List.set_cons_succ])
                    refine wpAnyH_take (i := 22) (oi := ⟨some 135, _, _, _, _, _⟩) (v := .agg X3.cl.toArray) rfl (by kernel_rfl) (by kernel_rfl) (by kernel_rfl) (fun _ _ _ h => h) (yieldsIf_load_mid (by rfl) _ _ rfl gx 0 rfl X3.cl _ (fun w h => h) Try.underlying27 rfl ndI) (by assumption) ?_
                    (try simp only [Act.put, List.setIfInBounds_toArray, List.set_cons_zero, List.set_cons_succ])
                    refine wpAnyH_take (i := 24) (oi := ⟨some 137, _, _, _, _, _⟩) (v := .agg X3.cl.toArray) rfl (by kernel_rfl) (by kernel_rfl) (by kernel_rfl) (fun _ _ _ h => h) (yieldsIf_load_mid (by rfl) _ _ rfl gx 0 rfl X3.cl _ (fun w h => h) Try.underlying27 rfl ndI) (by assumption) ?_
                    (try simp only [Act.put, List.setIfInBounds_toArray, List.set_cons_zero, List.set_cons_succ])
                    refine wpAnyH_one (i := 23) (oi := ⟨some 136, _, _, _, _, _⟩) rfl (by kernel_rfl) (fun K hK => ?_)
                    refine step_calls (by rfl) 16 EL.out [.tmp 135] _ rfl [.agg X3.cl.toArray] rfl (r8Len_any X3 _) ?_
                    rintro e w16 ⟨rfl, hb16⟩
                    have HB16 := Lib.hid (Below.and HB15.out hb16)
                    clear hb16
                    refine ⟨_, rfl, hK _ _ (HST.out _ HB16.out) (fun hHeld => ?_)⟩
                    clear hK K
                    (try simp only [Act.put, List.setIfInBounds_toArray, List.set_cons_zero, List.set_cons_succ])
                    refine wpAnyH_one (i := 25) (oi := ⟨some 138, _, _, _, _, _⟩) rfl (by kernel_rfl) (fun K hK => ?_)
                    refine step_calls (by rfl) 17 EV.out [.tmp 137] _ rfl [.agg X3.cl.toArray] rfl (r8Valid_any X3 _) ?_
                    rintro e w17 ⟨⟨v17, rfl, ho17⟩, hb17⟩
                    have HB17 := Lib.hid (Below.and HB16.out hb17)
                    obtain ⟨A17, c17, rfl⟩ := own6_sl ho17
                    clear hb17 ho17
                    refine ⟨_, rfl, hK _ _ (HST.out _ HB17.out) (fun hHeld => ?_)⟩
                    clear hK K
                    (try simp only [Act.put, List.setIfInBounds_toArray, List.set_cons_zero, List.set_cons_succ])
                    refine wpAnyH_take (i := 26) (oi := ⟨some 139, _, _, _, _, _⟩) (v := .int .i64 (X3.es.length : Int)) rfl (by kernel_rfl) (by kernel_rfl) (by kernel_rfl) (fun _ _ _ h => h) (Or.inl ⟨by kernel_rfl, by intro WW hSw; have s0 := hSw; clear hSw; go_simp⟩) (by assumption) ?_
                    (try simp only [Act.put, List.setIfInBounds_toArray, List.set_cons_zero, List.set_cons_succ])
                    refine wpAnyH_take (i := 27) (oi := ⟨some 140, _, _, _, _, _⟩) (v := .int .i64 1) rfl (by kernel_rfl) (by kernel_rfl) (by kernel_rfl) (fun _ _ _ h => h) (Or.inl ⟨by kernel_rfl, by intro WW hSw; have s0 := hSw; clear hSw; go_simp⟩) (by assumption) ?_
                    (try simp only [Act.put, List.setIfInBounds_toArray, List.set_cons_zero, List.set_cons_succ])
                    refine wpAnyH_take (i := 28) (oi := ⟨some 141, _, _, _, _, _⟩) (v := .bool false) rfl (by kernel_rfl) (by kernel_rfl) (by kernel_rfl) (fun _ _ _ h => h) (Or.inl ⟨by kernel_rfl, by intro WW hSw; have s0 := hSw; clear hSw; go_simp⟩) (by assumption) ?_
                    (try simp only [Act.put, List.setIfInBounds_toArray, List.set_cons_zero, List.set_cons_succ])
                    refine wpAnyH_take (i := 29) (oi := ⟨some 142, _, _, _, _, _⟩) (v := .bool false) rfl (by kernel_rfl) (by kernel_rfl) (by kernel_rfl) (fun _ _ _ h => h) (Or.inl ⟨by kernel_rfl, by intro WW hSw; have s0 := hSw; clear hSw; go_simp⟩) (by assumption) ?_
                    (try simp only [Act.put, List.setIfInBounds_toArray, List.set_cons_zero, List.set_cons_succ])
                    refine wpAnyH_take (i := 30) (oi := ⟨some 143, _, _, _, _, _⟩) (v := .bool false) rfl (by kernel_rfl) (by kernel_rfl) (by kernel_rfl) (fun _ _ _ h => h) (Or.inl ⟨by kernel_rfl, by intro WW hSw; have s0 := hSw; clear hSw; go_simp⟩) (by assumption) ?_
                    (try simp only [Act.put, List.setIfInBounds_toArray, List.set_cons_zero, List.set_cons_succ])
                    refine wpAnyH_done (by kernel_rfl) ?_ _
                    clear hHeld
                    (try refine (‹∀ (a : Act) (w : World), Code.wp Try.prog _ _ a w → _›) _ _ ?_)
                    have HB18 := Lib.hid (low_and HB13.out HB17.out)
                    have HB98 := Lib.hid HB17.out
                    clear HST
                    go_wp2_with fail
                    go_loopw [24] (fun i wr3 => ∃ q : Nat, q ≤ σ ∧ i = .int .i64 (q : Int) ∧ Below w13.heap.size w13 wr3) (fun i _ => 400 - (intOf i).toNat)
                    case atStart => exact ⟨0, Nat.zero_le _, rfl, HB98.out⟩
                    case round =>
                      rename World => wr3
                      obtain ⟨q, hq, rfl, hb3⟩ := hrel
                      have hσ := HLE.out.le
                      have hT1 := HT1.out
                      have hqt : (q : Int) < (T1 : Int) := by omega
                      have hq0 : (0 : Int) ≤ (q : Int) := by omega
                      have hmo := ownS_low (ownS_low HLE.out.mo HB13.out) hb3
                      have HST3 := Lib.hid (show ∀ W, Below wr3.heap.size wr3 W → W.rangeAt gV (q * 21) (trN (C2 q)).cl ∧ W.rangeAt gx 0 X3.cl from fun W hb => by
                        refine ⟨fun j v hv => ?_, ndR ((HNX.out.below hb3 HNX.out.lt).below hb (Nat.lt_of_lt_of_le HNX.out.lt hb3.size))⟩
                        have hj : j < 21 := by
                          have := (List.getElem?_eq_some_iff.1 hv).1
                          rw [(trN (C2 q)).size] at this
                          exact this
                        have := (ownS_low hmo hb).cells rfl (21 * q + j) v (by rw [moL_at (by omega) hj]; exact hv)
                        rw [Addr.add_lit, Nat.zero_add, show 21 * q = q * 21 by omega] at this
                        exact this)
                      obtain ⟨rq, hrq, hre⟩ : ∃ r : Bool, (∀ w, (binOp .eql 27 (trN (C2 q)).V (trN (C2 σ)).V).run Try.prog w = .ok (.bool r) w) ∧ (q = σ → r = true) := by
                        by_cases e : q = σ
                        · subst e
                          exact ⟨true, fun w => eq_node _ w, fun _ => rfl⟩
                        · obtain ⟨r, h⟩ := eql_nodes (trN (C2 q)) (trN (C2 σ))
                          exact ⟨r, h, fun e2 => absurd e2 e⟩
                      obtain ⟨VQ, hVQ⟩ : ∃ VQ, VQ = (trN (C2 q)).V := ⟨_, rfl⟩
                      obtain ⟨VS, hVS⟩ : ∃ VS, VS = (trN (C2 σ)).V := ⟨_, rfl⟩
                      have HTX2 := Lib.hid (show ∀ W, Calls Try.prog 10 #[X3.V] W fun e w' => e = .returned VS ∧ Below W.heap.size W w' from by rw [hVS]; exact HTX.out)
                      rw [← hVQ, ← hVS] at hrq
                      have hge2 : ∀ (x y : Operand) (w : World), (eqGuard .eql 27 x y VQ VS).run Try.prog w = .ok () w := fun x y w => by
                        rw [hVQ, hVS]
                        unfold Nd.V
                        exact run_eqGuard_agg _ _ _ _ _ _ _ (show Try.prog.eqGuardType Try.prog.depth 27 = false from by kernel_rfl)
                      have HVQ := Lib.hid hVQ
                      have HB3' := Lib.hid hb3
                      have HRE := Lib.hid hre
                      clear hVQ hVS hmo hb3 hre
                      go_upto_region 31 with fail
                      (try refine wp_region_noPanic ?_)
                      refine wp_region_held_drew (S := fun W : World => W.rangeAt gV (q * 21) (trN (C2 q)).cl ∧ W.rangeAt gx 0 X3.cl) (by kernel_rfl) (HST3.out _ (drew_below _)) (fun hHeld => ?_)
                      refine wpAnyH_take (i := 0) (oi := ⟨some 150, _, _, _, _, _⟩) (v := .slice (some ⟨gV, 0, none⟩) T1 cV) rfl (by kernel_rfl) (by kernel_rfl) (by kernel_rfl) (fun _ _ _ h => h) (Or.inl ⟨by kernel_rfl, by intro WW hSw; go_simp⟩) (by assumption) ?_
                      (try simp only [Act.put, List.setIfInBounds_toArray, List.set_cons_zero, List.set_cons_succ])
                      refine wpAnyH_take (i := 1) (oi := ⟨some 151, _, _, _, _, _⟩) (v := .int .i64 (q : Int)) rfl (by kernel_rfl) (by kernel_rfl) (by kernel_rfl) (fun _ _ _ h => h) (Or.inl ⟨by kernel_rfl, by intro WW hSw; go_simp⟩) (by assumption) ?_
                      (try simp only [Act.put, List.setIfInBounds_toArray, List.set_cons_zero, List.set_cons_succ])
                      refine wpAnyH_take (i := 2) (oi := ⟨some 152, _, _, _, _, _⟩) (v := .pointer (some ⟨gV, q * 21, none⟩)) rfl (by kernel_rfl) (by kernel_rfl) (by kernel_rfl) (fun _ _ _ h => h) (Or.inl ⟨by kernel_rfl, by intro WW hSw; go_simp⟩) (by assumption) ?_
                      (try simp only [Act.put, List.setIfInBounds_toArray, List.set_cons_zero, List.set_cons_succ])
                      refine wpAnyH_take (i := 3) (oi := ⟨some 153, _, _, _, _, _⟩) (v := VQ) rfl (by kernel_rfl) (by kernel_rfl) (by kernel_rfl) (fun _ _ _ h => h) (by rw [HVQ.out]; exact yieldsIf_load_mid (by rfl) _ _ rfl gV (q * 21) rfl (trN (C2 q)).cl _ (fun w h => h.1) Try.underlying27 rfl ndI) (by assumption) ?_
                      (try simp only [Act.put, List.setIfInBounds_toArray, List.set_cons_zero, List.set_cons_succ])
                      refine wpAnyH_take (i := 4) (oi := ⟨some 154, _, _, _, _, _⟩) (v := .agg X3.cl.toArray) rfl (by kernel_rfl) (by kernel_rfl) (by kernel_rfl) (fun _ _ _ h => h) (yieldsIf_load_mid (by rfl) _ _ rfl gx 0 rfl X3.cl _ (fun w h => h.2) Try.underlying27 rfl ndI) (by assumption) ?_
                      (try simp only [Act.put, List.setIfInBounds_toArray, List.set_cons_zero, List.set_cons_succ])
                      refine wpAnyH_one (i := 5) (oi := ⟨some 155, _, _, _, _, _⟩) rfl (by kernel_rfl) (fun K hK => ?_)
                      refine step_calls (by rfl) 10 ET.out [.tmp 154] _ rfl [.agg X3.cl.toArray] rfl (HTX2.out _) ?_
                      rintro e w19 ⟨rfl, hb19⟩
                      have HB19 := Lib.hid (Below.and (drew_below _) hb19)
                      clear hb19
                      refine ⟨_, rfl, hK _ _ (HST3.out _ HB19.out) (fun hHeld => ?_)⟩
                      clear hK K
                      (try simp only [Act.put, List.setIfInBounds_toArray, List.set_cons_zero, List.set_cons_succ])
                      refine wpAnyH_take (i := 6) (oi := ⟨some 156, _, _, _, _, _⟩) (v := .bool rq) rfl (by kernel_rfl) (by kernel_rfl) (by kernel_rfl) (fun _ _ _ h => h) (Or.inl ⟨by kernel_rfl, by intro WW hSw; go_simp⟩) (by assumption) ?_
                      (try simp only [Act.put, List.setIfInBounds_toArray, List.set_cons_zero, List.set_cons_succ])
                      refine wpAnyH_done (by kernel_rfl) ?_ _
                      clear hHeld
                      (try refine (‹∀ (a : Act) (w : World), Code.wp Try.prog _ _ a w → _›) _ _ ?_)
                      have HB20 := Lib.hid (low_and HB3'.out HB19.out)
                      cases rq with
                      | true =>
                        go_wp2_with fail
                        refine (known11_any _).mono ?_
                        rintro e wk ⟨rfl, hbk⟩
                        have HBK := Lib.hid hbk
                        clear hbk
                        go_wp2_with fail
                        go_ret
                        exact ⟨rfl, low_and (low_and (low_and (low_and HB2.out HLE.out.lw) HB13.out) HB20.out) HBK.out⟩
                      | false =>
                        go_wp2_with fail
                        have hne : q ≠ σ := fun e => by have := HRE.out e; cases this
                        exact ⟨⟨q + 1, by omega, by go_num, HB20.out⟩, by simp [intOf]; omega⟩

          · have hjy : (nT : Int) ≤ (j : Int) := by omega
            have HSP := Lib.hid (hlb.snap (by omega))
            clear hlb
            go_wp2_with fail
            refine HSP.out.mono ?_
            rintro e w10 ⟨rfl, hq10⟩
            obtain ⟨D, hD⟩ : ∃ D, D = (S2.go (ldV s2) (ldK s2)).d := ⟨_, rfl⟩
            rw [← hD] at hq10 ⊢
            have HQ := Lib.hid hq10
            have HD := Lib.hid hD
            clear hq10 hD HSP
            cases D with
            | false =>
              go_wp2_with fail
              have hq := HQ.out
              rw [if_neg (by decide)] at hq
              obtain ⟨y11, s11, hy11, hv11, hn11, hlb11⟩ := hq
              refine ⟨⟨j + 1, t, y11, s11, x2, n2, l2, Rr, C2, cN2, S2.go (ldV s2) (ldK s2), by omega, by go_num, by omega, hy11.trans HY2.out, hlb11.mono (by omega) (by omega), fun h0 => ?_⟩, by simp [intOf]; omega⟩
              obtain ⟨c1, c2, c3, c4⟩ := HCL.out h0
              have hgo : SS.it (ldV s7) (ldK s7) (j + 1) (SS.new 1088) = S2.go (ldV s2) (ldK s2) := by
                have := ldK_view c1 c2 S2.ask
                show (SS.it (ldV s7) (ldK s7) j (SS.new 1088)).next _ _ = _
                rw [← c3]
                show S2.next (ldV s7 S2.ask) (ldK s7 S2.ask) = S2.next (ldV s2 S2.ask) (ldK s2 S2.ask)
                rw [this.1, this.2]
              refine ⟨hv11.trans c1, hn11.trans c2, hgo.symm, fun u hu => ?_⟩
              by_cases e : u = j + 1
              · rw [e, hgo]
                exact HD.out.symm
              · exact c4 u (by omega)
            | true =>
              have hq := HQ.out
              rw [if_pos rfl] at hq
              obtain ⟨σ, hle⟩ := hq
              have HLE := Lib.hid hle
              clear hle HQ HCL
              obtain ⟨y3, s3, n3, S3, hat, h00, d1, k0, hn3, hlo3⟩ := HLE.out.at_
              obtain ⟨gV, cV, T1, hT1, hT1v, rfl⟩ : ∃ gV cV T1, T1 = t + 1 ∧ T1 ≤ 9000000 ∧ u16 = .slice (some ⟨gV, 0, none⟩) T1 cV := by
                rcases HLE.out.mo.2 with ⟨_, h0⟩ | ⟨g, cap, cur, e, _⟩
                · omega
                · exact ⟨g, cap, t + 1, rfl, by omega, e⟩
              have HT1 := Lib.hid hT1
              clear hT1
              have hone := one_off HLE.out.ok
              have HTX := Lib.hid fun W => trN_V (C2 σ) W
              have hx3 : ((C2 σ).tr ((C2 σ).len + 1) (C2 σ).len).nx = (C2 σ).nx := rfl
              obtain ⟨X3, hX3⟩ : ∃ X3, X3 = (C2 σ).tr ((C2 σ).len + 1) (C2 σ).len := ⟨_, rfl⟩
              rw [← hX3] at hn3 hone HTX hx3
              have HNO := Lib.hid (hat.nodeD h00 d1 k0 hn3)
              obtain ⟨hv, hb, hnx, hhv, hhi⟩ : ∃ hv hb, (X3.nx != 0) = hb ∧ hv = (if hb = true then low else 0) ∧ ∀ W, Below w10.heap.size w10 W → Calls Try.prog 14 #[.pointer (some ⟨gs, 0, none⟩)] W fun e w' => e = .returned (.tuple #[.int .u64 hv, .bool hb]) ∧ Below W.heap.size W w' := by
                by_cases hx0 : X3.nx = 0
                · exact ⟨0, false, by simpa using hx0, rfl, hat.high0 h00 d1 k0 hn3 (.inr hx0)⟩
                · exact ⟨low, true, by simpa using hx0, rfl, hat.high1 h00 d1 k0 hn3 hx0 (hlo3 (by rw [← hx3]; exact hx0))⟩
              have HHI := Lib.hid hhi
              have HONE := Lib.hid hone
              clear hat h00 d1 k0 hn3 hlo3 hhi hone hX3 hx3
              go_wp2_with fail
              refine (HNO.out _ (Below.refl _ _)).mono ?_
              rintro e w11 ⟨rfl, hb11⟩
              have HB11 := Lib.hid hb11
              clear hb11 HNO
              go_upto_region 26 with (first
                | ((with_reducible refine show_storeN ?_); refine wpList_store_row rfl _ _ _ rfl w11.heap.size X3.cl rfl rfl (Row.new w11 27 zeroNd.cl.toArray) rfl ndI (cl_one _) ?_; obtain ⟨W12, hW12, hn12, hb12⟩ := store_gen11 w11 X3; rw [← hW12]; have HB12 := Lib.hid (low_and HB11.out hb12); have HN12 := Lib.hid hn12; clear hW12 hn12 hb12)
                | (go_at_call 14; refine (HHI.out _ HB12.out).mono ?_; rintro e w13 ⟨rfl, hb13⟩; have HB13 := Lib.hid (low_and HB12.out hb13); have HNX := Lib.hid (HN12.out.below hb13 HN12.out.lt); clear hb13))
              obtain ⟨gx, hgx⟩ : ∃ gx, gx = w11.heap.size := ⟨_, rfl⟩
              (try rw [← hgx])
              rw [← hgx] at HNX
              have HGX := Lib.hid hgx
              clear hgx
              have HST := Lib.hid (show ∀ W, Below w13.heap.size w13 W → W.rangeAt gx 0 X3.cl from fun W hb => ndR (HNX.out.below hb HNX.out.lt))
              (try refine wp_region_noPanic ?_)
              cases hb with
              | false =>
                subst hhv
                by_cases hneg : X3.inv < 0
                · have hge : decide (0 ≤ X3.inv) = false := by rw [decide_eq_false_iff_not]; omega
                  refine wp_region_held_drew (S := fun W : World => W.rangeAt gx 0 X3.cl) (by kernel_rfl) (HST.out _ (drew_below _)) (fun hHeld => ?_)
                  refine wpAnyH_take (i := 0) (oi := ⟨some 113, _, _, _, _, _⟩) (v := .int .i64 0) rfl (by kernel_rfl) (by kernel_rfl) (by kernel_rfl) (fun _ _ _ h => h) (Or.inl ⟨by kernel_rfl, by intro WW hSw; have s0 := hSw; clear hSw; go_simp⟩) (by assumption) ?_
                  (try simp only [Act.put, List.setIfInBounds_toArray, List.set_cons_zero, List.set_cons_succ])
                  refine wpAnyH_take (i := 1) (oi := ⟨some 114, _, _, _, _, _⟩) (v := .bool false) rfl (by kernel_rfl) (by kernel_rfl) (by kernel_rfl) (fun _ _ _ h => h) (Or.inl ⟨by kernel_rfl, by intro WW hSw; have s0 := hSw; clear hSw; go_simp⟩) (by assumption) ?_
                  (try simp only [Act.put, List.setIfInBounds_toArray, List.set_cons_zero, List.set_cons_succ])
                  refine wpAnyH_take (i := 2) (oi := ⟨some 115, _, _, _, _, _⟩) (v := .bool false) rfl (by kernel_rfl) (by kernel_rfl) (by kernel_rfl) (fun _ _ _ h => h) (Or.inl ⟨by kernel_rfl, by intro WW hSw; have s0 := hSw; clear hSw; go_simp⟩) (by assumption) ?_
                  (try simp only [Act.put, List.setIfInBounds_toArray, List.set_cons_zero, List.set_cons_succ])
                  refine wpAnyH_take (i := 3) (oi := ⟨some 116, _, _, _, _, _⟩) (v := .bool false) rfl (by kernel_rfl) (by kernel_rfl) (by kernel_rfl) (fun _ _ _ h => h) (Or.inl ⟨by kernel_rfl, by intro WW hSw; have s0 := hSw; clear hSw; go_simp⟩) (by assumption) ?_
                  (try simp only [Act.put, List.setIfInBounds_toArray, List.set_cons_zero, List.set_cons_succ])
                  refine wpAnyH_take (i := 4) (oi := ⟨some 117, _, _, _, _, _⟩) (v := .pointer (some ⟨gx, 2, none⟩)) rfl (by kernel_rfl) (by kernel_rfl) (by kernel_rfl) (fun _ _ _ h => h) (Or.inl ⟨by kernel_rfl, by intro WW hSw; have s0 := hSw; clear hSw; go_simp⟩) (by assumption) ?_
                  (try simp only [Act.put, List.setIfInBounds_toArray, List.set_cons_zero, List.set_cons_succ])
                  refine wpAnyH_take (i := 5) (oi := ⟨some 118, _, _, _, _, _⟩) (v := .int .u64 X3.nx) rfl (by kernel_rfl) (by kernel_rfl) (by kernel_rfl) (fun _ _ _ h => h) (Or.inl ⟨by kernel_rfl, by intro WW hSw; have s0 := hSw 2 _ (show X3.cl[2]? = some (.int .u64 X3.nx) from rfl); clear hSw; go_simp⟩) (by assumption) ?_
                  (try simp only [Act.put, List.setIfInBounds_toArray, List.set_cons_zero, List.set_cons_succ])
                  refine wpAnyH_take (i := 6) (oi := ⟨some 119, _, _, _, _, _⟩) (v := .bool false) rfl (by kernel_rfl) (by kernel_rfl) (by kernel_rfl) (fun _ _ _ h => h) (Or.inl ⟨by kernel_rfl, by intro WW hSw; have s0 := hSw; clear hSw; go_simp⟩) (by assumption) ?_
                  (try simp only [Act.put, List.setIfInBounds_toArray, List.set_cons_zero, List.set_cons_succ])
                  refine wpAnyH_take (i := 7) (oi := ⟨some 120, _, _, _, _, _⟩) (v := .bool false) rfl (by kernel_rfl) (by kernel_rfl) (by kernel_rfl) (fun _ _ _ h => h) (Or.inl ⟨by kernel_rfl, by intro WW hSw; have s0 := hSw; clear hSw; go_simp⟩) (by assumption) ?_
                  (try simp only [Act.put, List.setIfInBounds_toArray, List.set_cons_zero, List.set_cons_succ])
                  refine wpAnyH_take (i := 8) (oi := ⟨some 121, _, _, _, _, _⟩) (v := .bool false) rfl (by kernel_rfl) (by kernel_rfl) (by kernel_rfl) (fun _ _ _ h => h) (Or.inl ⟨by kernel_rfl, by intro WW hSw; have s0 := hSw; clear hSw; go_simp⟩) (by assumption) ?_
                  (try simp only [Act.put, List.setIfInBounds_toArray, List.set_cons_zero, List.set_cons_succ])
                  refine wpAnyH_take (i := 9) (oi := ⟨some 122, _, _, _, _, _⟩) (v := .bool false) rfl (by kernel_rfl) (by kernel_rfl) (by kernel_rfl) (fun _ _ _ h => h) (Or.inl ⟨by kernel_rfl, by intro WW hSw; have s0 := hSw; clear hSw; go_simp⟩) (by assumption) ?_
                  (try simp only [Act.put, List.setIfInBounds_toArray, List.set_cons_zero, List.set_cons_succ])
                  refine wpAnyH_take (i := 10) (oi := ⟨some 123, _, _, _, _, _⟩) (v := .bool false) rfl (by kernel_rfl) (by kernel_rfl) (by kernel_rfl) (fun _ _ _ h => h) (Or.inl ⟨by kernel_rfl, by intro WW hSw; have s0 := hSw; clear hSw; go_simp⟩) (by assumption) ?_
                  (try simp only [Act.put, List.setIfInBounds_toArray, List.set_cons_zero, List.set_cons_succ])
                  refine wpAnyH_take (i := 11) (oi := ⟨some 124, _, _, _, _, _⟩) (v := .bool false) rfl (by kernel_rfl) (by kernel_rfl) (by kernel_rfl) (fun _ _ _ h => h) (Or.inl ⟨by kernel_rfl, by intro WW hSw; have s0 := hSw; clear hSw; go_simp⟩) (by assumption) ?_
                  (try simp only [Act.put, List.setIfInBounds_toArray, List.set_cons_zero, List.set_cons_succ])
                  refine wpAnyH_take (i := 12) (oi := ⟨some 125, _, _, _, _, _⟩) (v := undef) rfl (by kernel_rfl) (by kernel_rfl) (by kernel_rfl) (fun _ _ _ h => h) (Or.inr ⟨by kernel_rfl, rfl⟩) (by assumption) ?_
                  (try simp only [Act.put, List.setIfInBounds_toArray, List.set_cons_zero, List.set_cons_succ])
                  refine wpAnyH_take (i := 13) (oi := ⟨some 126, _, _, _, _, _⟩) (v := undef) rfl (by kernel_rfl) (by kernel_rfl) (by kernel_rfl) (fun _ _ _ h => h) (Or.inr ⟨by kernel_rfl, rfl⟩) (by assumption) ?_
                  (try simp only [Act.put, List.setIfInBounds_toArray, List.set_cons_zero, List.set_cons_succ])
                  refine wpAnyH_take (i := 14) (oi := ⟨some 127, _, _, _, _, _⟩) (v := undef) rfl (by kernel_rfl) (by kernel_rfl) (by kernel_rfl) (fun _ _ _ h => h) (Or.inr ⟨by kernel_rfl, rfl⟩) (by assumption) ?_
                  (try simp only [Act.put, List.setIfInBounds_toArray, List.set_cons_zero, List.set_cons_succ])
                  refine wpAnyH_take (i := 15) (oi := ⟨some 128, _, _, _, _, _⟩) (v := .bool false) rfl (by kernel_rfl) (by kernel_rfl) (by kernel_rfl) (fun _ _ _ h => h) (Or.inl ⟨by kernel_rfl, by intro WW hSw; have s0 := hSw; clear hSw; go_simp⟩) (by assumption) ?_
                  (try simp only [Act.put, List.setIfInBounds_toArray, List.set_cons_zero, List.set_cons_succ])
                  refine wpAnyH_take (i := 16) (oi := ⟨some 129, _, _, _, _, _⟩) (v := .bool false) rfl (by kernel_rfl) (by kernel_rfl) (by kernel_rfl) (fun _ _ _ h => h) (Or.inl ⟨by kernel_rfl, by intro WW hSw; have s0 := hSw; clear hSw; go_simp⟩) (by assumption) ?_
                  (try simp only [Act.put, List.setIfInBounds_toArray, List.set_cons_zero, List.set_cons_succ])
                  refine wpAnyH_take (i := 17) (oi := ⟨some 130, _, _, _, _, _⟩) (v := .bool false) rfl (by kernel_rfl) (by kernel_rfl) (by kernel_rfl) (fun _ _ _ h => h) (Or.inl ⟨by kernel_rfl, by intro WW hSw; have s0 := hSw; clear hSw; go_simp⟩) (by assumption) ?_
                  (try simp only [Act.put, List.setIfInBounds_toArray, List.set_cons_zero, List.set_cons_succ])
                  refine wpAnyH_take (i := 18) (oi := ⟨some 131, _, _, _, _, _⟩) (v := .agg X3.cl.toArray) rfl (by kernel_rfl) (by kernel_rfl) (by kernel_rfl) (fun _ _ _ h => h) (yieldsIf_load_mid (by rfl) _ _ rfl gx 0 rfl X3.cl _ (fun w h => h) Try.underlying27 rfl ndI) (by assumption) ?_
                  (try simp only [Act.put, List.setIfInBounds_toArray, List.set_cons_zero, List.set_cons_succ])
                  refine wpAnyH_one (i := 19) (oi := ⟨some 132, _, _, _, _, _⟩) rfl (by kernel_rfl) (fun K hK => ?_)
                  refine step_calls (by rfl) 15 EI.out [.tmp 131] _ rfl [.agg X3.cl.toArray] rfl (r8Inv_any X3 _) ?_
                  rintro e w15 ⟨rfl, hb15⟩
                  have HB15 := Lib.hid (Below.and (drew_below _) hb15)
                  clear hb15
                  refine ⟨_, rfl, hK _ _ (HST.out _ HB15.out) (fun hHeld => ?_)⟩
                  clear hK K
                  (try simp only [Act.put, List.setIfInBounds_toArray, List.set_cons_zero, List.set_cons_succ])
                  refine wpAnyH_take (i := 20) (oi := ⟨some 133, _, _, _, _, _⟩) (v := .bool false) rfl (by kernel_rfl) (by kernel_rfl) (by kernel_rfl) (fun _ _ _ h => h) (Or.inl ⟨by kernel_rfl, by intro WW hSw; have s0 := hSw; clear hSw; go_simp⟩) (by assumption) ?_
                  (try simp only [Act.put, List.setIfInBounds_toArray, List.set_cons_zero, List.set_cons_succ])
                  refine wpAnyH_take (i := 21) (oi := ⟨some 134, _, _, _, _, _⟩) (v := .bool false) rfl (by kernel_rfl) (by kernel_rfl) (by kernel_rfl) (fun _ _ _ h => h) (Or.inl ⟨by kernel_rfl, by intro WW hSw; have s0 := hSw; clear hSw; go_simp⟩) (by assumption) ?_
                  (try simp only [Act.put, List.setIfInBounds_toArray, List.set_cons_zero, List.set_cons_succ])
                  refine wpAnyH_take (i := 22) (oi := ⟨some 135, _, _, _, _, _⟩) (v := undef) rfl (by kernel_rfl) (by kernel_rfl) (by kernel_rfl) (fun _ _ _ h => h) (Or.inr ⟨by kernel_rfl, rfl⟩) (by assumption) ?_
                  (try simp only [Act.put, List.setIfInBounds_toArray, List.set_cons_zero, List.set_cons_succ])
                  refine wpAnyH_take (i := 24) (oi := ⟨some 137, _, _, _, _, _⟩) (v := undef) rfl (by kernel_rfl) (by kernel_rfl) (by kernel_rfl) (fun _ _ _ h => h) (Or.inr ⟨by kernel_rfl, rfl⟩) (by assumption) ?_
                  (try simp only [Act.put, List.setIfInBounds_toArray, List.set_cons_zero, List.set_cons_succ])
                  refine wpAnyH_take (i := 23) (oi := ⟨some 136, _, _, _, _, _⟩) (v := undef) rfl (by kernel_rfl) (by kernel_rfl) (by kernel_rfl) (fun _ _ _ h => h) (Or.inr ⟨by kernel_rfl, rfl⟩) (by assumption) ?_
                  (try simp only [Act.put, List.setIfInBounds_toArray, List.set_cons_zero, List.set_cons_succ])
                  refine wpAnyH_take (i := 25) (oi := ⟨some 138, _, _, _, _, _⟩) (v := undef) rfl (by kernel_rfl) (by kernel_rfl) (by kernel_rfl) (fun _ _ _ h => h) (Or.inr ⟨by kernel_rfl, rfl⟩) (by assumption) ?_
                  (try simp only [Act.put, List.setIfInBounds_toArray, List.set_cons_zero, List.set_cons_succ])
                  refine wpAnyH_take (i := 26) (oi := ⟨some 139, _, _, _, _, _⟩) (v := undef) rfl (by kernel_rfl) (by kernel_rfl) (by kernel_rfl) (fun _ _ _ h => h) (Or.inr ⟨by kernel_rfl, rfl⟩) (by assumption) ?_
                  (try simp only [Act.put, List.setIfInBounds_toArray, List.set_cons_zero, List.set_cons_succ])
                  refine wpAnyH_take (i := 27) (oi := ⟨some 140, _, _, _, _, _⟩) (v := undef) rfl (by kernel_rfl) (by kernel_rfl) (by kernel_rfl) (fun _ _ _ h => h) (Or.inr ⟨by kernel_rfl, rfl⟩) (by assumption) ?_
                  (try simp only [Act.put, List.setIfInBounds_toArray, List.set_cons_zero, List.set_cons_succ])
                  refine wpAnyH_take (i := 28) (oi := ⟨some 141, _, _, _, _, _⟩) (v := undef) rfl (by kernel_rfl) (by kernel_rfl) (by kernel_rfl) (fun _ _ _ h => h) (Or.inr ⟨by kernel_rfl, rfl⟩) (by assumption) ?_
                  (try simp only [Act.put, List.setIfInBounds_toArray, List.set_cons_zero, List.set_cons_succ])
                  refine wpAnyH_take (i := 29) (oi := ⟨some 142, _, _, _, _, _⟩) (v := .bool false) rfl (by kernel_rfl) (by kernel_rfl) (by kernel_rfl) (fun _ _ _ h => h) (Or.inl ⟨by kernel_rfl, by intro WW hSw; have s0 := hSw; clear hSw; go_simp⟩) (by assumption) ?_
                  (try simp only [Act.put, List.setIfInBounds_toArray, List.set_cons_zero, List.set_cons_succ])
                  refine wpAnyH_take (i := 30) (oi := ⟨some 143, _, _, _, _, _⟩) (v := .bool false) rfl (by kernel_rfl) (by kernel_rfl) (by kernel_rfl) (fun _ _ _ h => h) (Or.inl ⟨by kernel_rfl, by intro WW hSw; have s0 := hSw; clear hSw; go_simp⟩) (by assumption) ?_
                  (try simp only [Act.put, List.setIfInBounds_toArray, List.set_cons_zero, List.set_cons_succ])
                  refine wpAnyH_done (by kernel_rfl) ?_ _
                  clear hHeld
                  (try refine (‹∀ (a : Act) (w : World), Code.wp Try.prog _ _ a w → _›) _ _ ?_)
                  have HB18 := Lib.hid (low_and HB13.out HB15.out)
                  have HB98 := Lib.hid HB15.out
                  clear HST
                  go_wp2_with fail
                  go_loopw [24] (fun i wr3 => ∃ q : Nat, q ≤ σ ∧ i = .int .i64 (q : Int) ∧ Below w13.heap.size w13 wr3) (fun i _ => 400 - (intOf i).toNat)
                  case atStart => exact ⟨0, Nat.zero_le _, rfl, HB98.out⟩
                  case round =>
                    rename World => wr3
                    obtain ⟨q, hq, rfl, hb3⟩ := hrel
                    have hσ := HLE.out.le
                    have hT1 := HT1.out
                    have hqt : (q : Int) < (T1 : Int) := by omega
                    have hq0 : (0 : Int) ≤ (q : Int) := by omega
                    have hmo := ownS_low (ownS_low HLE.out.mo HB13.out) hb3
                    have HST3 := Lib.hid (show ∀ W, Below wr3.heap.size wr3 W → W.rangeAt gV (q * 21) (trN (C2 q)).cl ∧ W.rangeAt gx 0 X3.cl from fun W hb => by
                      refine ⟨fun j v hv => ?_, ndR ((HNX.out.below hb3 HNX.out.lt).below hb (Nat.lt_of_lt_of_le HNX.out.lt hb3.size))⟩
                      have hj : j < 21 := by
                        have := (List.getElem?_eq_some_iff.1 hv).1
                        rw [(trN (C2 q)).size] at this
                        exact this
                      have := (ownS_low hmo hb).cells rfl (21 * q + j) v (by rw [moL_at (by omega) hj]; exact hv)
                      rw [Addr.add_lit, Nat.zero_add, show 21 * q = q * 21 by omega] at this
                      exact this)
                    obtain ⟨rq, hrq, hre⟩ : ∃ r : Bool, (∀ w, (binOp .eql 27 (trN (C2 q)).V (trN (C2 σ)).V).run Try.prog w = .ok (.bool r) w) ∧ (q = σ → r = true) := by
                      by_cases e : q = σ
                      · subst e
                        exact ⟨true, fun w => eq_node _ w, fun _ => rfl⟩
                      · obtain ⟨r, h⟩ := eql_nodes (trN (C2 q)) (trN (C2 σ))
                        exact ⟨r, h, fun e2 => absurd e2 e⟩
                    obtain ⟨VQ, hVQ⟩ : ∃ VQ, VQ = (trN (C2 q)).V := ⟨_, rfl⟩
                    obtain ⟨VS, hVS⟩ : ∃ VS, VS = (trN (C2 σ)).V := ⟨_, rfl⟩
                    have HTX2 := Lib.hid (show ∀ W, Calls Try.prog 10 #[X3.V] W fun e w' => e = .returned VS ∧ Below W.heap.size W w' from by rw [hVS]; exact HTX.out)
                    rw [← hVQ, ← hVS] at hrq
                    have hge2 : ∀ (x y : Operand) (w : World), (eqGuard .eql 27 x y VQ VS).run Try.prog w = .ok () w := fun x y w => by
                      rw [hVQ, hVS]
                      unfold Nd.V
                      exact run_eqGuard_agg _ _ _ _ _ _ _ (show Try.prog.eqGuardType Try.prog.depth 27 = false from by kernel_rfl)
                    have HVQ := Lib.hid hVQ
                    have HB3' := Lib.hid hb3
                    have HRE := Lib.hid hre
                    clear hVQ hVS hmo hb3 hre
                    go_upto_region 31 with fail
                    (try refine wp_region_noPanic ?_)
                    refine wp_region_held_drew (S := fun W : World => W.rangeAt gV (q * 21) (trN (C2 q)).cl ∧ W.rangeAt gx 0 X3.cl) (by kernel_rfl) (HST3.out _ (drew_below _)) (fun hHeld => ?_)
                    refine wpAnyH_take (i := 0) (oi := ⟨some 150, _, _, _, _, _⟩) (v := .slice (some ⟨gV, 0, none⟩) T1 cV) rfl (by kernel_rfl) (by kernel_rfl) (by kernel_rfl) (fun _ _ _ h => h) (Or.inl ⟨by kernel_rfl, by intro WW hSw; go_simp⟩) (by assumption) ?_
                    (try simp only [Act.put, List.setIfInBounds_toArray, List.set_cons_zero, List.set_cons_succ])
                    refine wpAnyH_take (i := 1) (oi := ⟨some 151, _, _, _, _, _⟩) (v := .int .i64 (q : Int)) rfl (by kernel_rfl) (by kernel_rfl) (by kernel_rfl) (fun _ _ _ h => h) (Or.inl ⟨by kernel_rfl, by intro WW hSw; go_simp⟩) (by assumption) ?_
                    (try simp only [Act.put, List.setIfInBounds_toArray, List.set_cons_zero, List.set_cons_succ])
                    refine wpAnyH_take (i := 2) (oi := ⟨some 152, _, _, _, _, _⟩) (v := .pointer (some ⟨gV, q * 21, none⟩)) rfl (by kernel_rfl) (by kernel_rfl) (by kernel_rfl) (fun _ _ _ h => h) (Or.inl ⟨by kernel_rfl, by intro WW hSw; go_simp⟩) (by assumption) ?_
                    (try simp only [Act.put, List.setIfInBounds_toArray, List.set_cons_zero, List.set_cons_succ])
                    refine wpAnyH_take (i := 3) (oi := ⟨some 153, _, _, _, _, _⟩) (v := VQ) rfl (by kernel_rfl) (by kernel_rfl) (by kernel_rfl) (fun _ _ _ h => h) (by rw [HVQ.out]; exact yieldsIf_load_mid (by rfl) _ _ rfl gV (q * 21) rfl (trN (C2 q)).cl _ (fun w h => h.1) Try.underlying27 rfl ndI) (by assumption) ?_
                    (try simp only [Act.put, List.setIfInBounds_toArray, List.set_cons_zero, List.set_cons_succ])
                    refine wpAnyH_take (i := 4) (oi := ⟨some 154, _, _, _, _, _⟩) (v := .agg X3.cl.toArray) rfl (by kernel_rfl) (by kernel_rfl) (by kernel_rfl) (fun _ _ _ h => h) (yieldsIf_load_mid (by rfl) _ _ rfl gx 0 rfl X3.cl _ (fun w h => h.2) Try.underlying27 rfl ndI) (by assumption) ?_
                    (try simp only [Act.put, List.setIfInBounds_toArray, List.set_cons_zero, List.set_cons_succ])
                    refine wpAnyH_one (i := 5) (oi := ⟨some 155, _, _, _, _, _⟩) rfl (by kernel_rfl) (fun K hK => ?_)
                    refine step_calls (by rfl) 10 ET.out [.tmp 154] _ rfl [.agg X3.cl.toArray] rfl (HTX2.out _) ?_
                    rintro e w19 ⟨rfl, hb19⟩
                    have HB19 := Lib.hid (Below.and (drew_below _) hb19)
                    clear hb19
                    refine ⟨_, rfl, hK _ _ (HST3.out _ HB19.out) (fun hHeld => ?_)⟩
                    clear hK K
                    (try simp only [Act.put, List.setIfInBounds_toArray, List.set_cons_zero, List.set_cons_succ])
                    refine wpAnyH_take (i := 6) (oi := ⟨some 156, _, _, _, _, _⟩) (v := .bool rq) rfl (by kernel_rfl) (by kernel_rfl) (by kernel_rfl) (fun _ _ _ h => h) (Or.inl ⟨by kernel_rfl, by intro WW hSw; go_simp⟩) (by assumption) ?_
                    (try simp only [Act.put, List.setIfInBounds_toArray, List.set_cons_zero, List.set_cons_succ])
                    refine wpAnyH_done (by kernel_rfl) ?_ _
                    clear hHeld
                    (try refine (‹∀ (a : Act) (w : World), Code.wp Try.prog _ _ a w → _›) _ _ ?_)
                    have HB20 := Lib.hid (low_and HB3'.out HB19.out)
                    cases rq with
                    | true =>
                      go_wp2_with fail
                      refine (known11_any _).mono ?_
                      rintro e wk ⟨rfl, hbk⟩
                      have HBK := Lib.hid hbk
                      clear hbk
                      go_wp2_with fail
                      go_ret
                      exact ⟨rfl, low_and (low_and (low_and (low_and HB2.out HLE.out.lw) HB13.out) HB20.out) HBK.out⟩
                    | false =>
                      go_wp2_with fail
                      have hne : q ≠ σ := fun e => by have := HRE.out e; cases this
                      exact ⟨⟨q + 1, by omega, by go_num, HB20.out⟩, by simp [intOf]; omega⟩
                · have hge : decide (0 ≤ X3.inv) = true := by rw [decide_eq_true_eq]; omega
                  have hsub : IntKind.i64.wrap ((X3.len : Int) - (X3.es.length : Int)) = 1 := by rw [HONE.out (by omega)]; first | rfl | decide | kernel_rfl
                  refine wp_region_held_drew (S := fun W : World => W.rangeAt gx 0 X3.cl) (by kernel_rfl) (HST.out _ (drew_below _)) (fun hHeld => ?_)
                  refine wpAnyH_take (i := 0) (oi := ⟨some 113, _, _, _, _, _⟩) (v := .int .i64 0) rfl (by kernel_rfl) (by kernel_rfl) (by kernel_rfl) (fun _ _ _ h => h) (Or.inl ⟨by kernel_rfl, by intro WW hSw; have s0 := hSw; clear hSw; go_simp⟩) (by assumption) ?_
                  (try simp only [Act.put, List.setIfInBounds_toArray, List.set_cons_zero, List.set_cons_succ])
                  refine wpAnyH_take (i := 1) (oi := ⟨some 114, _, _, _, _, _⟩) (v := .bool false) rfl (by kernel_rfl) (by kernel_rfl) (by kernel_rfl) (fun _ _ _ h => h) (Or.inl ⟨by kernel_rfl, by intro WW hSw; have s0 := hSw; clear hSw; go_simp⟩) (by assumption) ?_
                  (try simp only [Act.put, List.setIfInBounds_toArray, List.set_cons_zero, List.set_cons_succ])
                  refine wpAnyH_take (i := 2) (oi := ⟨some 115, _, _, _, _, _⟩) (v := .bool false) rfl (by kernel_rfl) (by kernel_rfl) (by kernel_rfl) (fun _ _ _ h => h) (Or.inl ⟨by kernel_rfl, by intro WW hSw; have s0 := hSw; clear hSw; go_simp⟩) (by assumption) ?_
                  (try simp only [Act.put, List.setIfInBounds_toArray, List.set_cons_zero, List.set_cons_succ])
                  refine wpAnyH_take (i := 3) (oi := ⟨some 116, _, _, _, _, _⟩) (v := .bool false) rfl (by kernel_rfl) (by kernel_rfl) (by kernel_rfl) (fun _ _ _ h => h) (Or.inl ⟨by kernel_rfl, by intro WW hSw; have s0 := hSw; clear hSw; go_simp⟩) (by assumption) ?_
                  (try simp only [Act.put, List.setIfInBounds_toArray, List.set_cons_zero, List.set_cons_succ])
                  refine wpAnyH_take (i := 4) (oi := ⟨some 117, _, _, _, _, _⟩) (v := .pointer (some ⟨gx, 2, none⟩)) rfl (by kernel_rfl) (by kernel_rfl) (by kernel_rfl) (fun _ _ _ h => h) (Or.inl ⟨by kernel_rfl, by intro WW hSw; have s0 := hSw; clear hSw; go_simp⟩) (by assumption) ?_
                  (try simp only [Act.put, List.setIfInBounds_toArray, List.set_cons_zero, List.set_cons_succ])
                  refine wpAnyH_take (i := 5) (oi := ⟨some 118, _, _, _, _, _⟩) (v := .int .u64 X3.nx) rfl (by kernel_rfl) (by kernel_rfl) (by kernel_rfl) (fun _ _ _ h => h) (Or.inl ⟨by kernel_rfl, by intro WW hSw; have s0 := hSw 2 _ (show X3.cl[2]? = some (.int .u64 X3.nx) from rfl); clear hSw; go_simp⟩) (by assumption) ?_
                  (try simp only [Act.put, List.setIfInBounds_toArray, List.set_cons_zero, List.set_cons_succ])
                  refine wpAnyH_take (i := 6) (oi := ⟨some 119, _, _, _, _, _⟩) (v := .bool false) rfl (by kernel_rfl) (by kernel_rfl) (by kernel_rfl) (fun _ _ _ h => h) (Or.inl ⟨by kernel_rfl, by intro WW hSw; have s0 := hSw; clear hSw; go_simp⟩) (by assumption) ?_
                  (try simp only [Act.put, List.setIfInBounds_toArray, List.set_cons_zero, List.set_cons_succ])
                  refine wpAnyH_take (i := 7) (oi := ⟨some 120, _, _, _, _, _⟩) (v := .bool false) rfl (by kernel_rfl) (by kernel_rfl) (by kernel_rfl) (fun _ _ _ h => h) (Or.inl ⟨by kernel_rfl, by intro WW hSw; have s0 := hSw; clear hSw; go_simp⟩) (by assumption) ?_
                  (try simp only [Act.put, List.setIfInBounds_toArray, List.set_cons_zero, List.set_cons_succ])
                  refine wpAnyH_take (i := 8) (oi := ⟨some 121, _, _, _, _, _⟩) (v := .bool false) rfl (by kernel_rfl) (by kernel_rfl) (by kernel_rfl) (fun _ _ _ h => h) (Or.inl ⟨by kernel_rfl, by intro WW hSw; have s0 := hSw; clear hSw; go_simp⟩) (by assumption) ?_
                  (try simp only [Act.put, List.setIfInBounds_toArray, List.set_cons_zero, List.set_cons_succ])
                  refine wpAnyH_take (i := 9) (oi := ⟨some 122, _, _, _, _, _⟩) (v := .bool false) rfl (by kernel_rfl) (by kernel_rfl) (by kernel_rfl) (fun _ _ _ h => h) (Or.inl ⟨by kernel_rfl, by intro WW hSw; have s0 := hSw; clear hSw; go_simp⟩) (by assumption) ?_
                  (try simp only [Act.put, List.setIfInBounds_toArray, List.set_cons_zero, List.set_cons_succ])
                  refine wpAnyH_take (i := 10) (oi := ⟨some 123, _, _, _, _, _⟩) (v := .bool false) rfl (by kernel_rfl) (by kernel_rfl) (by kernel_rfl) (fun _ _ _ h => h) (Or.inl ⟨by kernel_rfl, by intro WW hSw; have s0 := hSw; clear hSw; go_simp⟩) (by assumption) ?_
                  (try simp only [Act.put, List.setIfInBounds_toArray, List.set_cons_zero, List.set_cons_succ])
                  refine wpAnyH_take (i := 11) (oi := ⟨some 124, _, _, _, _, _⟩) (v := .bool false) rfl (by kernel_rfl) (by kernel_rfl) (by kernel_rfl) (fun _ _ _ h => h) (Or.inl ⟨by kernel_rfl, by intro WW hSw; have s0 := hSw; clear hSw; go_simp⟩) (by assumption) ?_
                  (try simp only [Act.put, List.setIfInBounds_toArray, List.set_cons_zero, List.set_cons_succ])
                  refine wpAnyH_take (i := 12) (oi := ⟨some 125, _, _, _, _, _⟩) (v := undef) rfl (by kernel_rfl) (by kernel_rfl) (by kernel_rfl) (fun _ _ _ h => h) (Or.inr ⟨by kernel_rfl, rfl⟩) (by assumption) ?_
                  (try simp only [Act.put, List.setIfInBounds_toArray, List.set_cons_zero, List.set_cons_succ])
                  refine wpAnyH_take (i := 13) (oi := ⟨some 126, _, _, _, _, _⟩) (v := undef) rfl (by kernel_rfl) (by kernel_rfl) (by kernel_rfl) (fun _ _ _ h => h) (Or.inr ⟨by kernel_rfl, rfl⟩) (by assumption) ?_
                  (try simp only [Act.put, List.setIfInBounds_toArray, List.set_cons_zero, List.set_cons_succ])
                  refine wpAnyH_take (i := 14) (oi := ⟨some 127, _, _, _, _, _⟩) (v := undef) rfl (by kernel_rfl) (by kernel_rfl) (by kernel_rfl) (fun _ _ _ h => h) (Or.inr ⟨by kernel_rfl, rfl⟩) (by assumption) ?_
                  (try simp only [Act.put, List.setIfInBounds_toArray, List.set_cons_zero, List.set_cons_succ])
                  refine wpAnyH_take (i := 15) (oi := ⟨some 128, _, _, _, _, _⟩) (v := .bool false) rfl (by kernel_rfl) (by kernel_rfl) (by kernel_rfl) (fun _ _ _ h => h) (Or.inl ⟨by kernel_rfl, by intro WW hSw; have s0 := hSw; clear hSw; go_simp⟩) (by assumption) ?_
                  (try simp only [Act.put, List.setIfInBounds_toArray, List.set_cons_zero, List.set_cons_succ])
                  refine wpAnyH_take (i := 16) (oi := ⟨some 129, _, _, _, _, _⟩) (v := .bool false) rfl (by kernel_rfl) (by kernel_rfl) (by kernel_rfl) (fun _ _ _ h => h) (Or.inl ⟨by kernel_rfl, by intro WW hSw; have s0 := hSw; clear hSw; go_simp⟩) (by assumption) ?_
                  (try simp only [Act.put, List.setIfInBounds_toArray, List.set_cons_zero, List.set_cons_succ])
                  refine wpAnyH_take (i := 17) (oi := ⟨some 130, _, _, _, _, _⟩) (v := .bool false) rfl (by kernel_rfl) (by kernel_rfl) (by kernel_rfl) (fun _ _ _ h => h) (Or.inl ⟨by kernel_rfl, by intro WW hSw; have s0 := hSw; clear hSw; go_simp⟩) (by assumption) ?_
                  (try simp only [Act.put, List.setIfInBounds_toArray, List.set_cons_zero, List.set_cons_succ])
                  refine wpAnyH_take (i := 18) (oi := ⟨some 131, _, _, _, _, _⟩) (v := .agg X3.cl.toArray) rfl (by kernel_rfl) (by kernel_rfl) (by kernel_rfl) (fun _ _ _ h => h) (yieldsIf_load_mid (by rfl) _ _ rfl gx 0 rfl X3.cl _ (fun w h => h) Try.underlying27 rfl ndI) (by assumption) ?_
                  (try simp only [Act.put, List.setIfInBounds_toArray, List.set_cons_zero, List.set_cons_succ])
                  refine wpAnyH_one (i := 19) (oi := ⟨some 132, _, _, _, _, _⟩) rfl (by kernel_rfl) (fun K hK => ?_)
                  refine step_calls (by rfl) 15 EI.out [.tmp 131] _ rfl [.agg X3.cl.toArray] rfl (r8Inv_any X3 _) ?_
                  rintro e w15 ⟨rfl, hb15⟩
                  have HB15 := Lib.hid (Below.and (drew_below _) hb15)
                  clear hb15
                  refine ⟨_, rfl, hK _ _ (HST.out _ HB15.out) (fun hHeld => ?_)⟩
                  clear hK K
                  (try simp only [Act.put, List.setIfInBounds_toArray, List.set_cons_zero, List.set_cons_succ])
                  refine wpAnyH_take (i := 20) (oi := ⟨some 133, _, _, _, _, _⟩) (v := .bool true) rfl (by kernel_rfl) (by kernel_rfl) (by kernel_rfl) (fun _ _ _ h => h) (Or.inl ⟨by kernel_rfl, by intro WW hSw; have s0 := hSw; clear hSw; go_simp⟩) (by assumption) ?_
                  (try simp only [Act.put, List.setIfInBounds_toArray, List.set_cons_zero, List.set_cons_succ])
                  refine wpAnyH_take (i := 21) (oi := ⟨some 134, _, _, _, _, _⟩) (v := .bool true) rfl (by kernel_rfl) (by kernel_rfl) (by kernel_rfl) (fun _ _ _ h => h) (Or.inl ⟨by kernel_rfl, by intro WW hSw; have s0 := hSw; clear hSw; go_simp⟩) (by assumption) ?_
                  (try simp only [Act.put, List.setIfInBounds_toArray, List.set_cons_zero, List.set_cons_succ])
                  refine wpAnyH_take (i := 22) (oi := ⟨some 135, _, _, _, _, _⟩) (v := .agg X3.cl.toArray) rfl (by kernel_rfl) (by kernel_rfl) (by kernel_rfl) (fun _ _ _ h => h) (yieldsIf_load_mid (by rfl) _ _ rfl gx 0 rfl X3.cl _ (fun w h => h) Try.underlying27 rfl ndI) (by assumption) ?_
                  (try simp only [Act.put, List.setIfInBounds_toArray, List.set_cons_zero, List.set_cons_succ])
                  refine wpAnyH_take (i := 24) (oi := ⟨some 137, _, _, _, _, _⟩) (v := .agg X3.cl.toArray) rfl (by kernel_rfl) (by kernel_rfl) (by kernel_rfl) (fun _ _ _ h => h) (yieldsIf_load_mid (by rfl) _ _ rfl gx 0 rfl X3.cl _ (fun w h => h) Try.underlying27 rfl ndI) (by assumption) ?_
                  (try simp only [Act.put, List.setIfInBounds_toArray, List.set_cons_zero, List.set_cons_succ])
                  refine wpAnyH_one (i := 23) (oi := ⟨some 136, _, _, _, _, _⟩) rfl (by kernel_rfl) (fun K hK => ?_)
                  refine step_calls (by rfl) 16 EL.out [.tmp 135] _ rfl [.agg X3.cl.toArray] rfl (r8Len_any X3 _) ?_
                  rintro e w16 ⟨rfl, hb16⟩
                  have HB16 := Lib.hid (Below.and HB15.out hb16)
                  clear hb16
                  refine ⟨_, rfl, hK _ _ (HST.out _ HB16.out) (fun hHeld => ?_)⟩
                  clear hK K
                  (try simp only [Act.put, List.setIfInBounds_toArray, List.set_cons_zero, List.set_cons_succ])
                  refine wpAnyH_one (i := 25) (oi := ⟨some 138, _, _, _, _, _⟩) rfl (by kernel_rfl) (fun K hK => ?_)
                  refine step_calls (by rfl) 17 EV.out [.tmp 137] _ rfl [.agg X3.cl.toArray] rfl (r8Valid_any X3 _) ?_
                  rintro e w17 ⟨⟨v17, rfl, ho17⟩, hb17⟩
                  have HB17 := Lib.hid (Below.and HB16.out hb17)
                  obtain ⟨A17, c17, rfl⟩ := own6_sl ho17
                  clear hb17 ho17
                  refine ⟨_, rfl, hK _ _ (HST.out _ HB17.out) (fun hHeld => ?_)⟩
                  clear hK K
                  (try simp only [Act.put, List.setIfInBounds_toArray, List.set_cons_zero, List.set_cons_succ])
                  refine wpAnyH_take (i := 26) (oi := ⟨some 139, _, _, _, _, _⟩) (v := .int .i64 (X3.es.length : Int)) rfl (by kernel_rfl) (by kernel_rfl) (by kernel_rfl) (fun _ _ _ h => h) (Or.inl ⟨by kernel_rfl, by intro WW hSw; have s0 := hSw; clear hSw; go_simp⟩) (by assumption) ?_
                  (try simp only [Act.put, List.setIfInBounds_toArray, List.set_cons_zero, List.set_cons_succ])
                  refine wpAnyH_take (i := 27) (oi := ⟨some 140, _, _, _, _, _⟩) (v := .int .i64 1) rfl (by kernel_rfl) (by kernel_rfl) (by kernel_rfl) (fun _ _ _ h => h) (Or.inl ⟨by kernel_rfl, by intro WW hSw; have s0 := hSw; clear hSw; go_simp⟩) (by assumption) ?_
                  (try simp only [Act.put, List.setIfInBounds_toArray, List.set_cons_zero, List.set_cons_succ])
                  refine wpAnyH_take (i := 28) (oi := ⟨some 141, _, _, _, _, _⟩) (v := .bool false) rfl (by kernel_rfl) (by kernel_rfl) (by kernel_rfl) (fun _ _ _ h => h) (Or.inl ⟨by kernel_rfl, by intro WW hSw; have s0 := hSw; clear hSw; go_simp⟩) (by assumption) ?_
                  (try simp only [Act.put, List.setIfInBounds_toArray, List.set_cons_zero, List.set_cons_succ])
                  refine wpAnyH_take (i := 29) (oi := ⟨some 142, _, _, _, _, _⟩) (v := .bool false) rfl (by kernel_rfl) (by kernel_rfl) (by kernel_rfl) (fun _ _ _ h => h) (Or.inl ⟨by kernel_rfl, by intro WW hSw; have s0 := hSw; clear hSw; go_simp⟩) (by assumption) ?_
                  (try simp only [Act.put, List.setIfInBounds_toArray, List.set_cons_zero, List.set_cons_succ])
                  refine wpAnyH_take (i := 30) (oi := ⟨some 143, _, _, _, _, _⟩) (v := .bool false) rfl (by kernel_rfl) (by kernel_rfl) (by kernel_rfl) (fun _ _ _ h => h) (Or.inl ⟨by kernel_rfl, by intro WW hSw; have s0 := hSw; clear hSw; go_simp⟩) (by assumption) ?_
                  (try simp only [Act.put, List.setIfInBounds_toArray, List.set_cons_zero, List.set_cons_succ])
                  refine wpAnyH_done (by kernel_rfl) ?_ _
                  clear hHeld
                  (try refine (‹∀ (a : Act) (w : World), Code.wp Try.prog _ _ a w → _›) _ _ ?_)
                  have HB18 := Lib.hid (low_and HB13.out HB17.out)
                  have HB98 := Lib.hid HB17.out
                  clear HST
                  go_wp2_with fail
                  go_loopw [24] (fun i wr3 => ∃ q : Nat, q ≤ σ ∧ i = .int .i64 (q : Int) ∧ Below w13.heap.size w13 wr3) (fun i _ => 400 - (intOf i).toNat)
                  case atStart => exact ⟨0, Nat.zero_le _, rfl, HB98.out⟩
                  case round =>
                    rename World => wr3
                    obtain ⟨q, hq, rfl, hb3⟩ := hrel
                    have hσ := HLE.out.le
                    have hT1 := HT1.out
                    have hqt : (q : Int) < (T1 : Int) := by omega
                    have hq0 : (0 : Int) ≤ (q : Int) := by omega
                    have hmo := ownS_low (ownS_low HLE.out.mo HB13.out) hb3
                    have HST3 := Lib.hid (show ∀ W, Below wr3.heap.size wr3 W → W.rangeAt gV (q * 21) (trN (C2 q)).cl ∧ W.rangeAt gx 0 X3.cl from fun W hb => by
                      refine ⟨fun j v hv => ?_, ndR ((HNX.out.below hb3 HNX.out.lt).below hb (Nat.lt_of_lt_of_le HNX.out.lt hb3.size))⟩
                      have hj : j < 21 := by
                        have := (List.getElem?_eq_some_iff.1 hv).1
                        rw [(trN (C2 q)).size] at this
                        exact this
                      have := (ownS_low hmo hb).cells rfl (21 * q + j) v (by rw [moL_at (by omega) hj]; exact hv)
                      rw [Addr.add_lit, Nat.zero_add, show 21 * q = q * 21 by omega] at this
                      exact this)
                    obtain ⟨rq, hrq, hre⟩ : ∃ r : Bool, (∀ w, (binOp .eql 27 (trN (C2 q)).V (trN (C2 σ)).V).run Try.prog w = .ok (.bool r) w) ∧ (q = σ → r = true) := by
                      by_cases e : q = σ
                      · subst e
                        exact ⟨true, fun w => eq_node _ w, fun _ => rfl⟩
                      · obtain ⟨r, h⟩ := eql_nodes (trN (C2 q)) (trN (C2 σ))
                        exact ⟨r, h, fun e2 => absurd e2 e⟩
                    obtain ⟨VQ, hVQ⟩ : ∃ VQ, VQ = (trN (C2 q)).V := ⟨_, rfl⟩
                    obtain ⟨VS, hVS⟩ : ∃ VS, VS = (trN (C2 σ)).V := ⟨_, rfl⟩
                    have HTX2 := Lib.hid (show ∀ W, Calls Try.prog 10 #[X3.V] W fun e w' => e = .returned VS ∧ Below W.heap.size W w' from by rw [hVS]; exact HTX.out)
                    rw [← hVQ, ← hVS] at hrq
                    have hge2 : ∀ (x y : Operand) (w : World), (eqGuard .eql 27 x y VQ VS).run Try.prog w = .ok () w := fun x y w => by
                      rw [hVQ, hVS]
                      unfold Nd.V
                      exact run_eqGuard_agg _ _ _ _ _ _ _ (show Try.prog.eqGuardType Try.prog.depth 27 = false from by kernel_rfl)
                    have HVQ := Lib.hid hVQ
                    have HB3' := Lib.hid hb3
                    have HRE := Lib.hid hre
                    clear hVQ hVS hmo hb3 hre
                    go_upto_region 31 with fail
                    (try refine wp_region_noPanic ?_)
                    refine wp_region_held_drew (S := fun W : World => W.rangeAt gV (q * 21) (trN (C2 q)).cl ∧ W.rangeAt gx 0 X3.cl) (by kernel_rfl) (HST3.out _ (drew_below _)) (fun hHeld => ?_)
                    refine wpAnyH_take (i := 0) (oi := ⟨some 150, _, _, _, _, _⟩) (v := .slice (some ⟨gV, 0, none⟩) T1 cV) rfl (by kernel_rfl) (by kernel_rfl) (by kernel_rfl) (fun _ _ _ h => h) (Or.inl ⟨by kernel_rfl, by intro WW hSw; go_simp⟩) (by assumption) ?_
                    (try simp only [Act.put, List.setIfInBounds_toArray, List.set_cons_zero, List.set_cons_succ])
                    refine wpAnyH_take (i := 1) (oi := ⟨some 151, _, _, _, _, _⟩) (v := .int .i64 (q : Int)) rfl (by kernel_rfl) (by kernel_rfl) (by kernel_rfl) (fun _ _ _ h => h) (Or.inl ⟨by kernel_rfl, by intro WW hSw; go_simp⟩) (by assumption) ?_
                    (try simp only [Act.put, List.setIfInBounds_toArray, List.set_cons_zero, List.set_cons_succ])
                    refine wpAnyH_take (i := 2) (oi := ⟨some 152, _, _, _, _, _⟩) (v := .pointer (some ⟨gV, q * 21, none⟩)) rfl (by kernel_rfl) (by kernel_rfl) (by kernel_rfl) (fun _ _ _ h => h) (Or.inl ⟨by kernel_rfl, by intro WW hSw; go_simp⟩) (by assumption) ?_
                    (try simp only [Act.put, List.setIfInBounds_toArray, List.set_cons_zero, List.set_cons_succ])
                    refine wpAnyH_take (i := 3) (oi := ⟨some 153, _, _, _, _, _⟩) (v := VQ) rfl (by kernel_rfl) (by kernel_rfl) (by kernel_rfl) (fun _ _ _ h => h) (by rw [HVQ.out]; exact yieldsIf_load_mid (by rfl) _ _ rfl gV (q * 21) rfl (trN (C2 q)).cl _ (fun w h => h.1) Try.underlying27 rfl ndI) (by assumption) ?_
                    (try simp only [Act.put, List.setIfInBounds_toArray, List.set_cons_zero, List.set_cons_succ])
                    refine wpAnyH_take (i := 4) (oi := ⟨some 154, _, _, _, _, _⟩) (v := .agg X3.cl.toArray) rfl (by kernel_rfl) (by kernel_rfl) (by kernel_rfl) (fun _ _ _ h => h) (yieldsIf_load_mid (by rfl) _ _ rfl gx 0 rfl X3.cl _ (fun w h => h.2) Try.underlying27 rfl ndI) (by assumption) ?_
                    (try simp only [Act.put, List.setIfInBounds_toArray, List.set_cons_zero, List.set_cons_succ])
                    refine wpAnyH_one (i := 5) (oi := ⟨some 155, _, _, _, _, _⟩) rfl (by kernel_rfl) (fun K hK => ?_)
                    refine step_calls (by rfl) 10 ET.out [.tmp 154] _ rfl [.agg X3.cl.toArray] rfl (HTX2.out _) ?_
                    rintro e w19 ⟨rfl, hb19⟩
                    have HB19 := Lib.hid (Below.and (drew_below _) hb19)
                    clear hb19
                    refine ⟨_, rfl, hK _ _ (HST3.out _ HB19.out) (fun hHeld => ?_)⟩
                    clear hK K
                    (try simp only [Act.put, List.setIfInBounds_toArray, List.set_cons_zero, List.set_cons_succ])
                    refine wpAnyH_take (i := 6) (oi := ⟨some 156, _, _, _, _, _⟩) (v := .bool rq) rfl (by kernel_rfl) (by kernel_rfl) (by kernel_rfl) (fun _ _ _ h => h) (Or.inl ⟨by kernel_rfl, by intro WW hSw; go_simp⟩) (by assumption) ?_
                    (try simp only [Act.put, List.setIfInBounds_toArray, List.set_cons_zero, List.set_cons_succ])
                    refine wpAnyH_done (by kernel_rfl) ?_ _
                    clear hHeld
                    (try refine (‹∀ (a : Act) (w : World), Code.wp Try.prog _ _ a w → _›) _ _ ?_)
                    have HB20 := Lib.hid (low_and HB3'.out HB19.out)
                    cases rq with
                    | true =>
                      go_wp2_with fail
                      refine (known11_any _).mono ?_
                      rintro e wk ⟨rfl, hbk⟩
                      have HBK := Lib.hid hbk
                      clear hbk
                      go_wp2_with fail
                      go_ret
                      exact ⟨rfl, low_and (low_and (low_and (low_and HB2.out HLE.out.lw) HB13.out) HB20.out) HBK.out⟩
                    | false =>
                      go_wp2_with fail
                      have hne : q ≠ σ := fun e => by have := HRE.out e; cases this
                      exact ⟨⟨q + 1, by omega, by go_num, HB20.out⟩, by simp [intOf]; omega⟩
              | true =>
                rw [if_pos rfl] at hhv
                subst hv
                by_cases hneg : X3.inv < 0
                · have hge : decide (0 ≤ X3.inv) = false := by rw [decide_eq_false_iff_not]; omega
                  refine wp_region_held_drew (S := fun W : World => W.rangeAt gx 0 X3.cl) (by kernel_rfl) (HST.out _ (drew_below _)) (fun hHeld => ?_)
                  refine wpAnyH_take (i := 0) (oi := ⟨some 113, _, _, _, _, _⟩) (v := .int .i64 0) rfl (by kernel_rfl) (by kernel_rfl) (by kernel_rfl) (fun _ _ _ h => h) (Or.inl ⟨by kernel_rfl, by intro WW hSw; have s0 := hSw; clear hSw; go_simp⟩) (by assumption) ?_
                  (try simp only [Act.put, List.setIfInBounds_toArray, List.set_cons_zero, List.set_cons_succ])
                  refine wpAnyH_take (i := 1) (oi := ⟨some 114, _, _, _, _, _⟩) (v := .bool false) rfl (by kernel_rfl) (by kernel_rfl) (by kernel_rfl) (fun _ _ _ h => h) (Or.inl ⟨by kernel_rfl, by intro WW hSw; have s0 := hSw; clear hSw; go_simp⟩) (by assumption) ?_
                  (try simp only [Act.put, List.setIfInBounds_toArray, List.set_cons_zero, List.set_cons_succ])
                  refine wpAnyH_take (i := 2) (oi := ⟨some 115, _, _, _, _, _⟩) (v := .bool false) rfl (by kernel_rfl) (by kernel_rfl) (by kernel_rfl) (fun _ _ _ h => h) (Or.inl ⟨by kernel_rfl, by intro WW hSw; have s0 := hSw; clear hSw; go_simp⟩) (by assumption) ?_
                  (try simp only [Act.put, List.setIfInBounds_toArray, List.set_cons_zero, List.set_cons_succ])
                  refine wpAnyH_take (i := 3) (oi := ⟨some 116, _, _, _, _, _⟩) (v := .bool true) rfl (by kernel_rfl) (by kernel_rfl) (by kernel_rfl) (fun _ _ _ h => h) (Or.inl ⟨by kernel_rfl, by intro WW hSw; have s0 := hSw; clear hSw; go_simp⟩) (by assumption) ?_
                  (try simp only [Act.put, List.setIfInBounds_toArray, List.set_cons_zero, List.set_cons_succ])
                  refine wpAnyH_take (i := 4) (oi := ⟨some 117, _, _, _, _, _⟩) (v := .pointer (some ⟨gx, 2, none⟩)) rfl (by kernel_rfl) (by kernel_rfl) (by kernel_rfl) (fun _ _ _ h => h) (Or.inl ⟨by kernel_rfl, by intro WW hSw; have s0 := hSw; clear hSw; go_simp⟩) (by assumption) ?_
                  (try simp only [Act.put, List.setIfInBounds_toArray, List.set_cons_zero, List.set_cons_succ])
                  refine wpAnyH_take (i := 5) (oi := ⟨some 118, _, _, _, _, _⟩) (v := .int .u64 X3.nx) rfl (by kernel_rfl) (by kernel_rfl) (by kernel_rfl) (fun _ _ _ h => h) (Or.inl ⟨by kernel_rfl, by intro WW hSw; have s0 := hSw 2 _ (show X3.cl[2]? = some (.int .u64 X3.nx) from rfl); clear hSw; go_simp⟩) (by assumption) ?_
                  (try simp only [Act.put, List.setIfInBounds_toArray, List.set_cons_zero, List.set_cons_succ])
                  refine wpAnyH_take (i := 6) (oi := ⟨some 119, _, _, _, _, _⟩) (v := .bool true) rfl (by kernel_rfl) (by kernel_rfl) (by kernel_rfl) (fun _ _ _ h => h) (Or.inl ⟨by kernel_rfl, by intro WW hSw; have s0 := hSw; clear hSw; go_simp⟩) (by assumption) ?_
                  (try simp only [Act.put, List.setIfInBounds_toArray, List.set_cons_zero, List.set_cons_succ])
                  refine wpAnyH_take (i := 7) (oi := ⟨some 120, _, _, _, _, _⟩) (v := .bool false) rfl (by kernel_rfl) (by kernel_rfl) (by kernel_rfl) (fun _ _ _ h => h) (Or.inl ⟨by kernel_rfl, by intro WW hSw; have s0 := hSw; clear hSw; go_simp⟩) (by assumption) ?_
                  (try simp only [Act.put, List.setIfInBounds_toArray, List.set_cons_zero, List.set_cons_succ])
                  refine wpAnyH_take (i := 8) (oi := ⟨some 121, _, _, _, _, _⟩) (v := .bool false) rfl (by kernel_rfl) (by kernel_rfl) (by kernel_rfl) (fun _ _ _ h => h) (Or.inl ⟨by kernel_rfl, by intro WW hSw; have s0 := hSw; clear hSw; go_simp⟩) (by assumption) ?_
                  (try simp only [Act.put, List.setIfInBounds_toArray, List.set_cons_zero, List.set_cons_succ])
                  refine wpAnyH_take (i := 9) (oi := ⟨some 122, _, _, _, _, _⟩) (v := .bool false) rfl (by kernel_rfl) (by kernel_rfl) (by kernel_rfl) (fun _ _ _ h => h) (Or.inl ⟨by kernel_rfl, by intro WW hSw; have s0 := hSw; clear hSw; go_simp⟩) (by assumption) ?_
                  (try simp only [Act.put, List.setIfInBounds_toArray, List.set_cons_zero, List.set_cons_succ])
                  refine wpAnyH_take (i := 10) (oi := ⟨some 123, _, _, _, _, _⟩) (v := .bool true) rfl (by kernel_rfl) (by kernel_rfl) (by kernel_rfl) (fun _ _ _ h => h) (Or.inl ⟨by kernel_rfl, by intro WW hSw; have s0 := hSw; clear hSw; go_simp⟩) (by assumption) ?_
                  (try simp only [Act.put, List.setIfInBounds_toArray, List.set_cons_zero, List.set_cons_succ])
                  refine wpAnyH_take (i := 11) (oi := ⟨some 124, _, _, _, _, _⟩) (v := .bool true) rfl (by kernel_rfl) (by kernel_rfl) (by kernel_rfl) (fun _ _ _ h => h) (Or.inl ⟨by kernel_rfl, by intro WW hSw; have s0 := hSw; clear hSw; go_simp⟩) (by assumption) ?_
                  (try simp only [Act.put, List.setIfInBounds_toArray, List.set_cons_zero, List.set_cons_succ])
                  refine wpAnyH_take (i := 12) (oi := ⟨some 125, _, _, _, _, _⟩) (v := .int .u64 low) rfl (by kernel_rfl) (by kernel_rfl) (by kernel_rfl) (fun _ _ _ h => h) (Or.inl ⟨by kernel_rfl, by intro WW hSw; have s0 := hSw; clear hSw; go_simp⟩) (by assumption) ?_
                  (try simp only [Act.put, List.setIfInBounds_toArray, List.set_cons_zero, List.set_cons_succ])
                  refine wpAnyH_take (i := 13) (oi := ⟨some 126, _, _, _, _, _⟩) (v := .int .u64 low) rfl (by kernel_rfl) (by kernel_rfl) (by kernel_rfl) (fun _ _ _ h => h) (Or.inl ⟨by kernel_rfl, by intro WW hSw; have s0 := hSw; clear hSw; go_simp⟩) (by assumption) ?_
                  (try simp only [Act.put, List.setIfInBounds_toArray, List.set_cons_zero, List.set_cons_succ])
                  refine wpAnyH_take (i := 14) (oi := ⟨some 127, _, _, _, _, _⟩) (v := .bool false) rfl (by kernel_rfl) (by kernel_rfl) (by kernel_rfl) (fun _ _ _ h => h) (Or.inl ⟨by kernel_rfl, by intro WW hSw; have s0 := hSw; clear hSw; go_simp⟩) (by assumption) ?_
                  (try simp only [Act.put, List.setIfInBounds_toArray, List.set_cons_zero, List.set_cons_succ])
                  refine wpAnyH_take (i := 15) (oi := ⟨some 128, _, _, _, _, _⟩) (v := .bool false) rfl (by kernel_rfl) (by kernel_rfl) (by kernel_rfl) (fun _ _ _ h => h) (Or.inl ⟨by kernel_rfl, by intro WW hSw; have s0 := hSw; clear hSw; go_simp⟩) (by assumption) ?_
                  (try simp only [Act.put, List.setIfInBounds_toArray, List.set_cons_zero, List.set_cons_succ])
                  refine wpAnyH_take (i := 16) (oi := ⟨some 129, _, _, _, _, _⟩) (v := .bool false) rfl (by kernel_rfl) (by kernel_rfl) (by kernel_rfl) (fun _ _ _ h => h) (Or.inl ⟨by kernel_rfl, by intro WW hSw; have s0 := hSw; clear hSw; go_simp⟩) (by assumption) ?_
                  (try simp only [Act.put, List.setIfInBounds_toArray, List.set_cons_zero, List.set_cons_succ])
                  refine wpAnyH_take (i := 17) (oi := ⟨some 130, _, _, _, _, _⟩) (v := .bool false) rfl (by kernel_rfl) (by kernel_rfl) (by kernel_rfl) (fun _ _ _ h => h) (Or.inl ⟨by kernel_rfl, by intro WW hSw; have s0 := hSw; clear hSw; go_simp⟩) (by assumption) ?_
                  (try simp only [Act.put, List.setIfInBounds_toArray, List.set_cons_zero, List.set_cons_succ])
                  refine wpAnyH_take (i := 18) (oi := ⟨some 131, _, _, _, _, _⟩) (v := .agg X3.cl.toArray) rfl (by kernel_rfl) (by kernel_rfl) (by kernel_rfl) (fun _ _ _ h => h) (yieldsIf_load_mid (by rfl) _ _ rfl gx 0 rfl X3.cl _ (fun w h => h) Try.underlying27 rfl ndI) (by assumption) ?_
                  (try simp only [Act.put, List.setIfInBounds_toArray, List.set_cons_zero, List.set_cons_succ])
                  refine wpAnyH_one (i := 19) (oi := ⟨some 132, _, _, _, _, _⟩) rfl (by kernel_rfl) (fun K hK => ?_)
                  refine step_calls (by rfl) 15 EI.out [.tmp 131] _ rfl [.agg X3.cl.toArray] rfl (r8Inv_any X3 _) ?_
                  rintro e w15 ⟨rfl, hb15⟩
                  have HB15 := Lib.hid (Below.and (drew_below _) hb15)
                  clear hb15
                  refine ⟨_, rfl, hK _ _ (HST.out _ HB15.out) (fun hHeld => ?_)⟩
                  clear hK K
                  (try simp only [Act.put, List.setIfInBounds_toArray, List.set_cons_zero, List.set_cons_succ])
                  refine wpAnyH_take (i := 20) (oi := ⟨some 133, _, _, _, _, _⟩) (v := .bool false) rfl (by kernel_rfl) (by kernel_rfl) (by kernel_rfl) (fun _ _ _ h => h) (Or.inl ⟨by kernel_rfl, by intro WW hSw; have s0 := hSw; clear hSw; go_simp⟩) (by assumption) ?_
                  (try simp only [Act.put, List.setIfInBounds_toArray, List.set_cons_zero, List.set_cons_succ])
                  refine wpAnyH_take (i := 21) (oi := ⟨some 134, _, _, _, _, _⟩) (v := .bool false) rfl (by kernel_rfl) (by kernel_rfl) (by kernel_rfl) (fun _ _ _ h => h) (Or.inl ⟨by kernel_rfl, by intro WW hSw; have s0 := hSw; clear hSw; go_simp⟩) (by assumption) ?_
                  (try simp only [Act.put, List.setIfInBounds_toArray, List.set_cons_zero, List.set_cons_succ])
                  refine wpAnyH_take (i := 22) (oi := ⟨some 135, _, _, _, _, _⟩) (v := undef) rfl (by kernel_rfl) (by kernel_rfl) (by kernel_rfl) (fun _ _ _ h => h) (Or.inr ⟨by kernel_rfl, rfl⟩) (by assumption) ?_
                  (try simp only [Act.put, List.setIfInBounds_toArray, List.set_cons_zero, List.set_cons_succ])
                  refine wpAnyH_take (i := 24) (oi := ⟨some 137, _, _, _, _, _⟩) (v := undef) rfl (by kernel_rfl) (by kernel_rfl) (by kernel_rfl) (fun _ _ _ h => h) (Or.inr ⟨by kernel_rfl, rfl⟩) (by assumption) ?_
                  (try simp only [Act.put, List.setIfInBounds_toArray, List.set_cons_zero, List.set_cons_succ])
                  refine wpAnyH_take (i := 23) (oi := ⟨some 136, _, _, _, _, _⟩) (v := undef) rfl (by kernel_rfl) (by kernel_rfl) (by kernel_rfl) (fun _ _ _ h => h) (Or.inr ⟨by kernel_rfl, rfl⟩) (by assumption) ?_
                  (try simp only [Act.put, List.setIfInBounds_toArray, List.set_cons_zero, List.set_cons_succ])
                  refine wpAnyH_take (i := 25) (oi := ⟨some 138, _, _, _, _, _⟩) (v := undef) rfl (by kernel_rfl) (by kernel_rfl) (by kernel_rfl) (fun _ _ _ h => h) (Or.inr ⟨by kernel_rfl, rfl⟩) (by assumption) ?_
                  (try simp only [Act.put, List.setIfInBounds_toArray, List.set_cons_zero, List.set_cons_succ])
                  refine wpAnyH_take (i := 26) (oi := ⟨some 139, _, _, _, _, _⟩) (v := undef) rfl (by kernel_rfl) (by kernel_rfl) (by kernel_rfl) (fun _ _ _ h => h) (Or.inr ⟨by kernel_rfl, rfl⟩) (by assumption) ?_
                  (try simp only [Act.put, List.setIfInBounds_toArray, List.set_cons_zero, List.set_cons_succ])
                  refine wpAnyH_take (i := 27) (oi := ⟨some 140, _, _, _, _, _⟩) (v := undef) rfl (by kernel_rfl) (by kernel_rfl) (by kernel_rfl) (fun _ _ _ h => h) (Or.inr ⟨by kernel_rfl, rfl⟩) (by assumption) ?_
                  (try simp only [Act.put, List.setIfInBounds_toArray, List.set_cons_zero, List.set_cons_succ])
                  refine wpAnyH_take (i := 28) (oi := ⟨some 141, _, _, _, _, _⟩) (v := undef) rfl (by kernel_rfl) (by kernel_rfl) (by kernel_rfl) (fun _ _ _ h => h) (Or.inr ⟨by kernel_rfl, rfl⟩) (by assumption) ?_
                  (try simp only [Act.put, List.setIfInBounds_toArray, List.set_cons_zero, List.set_cons_succ])
                  refine wpAnyH_take (i := 29) (oi := ⟨some 142, _, _, _, _, _⟩) (v := .bool false) rfl (by kernel_rfl) (by kernel_rfl) (by kernel_rfl) (fun _ _ _ h => h) (Or.inl ⟨by kernel_rfl, by intro WW hSw; have s0 := hSw; clear hSw; go_simp⟩) (by assumption) ?_
                  (try simp only [Act.put, List.setIfInBounds_toArray, List.set_cons_zero, List.set_cons_succ])
                  refine wpAnyH_take (i := 30) (oi := ⟨some 143, _, _, _, _, _⟩) (v := .bool false) rfl (by kernel_rfl) (by kernel_rfl) (by kernel_rfl) (fun _ _ _ h => h) (Or.inl ⟨by kernel_rfl, by intro WW hSw; have s0 := hSw; clear hSw; go_simp⟩) (by assumption) ?_
                  (try simp only [Act.put, List.setIfInBounds_toArray, List.set_cons_zero, List.set_cons_succ])
                  refine wpAnyH_done (by kernel_rfl) ?_ _
                  clear hHeld
                  (try refine (‹∀ (a : Act) (w : World), Code.wp Try.prog _ _ a w → _›) _ _ ?_)
                  have HB18 := Lib.hid (low_and HB13.out HB15.out)
                  have HB98 := Lib.hid HB15.out
                  clear HST
                  go_wp2_with fail
                  go_loopw [24] (fun i wr3 => ∃ q : Nat, q ≤ σ ∧ i = .int .i64 (q : Int) ∧ Below w13.heap.size w13 wr3) (fun i _ => 400 - (intOf i).toNat)
                  case atStart => exact ⟨0, Nat.zero_le _, rfl, HB98.out⟩
                  case round =>
                    rename World => wr3
                    obtain ⟨q, hq, rfl, hb3⟩ := hrel
                    have hσ := HLE.out.le
                    have hT1 := HT1.out
                    have hqt : (q : Int) < (T1 : Int) := by omega
                    have hq0 : (0 : Int) ≤ (q : Int) := by omega
                    have hmo := ownS_low (ownS_low HLE.out.mo HB13.out) hb3
                    have HST3 := Lib.hid (show ∀ W, Below wr3.heap.size wr3 W → W.rangeAt gV (q * 21) (trN (C2 q)).cl ∧ W.rangeAt gx 0 X3.cl from fun W hb => by
                      refine ⟨fun j v hv => ?_, ndR ((HNX.out.below hb3 HNX.out.lt).below hb (Nat.lt_of_lt_of_le HNX.out.lt hb3.size))⟩
                      have hj : j < 21 := by
                        have := (List.getElem?_eq_some_iff.1 hv).1
                        rw [(trN (C2 q)).size] at this
                        exact this
                      have := (ownS_low hmo hb).cells rfl (21 * q + j) v (by rw [moL_at (by omega) hj]; exact hv)
                      rw [Addr.add_lit, Nat.zero_add, show 21 * q = q * 21 by omega] at this
                      exact this)
                    obtain ⟨rq, hrq, hre⟩ : ∃ r : Bool, (∀ w, (binOp .eql 27 (trN (C2 q)).V (trN (C2 σ)).V).run Try.prog w = .ok (.bool r) w) ∧ (q = σ → r = true) := by
                      by_cases e : q = σ
                      · subst e
                        exact ⟨true, fun w => eq_node _ w, fun _ => rfl⟩
                      · obtain ⟨r, h⟩ := eql_nodes (trN (C2 q)) (trN (C2 σ))
                        exact ⟨r, h, fun e2 => absurd e2 e⟩
                    obtain ⟨VQ, hVQ⟩ : ∃ VQ, VQ = (trN (C2 q)).V := ⟨_, rfl⟩
                    obtain ⟨VS, hVS⟩ : ∃ VS, VS = (trN (C2 σ)).V := ⟨_, rfl⟩
                    have HTX2 := Lib.hid (show ∀ W, Calls Try.prog 10 #[X3.V] W fun e w' => e = .returned VS ∧ Below W.heap.size W w' from by rw [hVS]; exact HTX.out)
                    rw [← hVQ, ← hVS] at hrq
                    have hge2 : ∀ (x y : Operand) (w : World), (eqGuard .eql 27 x y VQ VS).run Try.prog w = .ok () w := fun x y w => by
                      rw [hVQ, hVS]
                      unfold Nd.V
                      exact run_eqGuard_agg _ _ _ _ _ _ _ (show Try.prog.eqGuardType Try.prog.depth 27 = false from by kernel_rfl)
                    have HVQ := Lib.hid hVQ
                    have HB3' := Lib.hid hb3
                    have HRE := Lib.hid hre
                    clear hVQ hVS hmo hb3 hre
                    go_upto_region 31 with fail
                    (try refine wp_region_noPanic ?_)
                    refine wp_region_held_drew (S := fun W : World => W.rangeAt gV (q * 21) (trN (C2 q)).cl ∧ W.rangeAt gx 0 X3.cl) (by kernel_rfl) (HST3.out _ (drew_below _)) (fun hHeld => ?_)
                    refine wpAnyH_take (i := 0) (oi := ⟨some 150, _, _, _, _, _⟩) (v := .slice (some ⟨gV, 0, none⟩) T1 cV) rfl (by kernel_rfl) (by kernel_rfl) (by kernel_rfl) (fun _ _ _ h => h) (Or.inl ⟨by kernel_rfl, by intro WW hSw; go_simp⟩) (by assumption) ?_
                    (try simp only [Act.put, List.setIfInBounds_toArray, List.set_cons_zero, List.set_cons_succ])
                    refine wpAnyH_take (i := 1) (oi := ⟨some 151, _, _, _, _, _⟩) (v := .int .i64 (q : Int)) rfl (by kernel_rfl) (by kernel_rfl) (by kernel_rfl) (fun _ _ _ h => h) (Or.inl ⟨by kernel_rfl, by intro WW hSw; go_simp⟩) (by assumption) ?_
                    (try simp only [Act.put, List.setIfInBounds_toArray, List.set_cons_zero, List.set_cons_succ])
                    refine wpAnyH_take (i := 2) (oi := ⟨some 152, _, _, _, _, _⟩) (v := .pointer (some ⟨gV, q * 21, none⟩)) rfl (by kernel_rfl) (by kernel_rfl) (by kernel_rfl) (fun _ _ _ h => h) (Or.inl ⟨by kernel_rfl, by intro WW hSw; go_simp⟩) (by assumption) ?_
                    (try simp only [Act.put, List.setIfInBounds_toArray, List.set_cons_zero, List.set_cons_succ])
                    refine wpAnyH_take (i := 3) (oi := ⟨some 153, _, _, _, _, _⟩) (v := VQ) rfl (by kernel_rfl) (by kernel_rfl) (by kernel_rfl) (fun _ _ _ h => h) (by rw [HVQ.out]; exact yieldsIf_load_mid (by rfl) _ _ rfl gV (q * 21) rfl (trN (C2 q)).cl _ (fun w h => h.1) Try.underlying27 rfl ndI) (by assumption) ?_
                    (try simp only [Act.put, List.setIfInBounds_toArray, List.set_cons_zero, List.set_cons_succ])
                    refine wpAnyH_take (i := 4) (oi := ⟨some 154, _, _, _, _, _⟩) (v := .agg X3.cl.toArray) rfl (by kernel_rfl) (by kernel_rfl) (by kernel_rfl) (fun _ _ _ h => h) (yieldsIf_load_mid (by rfl) _ _ rfl gx 0 rfl X3.cl _ (fun w h => h.2) Try.underlying27 rfl ndI) (by assumption) ?_
                    (try simp only [Act.put, List.setIfInBounds_toArray, List.set_cons_zero, List.set_cons_succ])
                    refine wpAnyH_one (i := 5) (oi := ⟨some 155, _, _, _, _, _⟩) rfl (by kernel_rfl) (fun K hK => ?_)
                    refine step_calls (by rfl) 10 ET.out [.tmp 154] _ rfl [.agg X3.cl.toArray] rfl (HTX2.out _) ?_
                    rintro e w19 ⟨rfl, hb19⟩
                    have HB19 := Lib.hid (Below.and (drew_below _) hb19)
                    clear hb19
                    refine ⟨_, rfl, hK _ _ (HST3.out _ HB19.out) (fun hHeld => ?_)⟩
                    clear hK K
                    (try simp only [Act.put, List.setIfInBounds_toArray, List.set_cons_zero, List.set_cons_succ])
                    refine wpAnyH_take (i := 6) (oi := ⟨some 156, _, _, _, _, _⟩) (v := .bool rq) rfl (by kernel_rfl) (by kernel_rfl) (by kernel_rfl) (fun _ _ _ h => h) (Or.inl ⟨by kernel_rfl, by intro WW hSw; go_simp⟩) (by assumption) ?_
                    (try simp only [Act.put, List.setIfInBounds_toArray, List.set_cons_zero, List.set_cons_succ])
                    refine wpAnyH_done (by kernel_rfl) ?_ _
                    clear hHeld
                    (try refine (‹∀ (a : Act) (w : World), Code.wp Try.prog _ _ a w → _›) _ _ ?_)
                    have HB20 := Lib.hid (low_and HB3'.out HB19.out)
                    cases rq with
                    | true =>
                      go_wp2_with fail
                      refine (known11_any _).mono ?_
                      rintro e wk ⟨rfl, hbk⟩
                      have HBK := Lib.hid hbk
                      clear hbk
                      go_wp2_with fail
                      go_ret
                      exact ⟨rfl, low_and (low_and (low_and (low_and HB2.out HLE.out.lw) HB13.out) HB20.out) HBK.out⟩
                    | false =>
                      go_wp2_with fail
                      have hne : q ≠ σ := fun e => by have := HRE.out e; cases this
                      exact ⟨⟨q + 1, by omega, by go_num, HB20.out⟩, by simp [intOf]; omega⟩
                · have hge : decide (0 ≤ X3.inv) = true := by rw [decide_eq_true_eq]; omega
                  have hsub : IntKind.i64.wrap ((X3.len : Int) - (X3.es.length : Int)) = 1 := by rw [HONE.out (by omega)]; first | rfl | decide | kernel_rfl
                  refine wp_region_held_drew (S := fun W : World => W.rangeAt gx 0 X3.cl) (by kernel_rfl) (HST.out _ (drew_below _)) (fun hHeld => ?_)
                  refine wpAnyH_take (i := 0) (oi := ⟨some 113, _, _, _, _, _⟩) (v := .int .i64 0) rfl (by kernel_rfl) (by kernel_rfl) (by kernel_rfl) (fun _ _ _ h => h) (Or.inl ⟨by kernel_rfl, by intro WW hSw; have s0 := hSw; clear hSw; go_simp⟩) (by assumption) ?_
                  (try simp only [Act.put, List.setIfInBounds_toArray, List.set_cons_zero, List.set_cons_succ])
                  refine wpAnyH_take (i := 1) (oi := ⟨some 114, _, _, _, _, _⟩) (v := .bool false) rfl (by kernel_rfl) (by kernel_rfl) (by kernel_rfl) (fun _ _ _ h => h) (Or.inl ⟨by kernel_rfl, by intro WW hSw; have s0 := hSw; clear hSw; go_simp⟩) (by assumption) ?_
                  (try simp only [Act.put, List.setIfInBounds_toArray, List.set_cons_zero, List.set_cons_succ])
                  refine wpAnyH_take (i := 2) (oi := ⟨some 115, _, _, _, _, _⟩) (v := .bool false) rfl (by kernel_rfl) (by kernel_rfl) (by kernel_rfl) (fun _ _ _ h => h) (Or.inl ⟨by kernel_rfl, by intro WW hSw; have s0 := hSw; clear hSw; go_simp⟩) (by assumption) ?_
                  (try simp only [Act.put, List.setIfInBounds_toArray, List.set_cons_zero, List.set_cons_succ])
                  refine wpAnyH_take (i := 3) (oi := ⟨some 116, _, _, _, _, _⟩) (v := .bool true) rfl (by kernel_rfl) (by kernel_rfl) (by kernel_rfl) (fun _ _ _ h => h) (Or.inl ⟨by kernel_rfl, by intro WW hSw; have s0 := hSw; clear hSw; go_simp⟩) (by assumption) ?_
                  (try simp only [Act.put, List.setIfInBounds_toArray, List.set_cons_zero, List.set_cons_succ])
                  refine wpAnyH_take (i := 4) (oi := ⟨some 117, _, _, _, _, _⟩) (v := .pointer (some ⟨gx, 2, none⟩)) rfl (by kernel_rfl) (by kernel_rfl) (by kernel_rfl) (fun _ _ _ h => h) (Or.inl ⟨by kernel_rfl, by intro WW hSw; have s0 := hSw; clear hSw; go_simp⟩) (by assumption) ?_
                  (try simp only [Act.put, List.setIfInBounds_toArray, List.set_cons_zero, List.set_cons_succ])
                  refine wpAnyH_take (i := 5) (oi := ⟨some 118, _, _, _, _, _⟩) (v := .int .u64 X3.nx) rfl (by kernel_rfl) (by kernel_rfl) (by kernel_rfl) (fun _ _ _ h => h) (Or.inl ⟨by kernel_rfl, by intro WW hSw; have s0 := hSw 2 _ (show X3.cl[2]? = some (.int .u64 X3.nx) from rfl); clear hSw; go_simp⟩) (by assumption) ?_
                  (try simp only [Act.put, List.setIfInBounds_toArray, List.set_cons_zero, List.set_cons_succ])
                  refine wpAnyH_take (i := 6) (oi := ⟨some 119, _, _, _, _, _⟩) (v := .bool true) rfl (by kernel_rfl) (by kernel_rfl) (by kernel_rfl) (fun _ _ _ h => h) (Or.inl ⟨by kernel_rfl, by intro WW hSw; have s0 := hSw; clear hSw; go_simp⟩) (by assumption) ?_
                  (try simp only [Act.put, List.setIfInBounds_toArray, List.set_cons_zero, List.set_cons_succ])
                  refine wpAnyH_take (i := 7) (oi := ⟨some 120, _, _, _, _, _⟩) (v := .bool false) rfl (by kernel_rfl) (by kernel_rfl) (by kernel_rfl) (fun _ _ _ h => h) (Or.inl ⟨by kernel_rfl, by intro WW hSw; have s0 := hSw; clear hSw; go_simp⟩) (by assumption) ?_
                  (try simp only [Act.put, List.setIfInBounds_toArray, List.set_cons_zero, List.set_cons_succ])
                  refine wpAnyH_take (i := 8) (oi := ⟨some 121, _, _, _, _, _⟩) (v := .bool false) rfl (by kernel_rfl) (by kernel_rfl) (by kernel_rfl) (fun _ _ _ h => h) (Or.inl ⟨by kernel_rfl, by intro WW hSw; have s0 := hSw; clear hSw; go_simp⟩) (by assumption) ?_
                  (try simp only [Act.put, List.setIfInBounds_toArray, List.set_cons_zero, List.set_cons_succ])
                  refine wpAnyH_take (i := 9) (oi := ⟨some 122, _, _, _, _, _⟩) (v := .bool false) rfl (by kernel_rfl) (by kernel_rfl) (by kernel_rfl) (fun _ _ _ h => h) (Or.inl ⟨by kernel_rfl, by intro WW hSw; have s0 := hSw; clear hSw; go_simp⟩) (by assumption) ?_
                  (try simp only [Act.put, List.setIfInBounds_toArray, List.set_cons_zero, List.set_cons_succ])
                  refine wpAnyH_take (i := 10) (oi := ⟨some 123, _, _, _, _, _⟩) (v := .bool true) rfl (by kernel_rfl) (by kernel_rfl) (by kernel_rfl) (fun _ _ _ h => h) (Or.inl ⟨by kernel_rfl, by intro WW hSw; have s0 := hSw; clear hSw; go_simp⟩) (by assumption) ?_
                  (try simp only [Act.put, List.setIfInBounds_toArray, List.set_cons_zero, List.set_cons_succ])
                  refine wpAnyH_take (i := 11) (oi := ⟨some 124, _, _, _, _, _⟩) (v := .bool true) rfl (by kernel_rfl) (by kernel_rfl) (by kernel_rfl) (fun _ _ _ h => h) (Or.inl ⟨by kernel_rfl, by intro WW hSw; have s0 := hSw; clear hSw; go_simp⟩) (by assumption) ?_
                  (try simp only [Act.put, List.setIfInBounds_toArray, List.set_cons_zero, List.set_cons_succ])
                  refine wpAnyH_take (i := 12) (oi := ⟨some 125, _, _, _, _, _⟩) (v := .int .u64 low) rfl (by kernel_rfl) (by kernel_rfl) (by kernel_rfl) (fun _ _ _ h => h) (Or.inl ⟨by kernel_rfl, by intro WW hSw; have s0 := hSw; clear hSw; go_simp⟩) (by assumption) ?_
                  (try simp only [Act.put, List.setIfInBounds_toArray, List.set_cons_zero, List.set_cons_succ])
                  refine wpAnyH_take (i := 13) (oi := ⟨some 126, _, _, _, _, _⟩) (v := .int .u64 low) rfl (by kernel_rfl) (by kernel_rfl) (by kernel_rfl) (fun _ _ _ h => h) (Or.inl ⟨by kernel_rfl, by intro WW hSw; have s0 := hSw; clear hSw; go_simp⟩) (by assumption) ?_
                  (try simp only [Act.put, List.setIfInBounds_toArray, List.set_cons_zero, List.set_cons_succ])
                  refine wpAnyH_take (i := 14) (oi := ⟨some 127, _, _, _, _, _⟩) (v := .bool false) rfl (by kernel_rfl) (by kernel_rfl) (by kernel_rfl) (fun _ _ _ h => h) (Or.inl ⟨by kernel_rfl, by intro WW hSw; have s0 := hSw; clear hSw; go_simp⟩) (by assumption) ?_
                  (try simp only [Act.put, List.setIfInBounds_toArray, List.set_cons_zero, List.set_cons_succ])
                  refine wpAnyH_take (i := 15) (oi := ⟨some 128, _, _, _, _, _⟩) (v := .bool false) rfl (by kernel_rfl) (by kernel_rfl) (by kernel_rfl) (fun _ _ _ h => h) (Or.inl ⟨by kernel_rfl, by intro WW hSw; have s0 := hSw; clear hSw; go_simp⟩) (by assumption) ?_
                  (try simp only [Act.put, List.setIfInBounds_toArray, List.set_cons_zero, List.set_cons_succ])
                  refine wpAnyH_take (i := 16) (oi := ⟨some 129, _, _, _, _, _⟩) (v := .bool false) rfl (by kernel_rfl) (by kernel_rfl) (by kernel_rfl) (fun _ _ _ h => h) (Or.inl ⟨by kernel_rfl, by intro WW hSw; have s0 := hSw; clear hSw; go_simp⟩) (by assumption) ?_
                  (try simp only [Act.put, List.setIfInBounds_toArray, List.set_cons_zero, List.set_cons_succ])
                  refine wpAnyH_take (i := 17) (oi := ⟨some 130, _, _, _, _, _⟩) (v := .bool false) rfl (by kernel_rfl) (by kernel_rfl) (by kernel_rfl) (fun _ _ _ h => h) (Or.inl ⟨by kernel_rfl, by intro WW hSw; have s0 := hSw; clear hSw; go_simp⟩) (by assumption) ?_
                  (try simp only [Act.put, List.setIfInBounds_toArray, List.set_cons_zero, List.set_cons_succ])
                  refine wpAnyH_take (i := 18) (oi := ⟨some 131, _, _, _, _, _⟩) (v := .agg X3.cl.toArray) rfl (by kernel_rfl) (by kernel_rfl) (by kernel_rfl) (fun _ _ _ h => h) (yieldsIf_load_mid (by rfl) _ _ rfl gx 0 rfl X3.cl _ (fun w h => h) Try.underlying27 rfl ndI) (by assumption) ?_
                  (try simp only [Act.put, List.setIfInBounds_toArray, List.set_cons_zero, List.set_cons_succ])
                  refine wpAnyH_one (i := 19) (oi := ⟨some 132, _, _, _, _, _⟩) rfl (by kernel_rfl) (fun K hK => ?_)
                  refine step_calls (by rfl) 15 EI.out [.tmp 131] _ rfl [.agg X3.cl.toArray] rfl (r8Inv_any X3 _) ?_
                  rintro e w15 ⟨rfl, hb15⟩
                  have HB15 := Lib.hid (Below.and (drew_below _) hb15)
                  clear hb15
                  refine ⟨_, rfl, hK _ _ (HST.out _ HB15.out) (fun hHeld => ?_)⟩
                  clear hK K
                  (try simp only [Act.put, List.setIfInBounds_toArray, List.set_cons_zero, List.set_cons_succ])
                  refine wpAnyH_take (i := 20) (oi := ⟨some 133, _, _, _, _, _⟩) (v := .bool true) rfl (by kernel_rfl) (by kernel_rfl) (by kernel_rfl) (fun _ _ _ h => h) (Or.inl ⟨by kernel_rfl, by intro WW hSw; have s0 := hSw; clear hSw; go_simp⟩) (by assumption) ?_
                  (try simp only [Act.put, List.setIfInBounds_toArray, List.set_cons_zero, List.set_cons_succ])
                  refine wpAnyH_take (i := 21) (oi := ⟨some 134, _, _, _, _, _⟩) (v := .bool true) rfl (by kernel_rfl) (by kernel_rfl) (by kernel_rfl) (fun _ _ _ h => h) (Or.inl ⟨by kernel_rfl, by intro WW hSw; have s0 := hSw; clear hSw; go_simp⟩) (by assumption) ?_
                  (try simp only [Act.put, List.setIfInBounds_toArray, List.set_cons_zero, List.set_cons_succ])
                  refine wpAnyH_take (i := 22) (oi := ⟨some 135, _, _, _, _, _⟩) (v := .agg X3.cl.toArray) rfl (by kernel_rfl) (by kernel_rfl) (by kernel_rfl) (fun _ _ _ h => h) (yieldsIf_load_mid (by rfl) _ _ rfl gx 0 rfl X3.cl _ (fun w h => h) Try.underlying27 rfl ndI) (by assumption) ?_
                  (try simp only [Act.put, List.setIfInBounds_toArray, List.set_cons_zero, List.set_cons_succ])
                  refine wpAnyH_take (i := 24) (oi := ⟨some 137, _, _, _, _, _⟩) (v := .agg X3.cl.toArray) rfl (by kernel_rfl) (by kernel_rfl) (by kernel_rfl) (fun _ _ _ h => h) (yieldsIf_load_mid (by rfl) _ _ rfl gx 0 rfl X3.cl _ (fun w h => h) Try.underlying27 rfl ndI) (by assumption) ?_
                  (try simp only [Act.put, List.setIfInBounds_toArray, List.set_cons_zero, List.set_cons_succ])
                  refine wpAnyH_one (i := 23) (oi := ⟨some 136, _, _, _, _, _⟩) rfl (by kernel_rfl) (fun K hK => ?_)
                  refine step_calls (by rfl) 16 EL.out [.tmp 135] _ rfl [.agg X3.cl.toArray] rfl (r8Len_any X3 _) ?_
                  rintro e w16 ⟨rfl, hb16⟩
                  have HB16 := Lib.hid (Below.and HB15.out hb16)
                  clear hb16
                  refine ⟨_, rfl, hK _ _ (HST.out _ HB16.out) (fun hHeld => ?_)⟩
                  clear hK K
                  (try simp only [Act.put, List.setIfInBounds_toArray, List.set_cons_zero, List.set_cons_succ])
                  refine wpAnyH_one (i := 25) (oi := ⟨some 138, _, _, _, _, _⟩) rfl (by kernel_rfl) (fun K hK => ?_)
                  refine step_calls (by rfl) 17 EV.out [.tmp 137] _ rfl [.agg X3.cl.toArray] rfl (r8Valid_any X3 _) ?_
                  rintro e w17 ⟨⟨v17, rfl, ho17⟩, hb17⟩
                  have HB17 := Lib.hid (Below.and HB16.out hb17)
                  obtain ⟨A17, c17, rfl⟩ := own6_sl ho17
                  clear hb17 ho17
                  refine ⟨_, rfl, hK _ _ (HST.out _ HB17.out) (fun hHeld => ?_)⟩
                  clear hK K
                  (try simp only [Act.put, List.setIfInBounds_toArray, List.set_cons_zero, List.set_cons_succ])
                  refine wpAnyH_take (i := 26) (oi := ⟨some 139, _, _, _, _, _⟩) (v := .int .i64 (X3.es.length : Int)) rfl (by kernel_rfl) (by kernel_rfl) (by kernel_rfl) (fun _ _ _ h => h) (Or.inl ⟨by kernel_rfl, by intro WW hSw; have s0 := hSw; clear hSw; go_simp⟩) (by assumption) ?_
                  (try simp only [Act.put, List.setIfInBounds_toArray, List.set_cons_zero, List.set_cons_succ])
                  refine wpAnyH_take (i := 27) (oi := ⟨some 140, _, _, _, _, _⟩) (v := .int .i64 1) rfl (by kernel_rfl) (by kernel_rfl) (by kernel_rfl) (fun _ _ _ h => h) (Or.inl ⟨by kernel_rfl, by intro WW hSw; have s0 := hSw; clear hSw; go_simp⟩) (by assumption) ?_
                  (try simp only [Act.put, List.setIfInBounds_toArray, List.set_cons_zero, List.set_cons_succ])
                  refine wpAnyH_take (i := 28) (oi := ⟨some 141, _, _, _, _, _⟩) (v := .bool false) rfl (by kernel_rfl) (by kernel_rfl) (by kernel_rfl) (fun _ _ _ h => h) (Or.inl ⟨by kernel_rfl, by intro WW hSw; have s0 := hSw; clear hSw; go_simp⟩) (by assumption) ?_
                  (try simp only [Act.put, List.setIfInBounds_toArray, List.set_cons_zero, List.set_cons_succ])
                  refine wpAnyH_take (i := 29) (oi := ⟨some 142, _, _, _, _, _⟩) (v := .bool false) rfl (by kernel_rfl) (by kernel_rfl) (by kernel_rfl) (fun _ _ _ h => h) (Or.inl ⟨by kernel_rfl, by intro WW hSw; have s0 := hSw; clear hSw; go_simp⟩) (by assumption) ?_
                  (try simp only [Act.put, List.setIfInBounds_toArray, List.set_cons_zero, List.set_cons_succ])
                  refine wpAnyH_take (i := 30) (oi := ⟨some 143, _, _, _, _, _⟩) (v := .bool false) rfl (by kernel_rfl) (by kernel_rfl) (by kernel_rfl) (fun _ _ _ h => h) (Or.inl ⟨by kernel_rfl, by intro WW hSw; have s0 := hSw; clear hSw; go_simp⟩) (by assumption) ?_
                  (try simp only [Act.put, List.setIfInBounds_toArray, List.set_cons_zero, List.set_cons_succ])
                  refine wpAnyH_done (by kernel_rfl) ?_ _
                  clear hHeld
                  (try refine (‹∀ (a : Act) (w : World), Code.wp Try.prog _ _ a w → _›) _ _ ?_)
                  have HB18 := Lib.hid (low_and HB13.out HB17.out)
                  have HB98 := Lib.hid HB17.out
                  clear HST
                  go_wp2_with fail
                  go_loopw [24] (fun i wr3 => ∃ q : Nat, q ≤ σ ∧ i = .int .i64 (q : Int) ∧ Below w13.heap.size w13 wr3) (fun i _ => 400 - (intOf i).toNat)
                  case atStart => exact ⟨0, Nat.zero_le _, rfl, HB98.out⟩
                  case round =>
                    rename World => wr3
                    obtain ⟨q, hq, rfl, hb3⟩ := hrel
                    have hσ := HLE.out.le
                    have hT1 := HT1.out
                    have hqt : (q : Int) < (T1 : Int) := by omega
                    have hq0 : (0 : Int) ≤ (q : Int) := by omega
                    have hmo := ownS_low (ownS_low HLE.out.mo HB13.out) hb3
                    have HST3 := Lib.hid (show ∀ W, Below wr3.heap.size wr3 W → W.rangeAt gV (q * 21) (trN (C2 q)).cl ∧ W.rangeAt gx 0 X3.cl from fun W hb => by
                      refine ⟨fun j v hv => ?_, ndR ((HNX.out.below hb3 HNX.out.lt).below hb (Nat.lt_of_lt_of_le HNX.out.lt hb3.size))⟩
                      have hj : j < 21 := by
                        have := (List.getElem?_eq_some_iff.1 hv).1
                        rw [(trN (C2 q)).size] at this
                        exact this
                      have := (ownS_low hmo hb).cells rfl (21 * q + j) v (by rw [moL_at (by omega) hj]; exact hv)
                      rw [Addr.add_lit, Nat.zero_add, show 21 * q = q * 21 by omega] at this
                      exact this)
                    obtain ⟨rq, hrq, hre⟩ : ∃ r : Bool, (∀ w, (binOp .eql 27 (trN (C2 q)).V (trN (C2 σ)).V).run Try.prog w = .ok (.bool r) w) ∧ (q = σ → r = true) := by
                      by_cases e : q = σ
                      · subst e
                        exact ⟨true, fun w => eq_node _ w, fun _ => rfl⟩
                      · obtain ⟨r, h⟩ := eql_nodes (trN (C2 q)) (trN (C2 σ))
                        exact ⟨r, h, fun e2 => absurd e2 e⟩
                    obtain ⟨VQ, hVQ⟩ : ∃ VQ, VQ = (trN (C2 q)).V := ⟨_, rfl⟩
                    obtain ⟨VS, hVS⟩ : ∃ VS, VS = (trN (C2 σ)).V := ⟨_, rfl⟩
                    have HTX2 := Lib.hid (show ∀ W, Calls Try.prog 10 #[X3.V] W fun e w' => e = .returned VS ∧ Below W.heap.size W w' from by rw [hVS]; exact HTX.out)
                    rw [← hVQ, ← hVS] at hrq
                    have hge2 : ∀ (x y : Operand) (w : World), (eqGuard .eql 27 x y VQ VS).run Try.prog w = .ok () w := fun x y w => by
                      rw [hVQ, hVS]
                      unfold Nd.V
                      exact run_eqGuard_agg _ _ _ _ _ _ _ (show Try.prog.eqGuardType Try.prog.depth 27 = false from by kernel_rfl)
                    have HVQ := Lib.hid hVQ
                    have HB3' := Lib.hid hb3
                    have HRE := Lib.hid hre
                    clear hVQ hVS hmo hb3 hre
                    go_upto_region 31 with fail
                    (try refine wp_region_noPanic ?_)
                    refine wp_region_held_drew (S := fun W : World => W.rangeAt gV (q * 21) (trN (C2 q)).cl ∧ W.rangeAt gx 0 X3.cl) (by kernel_rfl) (HST3.out _ (drew_below _)) (fun hHeld => ?_)
                    refine wpAnyH_take (i := 0) (oi := ⟨some 150, _, _, _, _, _⟩) (v := .slice (some ⟨gV, 0, none⟩) T1 cV) rfl (by kernel_rfl) (by kernel_rfl) (by kernel_rfl) (fun _ _ _ h => h) (Or.inl ⟨by kernel_rfl, by intro WW hSw; go_simp⟩) (by assumption) ?_
                    (try simp only [Act.put, List.setIfInBounds_toArray, List.set_cons_zero, List.set_cons_succ])
                    refine wpAnyH_take (i := 1) (oi := ⟨some 151, _, _, _, _, _⟩) (v := .int .i64 (q : Int)) rfl (by kernel_rfl) (by kernel_rfl) (by kernel_rfl) (fun _ _ _ h => h) (Or.inl ⟨by kernel_rfl, by intro WW hSw; go_simp⟩) (by assumption) ?_
                    (try simp only [Act.put, List.setIfInBounds_toArray, List.set_cons_zero, List.set_cons_succ])
                    refine wpAnyH_take (i := 2) (oi := ⟨some 152, _, _, _, _, _⟩) (v := .pointer (some ⟨gV, q * 21, none⟩)) rfl (by kernel_rfl) (by kernel_rfl) (by kernel_rfl) (fun _ _ _ h => h) (Or.inl ⟨by kernel_rfl, by intro WW hSw; go_simp⟩) (by assumption) ?_
                    (try simp only [Act.put, List.setIfInBounds_toArray, List.set_cons_zero, List.set_cons_succ])
                    refine wpAnyH_take (i := 3) (oi := ⟨some 153, _, _, _, _, _⟩) (v := VQ) rfl (by kernel_rfl) (by kernel_rfl) (by kernel_rfl) (fun _ _ _ h => h) (by rw [HVQ.out]; exact yieldsIf_load_mid (by rfl) _ _ rfl gV (q * 21) rfl (trN (C2 q)).cl _ (fun w h => h.1) Try.underlying27 rfl ndI) (by assumption) ?_
                    (try simp only [Act.put, List.setIfInBounds_toArray, List.set_cons_zero, List.set_cons_succ])
                    refine wpAnyH_take (i := 4) (oi := ⟨some 154, _, _, _, _, _⟩) (v := .agg X3.cl.toArray) rfl (by kernel_rfl) (by kernel_rfl) (by kernel_rfl) (fun _ _ _ h => h) (yieldsIf_load_mid (by rfl) _ _ rfl gx 0 rfl X3.cl _ (fun w h => h.2) Try.underlying27 rfl ndI) (by assumption) ?_
                    (try simp only [Act.put, List.setIfInBounds_toArray, List.set_cons_zero, List.set_cons_succ])
                    refine wpAnyH_one (i := 5) (oi := ⟨some 155, _, _, _, _, _⟩) rfl (by kernel_rfl) (fun K hK => ?_)
                    refine step_calls (by rfl) 10 ET.out [.tmp 154] _ rfl [.agg X3.cl.toArray] rfl (HTX2.out _) ?_
                    rintro e w19 ⟨rfl, hb19⟩
                    have HB19 := Lib.hid (Below.and (drew_below _) hb19)
                    clear hb19
                    refine ⟨_, rfl, hK _ _ (HST3.out _ HB19.out) (fun hHeld => ?_)⟩
                    clear hK K
                    (try simp only [Act.put, List.setIfInBounds_toArray, List.set_cons_zero, List.set_cons_succ])
                    refine wpAnyH_take (i := 6) (oi := ⟨some 156, _, _, _, _, _⟩) (v := .bool rq) rfl (by kernel_rfl) (by kernel_rfl) (by kernel_rfl) (fun _ _ _ h => h) (Or.inl ⟨by kernel_rfl, by intro WW hSw; go_simp⟩) (by assumption) ?_
                    (try simp only [Act.put, List.setIfInBounds_toArray, List.set_cons_zero, List.set_cons_succ])
                    refine wpAnyH_done (by kernel_rfl) ?_ _
                    clear hHeld
                    (try refine (‹∀ (a : Act) (w : World), Code.wp Try.prog _ _ a w → _›) _ _ ?_)
                    have HB20 := Lib.hid (low_and HB3'.out HB19.out)
                    cases rq with
                    | true =>
                      go_wp2_with fail
                      refine (known11_any _).mono ?_
                      rintro e wk ⟨rfl, hbk⟩
                      have HBK := Lib.hid hbk
                      clear hbk
                      go_wp2_with fail
                      go_ret
                      exact ⟨rfl, low_and (low_and (low_and (low_and HB2.out HLE.out.lw) HB13.out) HB20.out) HBK.out⟩
                    | false =>
                      go_wp2_with fail
                      have hne : q ≠ σ := fun e => by have := HRE.out e; cases this
                      exact ⟨⟨q + 1, by omega, by go_num, HB20.out⟩, by simp [intOf]; omega⟩

        · have hjx : (nT : Int) + 64 ≤ (j : Int) := by omega
          by_cases h0 : nT = 0
          · exfalso
            obtain ⟨c1, c2, c3, c4⟩ := HCL.out h0
            obtain ⟨T, S', t1, t2, hG, hd, _⟩ := sn_alone (V := ldV s7) (K := ldK s7) (ldK_is _) 1088
            have h3 := c4 T (by omega)
            rw [hG.it, hd] at h3
            cases h3
          · have hpos : (0 : Int) < (nT : Int) := by omega
            have HBF := Lib.hid (show Below w.heap.size w wr2 from low_and HB2.out hlb.ws.lw)
            clear hlb HCL hjn
            go_wp2_with fail
            refine (known11_any _).mono ?_
            rintro e wk ⟨rfl, hbk⟩
            have HBK := Lib.hid hbk
            clear hbk
            go_wp2_with fail
            go_ret
            exact ⟨rfl, low_and HBF.out HBK.out⟩

end Go.Proofs.Yteojhhfcfdkmdaa
