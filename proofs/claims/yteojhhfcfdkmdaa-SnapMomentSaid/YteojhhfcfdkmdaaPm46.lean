/- Texts of this claim, packed: SnSt, SnLn, SnMf. -/
import Derived.Test.YteojhhfcfdkmdaaPm44
import Derived.Test.YteojhhfcfdkmdaaPm35
import Derived.Test.YteojhhfcfdkmdaaPm45
import Derived.Test.YteojhhfcfdkmdaaPm11
import Derived.Test.YteojhhfcfdkmdaaPm31
set_option linter.unusedSimpArgs false
set_option linter.unusedVariables false
/- Where SnapMoment starts: the node that is laid, the writer; few changes; a node that was read whole has one invalid entry at most; conditions: the node may be. -/
namespace Go.Proofs.Yteojhhfcfdkmdaa
open Go.RowKit
set_option linter.unusedVariables false
attribute [local go_sem] Oper.semAt_some
theorem few11_any (A : Option Addr) (n cap : Nat) (w : World) : Calls Try.prog 6 #[.slice A n cap] w fun e w' => e = .returned (.bool (decide (n ≤ 20))) ∧ Below w.heap.size w w' := by
  have hd : decide ((n : Int) ≤ 20) = decide (n ≤ 20) := by
    congr 1
    apply propext
    omega
  go_enter Try.func6, Try.ntmps6
  go_wp2
  go_ret
  exact ⟨rfl, Below.refl _ _⟩
theorem vp_tr (c : Nd) : (c.tr (c.len + 1) c.len).es.length = c.es.length ∧ (c.tr (c.len + 1) c.len).len = c.len := by
  have hl := len_tr c (a := c.len + 1)
  refine ⟨?_, hl⟩
  unfold Nd.es
  rw [List.length_map, List.length_map]
  unfold Nd.vp
  rw [hl]
  unfold Nd.vpTo
  congr 1
  refine List.filter_congr fun i hi => ?_
  have hi : i < c.len := List.mem_range.1 hi
  have h8 := c.len_le
  unfold Nd.ok Nd.ahd
  rw [c.tr_ptr _ _ (by omega), if_pos hi]
  by_cases h0 : i = 0
  · rw [if_pos h0, if_pos h0]
    rfl
  · rw [if_neg h0, if_neg h0, c.tr_ptr _ _ (by omega), if_pos (by omega)]
theorem es_short {n : Nd} (h : 0 ≤ n.inv) : n.es.length < n.len := by
  have hle : n.es.length ≤ n.len := by
    unfold Nd.es
    rw [List.length_map]
    exact n.vpTo_len _
  by_cases e : n.es.length = n.len
  · exfalso
    have hall : ∀ i, i < n.len → n.ok i = true := by
      have h2 : ((List.range n.len).filter n.ok).length = (List.range n.len).length := by
        rw [List.length_range]
        unfold Nd.es at e
        rw [List.length_map] at e
        exact e
      intro i hi
      exact (List.length_filter_eq_length_iff.1 h2) i (List.mem_range.2 hi)
    rw [n.inv_none hall] at h
    omega
  · omega
/-- One invalid entry at most. -/
theorem one_off {c : Nd} (h : CurOk c) (hi : 0 ≤ (c.tr (c.len + 1) c.len).inv) : ((c.tr (c.len + 1) c.len).len : Int) - ((c.tr (c.len + 1) c.len).es.length : Int) = 1 := by
  have h1 := es_short hi
  obtain ⟨e1, e2⟩ := vp_tr c
  rw [e1, e2] at h1 ⊢
  have h2 := h.may
  rw [may_r] at h2
  simp only [Bool.and_eq_true, decide_eq_true_eq] at h2
  omega
theorem cur_start {n : Nd} (hf : n.Fits) (h : rightB n = true) : CurOk n.side := by
  have hlv := right_lv h
  have hw := fits_words (side_fits hf)
  have e : wi n.side = wo9 n.side := by
    unfold wo9 wi
    rw [if_pos hlv]
  refine ⟨fun x hx => ?_, hlv, side_nx n, ?_⟩
  · rw [← e] at hx
    obtain ⟨i, hi, rfl⟩ := List.getElem_of_mem hx
    rw [wi_len] at hi
    have := hw i hi
    unfold wAt at this
    rw [List.getD_eq_getElem?_getD, List.getElem?_eq_getElem (by rw [wi_len]; exact hi)] at this
    exact this
  · unfold rightB at h
    rw [Bool.and_eq_true] at h
    exact h.1
theorem Lds.small {nl n : Nat} {s : St} (h : Lds nl n s) : Small s n := by
  obtain ⟨h1, h2, h3, h4⟩ := h.num
  refine ⟨h2, h3, h4, fun l hl => ?_⟩
  obtain ⟨j, hj, rfl⟩ := List.getElem_of_mem hl
  have := h.few j
  rw [List.getD_eq_getElem?_getD, List.getElem?_eq_getElem hj] at this
  exact this
theorem mem_start {n : Nd} {low : Int} (hf : n.Fits) (hl : 0 ≤ low ∧ low < 18446744073709551616) (h : rightB n = true) : MemIn (laidM n.side low) low n.side := by
  have hlv := right_lv h
  have hw := fits_words (side_fits hf)
  refine ⟨fun j hj => ?_, laid_low _ hl⟩
  rw [laid_word hw low hj]
  have e : wi n.side = wo9 n.side := by
    unfold wo9 wi
    rw [if_pos hlv]
  rw [e]
  rfl
/-- The writer, as it begins. -/
theorem ws_start {w0 W : World} {gw : Nat} {low : Int} {y : Lay} {s : St} {M : Nd} {l : List Ask3} {V : Value} (hm : MemAt W y s) (hlow : Below w0.heap.size w0 W) (hfp : ∀ k, y.fp k → w0.heap.size ≤ k) (hgw : ¬ y.fp gw) (hpw : w0.heap.size ≤ gw) (hr : Row W gw 39 (wrV y.g M V (.pointer none)).toArray) (ha : Ask3At w0 V l) (hL : Lds 64 55 s) (hmi : MemIn s low M) (hc : CurOk M) (hf : ∀ q ∈ l, InW q.2.1 ∧ InW q.2.2) :
    WS w0 gw 55 55 low y s (Wr.rest M) M l none W :=
  ⟨hm, hfp, hgw, ⟨V, hr, ha⟩, trivial, hL, hL.small, rest_ok hc, hmi, rfl, hc, hlow, hpw, hf⟩
/-- A snapshot begins. -/
theorem lb_start {w0 W W' : World} {gw gs mS mL : Nat} {low : Int} {y : Lay} {s : St} {x : Wr} {nE : Nd} {l : List Ask3} {R : Option (Nat × RnRS × Value)} (h : WS w0 gw mS mL low y s x nE l R W) (hgs : gs = W.heap.size) (hb : Below W.heap.size W W') (hs : SnapAt W' gs (some ⟨y.g, 0, none⟩) (SS.new 1088)) :
    LB w0 W' gw gs mS mL low y s x nE l R (fun _ => x.c) (fun _ => 0) 0 0 (SS.new 1088) (.slice none 0 0) := by
  obtain ⟨V, hr, _⟩ := h.row
  have hgw := hr.lt
  have hsz := h.lw.size
  refine ⟨h.below hb, hw_zero h.ok, ⟨rfl, trivial⟩, hs, new_SGood (by decide), rfl, rfl, fun hk => ?_, by omega, fun hk => ?_, by omega, World.ownsRow_nil _ _ _ _, fun k hk => (by cases hk), by omega⟩
  · have := h.mem.lt gs hk
    omega
  · have := h.rlt gs hk
    omega
end Go.Proofs.Yteojhhfcfdkmdaa
/- A moment is looked at and kept; conditions: the writer and the snapshot lie. -/
namespace Go.Proofs.Yteojhhfcfdkmdaa
open Go.RowKit
set_option linter.unusedVariables false
section
variable {w0 W W' w' : World} {gw gs mS mL t m g : Nat} {low : Int} {y : Lay} {s : St} {x : Wr} {nE : Nd} {l : List Ask3} {R : Option (Nat × RnRS × Value)} {C : Nat → Nd} {cN : Nat → Nat} {S : SS} {V : Value}
/-- The node as it stands. -/
theorem LB.now (h : LB w0 W gw gs mS mL low y s x nE l R C cN t m S V) (hL : mL ≤ 900000) (hg : y.g = g) :
    Calls Try.prog 11 #[.pointer (some ⟨g, 0, none⟩)] W fun e w' => e = .returned ((C t).tr ((C t).len + 1) (C t).len).V ∧ ∃ y' s', y'.g = g ∧ s'.view = s.view ∧ s'.nl = s.nl ∧ LB w0 w' gw gs mS (mL + 24) low y' s' x nE l R C cN t m S V := by
  rw [← hg]
  refine (now11_any h.ws.mem h.ws.lds hL h.ws.mi h.ws.ok.ok).mono ?_
  rintro e w' ⟨rfl, y', hm, hgg, hf, hb⟩
  refine ⟨by rw [h.hw.cur], y', { s with ld := s.ld + 24 }, hgg, rfl, rfl, h.turn hb hm hgg hf (h.ws.lds.ld24 hL) ⟨h.ws.sm.st, h.ws.sm.fl, h.ws.sm.fe, h.ws.sm.pe⟩ rfl⟩
theorem grown_below {w w' : World} (h : Below w.heap.size w w') : w.grownBy w' none := ⟨h.os, h.tape, h.output, h.size, fun k hk _ => h.block k hk⟩
/-- The first moment. -/
theorem LB.first (h : LB w0 W gw gs mS mL low y s x nE l R C cN t 0 S (.slice none 0 0)) : LB w0 (W.alloc (.cells (trN (C 0)).cl.toArray 27)) gw gs mS mL low y s x nE l R C cN t 1 S (.slice (some ⟨W.heap.size, 0, none⟩) 1 1) :=
  h.app (grown_below (alloc_below _ _)) (nodes_new _ _ h.ws.lw.size _) (fun k hk => .inr (by
    have : W.heap.size = k := by simpa [Value.ownBlock] using hk
    omega)) (by omega)
theorem trN_V (c : Nd) (w : World) : Calls Try.prog 10 #[(c.tr (c.len + 1) c.len).V] w fun e w' => e = .returned (trN c).V ∧ Below w.heap.size w w' := by
  have := trim11_any (c.tr (c.len + 1) c.len) w
  rw [tr_tr] at this
  exact this
end
end Go.Proofs.Yteojhhfcfdkmdaa
/- The law SnapMoment where nothing is asked of it; conditions: the numbers are such as Go's types hold. -/
namespace Go.Proofs.Yteojhhfcfdkmdaa
open Go.RowKit
set_option linter.unusedVariables false
attribute [local go_sem] Oper.semAt_some
set_option maxRecDepth 100000 in
set_option maxHeartbeats 1600000 in
theorem snapMoment_few (n : Nd) (hf : n.Fits) (low : Int) (hl : 0 ≤ low ∧ low < 18446744073709551616) (A : Option Addr) (m cap : Nat) (ahead : Int) (AT : Option Addr) (nT capT : Nat) (w : World) (h : rightB n = false ∨ 20 < m ∨ 300 < nT) :
    Calls Try.prog 3 #[n.V, .int .u64 low, .slice A m cap, .int .i64 ahead, .slice AT nT capT] w fun e w' => e = .returned (.bool true) ∧ Below w.heap.size w w' := by
  have mixed : Try.prog.follows .mixedOrders = true := by kernel_rfl
  have hws := fits_words (side_fits hf)
  have HLD := Lib.hid fun W => laid11_any n.side low hws hl W
  have HLds := Lib.hid (laidM_Lds hws hl)
  have HRT := Lib.hid fun W => right11_any n W
  have rx := Row.new w 27 n.cl.toArray
  obtain ⟨Wa, hWa⟩ : ∃ Wa, Wa = w.alloc (.cells n.cl.toArray 27) := ⟨_, rfl⟩
  rw [← hWa] at rx
  have HBa := Lib.hid (show Below w.heap.size w Wa by rw [hWa]; exact alloc_low _ _)
  have Rx := Lib.hid rx
  have HWa := Lib.hid hWa
  obtain ⟨M, hM⟩ : ∃ M, M = n.side := ⟨_, rfl⟩
  rw [← hM] at HLD HLds HRT
  obtain ⟨s, hs⟩ : ∃ s, s = laidM M low := ⟨_, rfl⟩
  rw [← hs] at HLD HLds
  obtain ⟨rb, hrb⟩ : ∃ rb, rb = rightB n := ⟨_, rfl⟩
  rw [← hrb] at HRT h
  obtain ⟨fb, hfb⟩ : ∃ fb, fb = decide (m ≤ 20) := ⟨_, rfl⟩
  have HFW := Lib.hid hfb.symm
  have hgt : fb = true → rb = true → (300 : Int) < (nT : Int) := fun e e2 => by
    rw [e] at hfb
    have := of_decide_eq_true hfb.symm
    rcases h with h | h | h
    · rw [e2] at h
      cases h
    · omega
    · omega
  clear hM hs hrb hf hws hl rx hWa h hfb
  cases rb with
  | false =>
    go_enter Try.func3, Try.ntmps3
    go_wp2_with (first
      | ((with_reducible refine show_loadN ?_); first
          | (rw [← HWa.out]; refine wpList_load_mid rfl _ _ rfl w.heap.size 0 rfl n.cl _ (ndR Rx.out) Try.underlying27 rfl ndI ?_)
          | (refine wpList_load_mid rfl _ _ rfl w.heap.size 0 rfl M.cl _ (ndR R2.out) Try.underlying27 rfl ndI ?_))
      | (go_at_call 4; refine (HRT.out _).mono ?_; rintro e w1 ⟨rfl, hb1⟩; have HB1 := Lib.hid hb1; have R1 := Lib.hid (Rx.out.below hb1 Rx.out.lt); clear hb1)
      | ((with_reducible refine show_storeN ?_); refine wpList_store_row rfl _ _ _ rfl w.heap.size M.cl rfl rfl R1.out rfl ndI (cl_one _) ?_; have r2 := row_setCells (vs := M.cl) R1.out rfl; have hb2 := setCells_low M.cl (Nat.le_refl _) (low_and HBa.out HB1.out); obtain ⟨W2, hW2⟩ : ∃ W2, W2 = w1.setCells w.heap.size 0 M.cl := ⟨_, rfl⟩; rw [← hW2] at r2 hb2 ⊢; have R2 := Lib.hid (show NdAt W2 w.heap.size M from r2); have HB2 := Lib.hid hb2; clear r2 hb2 hW2)
      | (go_at_call 5; refine (HLD.out _).mono ?_; rintro e w3 ⟨y, rfl, hm, hf, hb3⟩; have HM := Lib.hid hm; have HF := Lib.hid hf; have HB3 := Lib.hid hb3; clear hm hf hb3)
      | (go_at_call 7; refine (known11_any _).mono ?_; rintro e wk ⟨rfl, hbk⟩; have HBK := Lib.hid hbk; clear hbk))
    go_ret
    exact ⟨rfl, low_and (low_and HB2.out HB3.out) HBK.out⟩
  | true =>
    cases fb with
    | false =>
      go_enter Try.func3, Try.ntmps3
      go_wp2_with (first
        | ((with_reducible refine show_loadN ?_); first
            | (rw [← HWa.out]; refine wpList_load_mid rfl _ _ rfl w.heap.size 0 rfl n.cl _ (ndR Rx.out) Try.underlying27 rfl ndI ?_)
            | (refine wpList_load_mid rfl _ _ rfl w.heap.size 0 rfl M.cl _ (ndR R2.out) Try.underlying27 rfl ndI ?_))
        | (go_at_call 4; refine (HRT.out _).mono ?_; rintro e w1 ⟨rfl, hb1⟩; have HB1 := Lib.hid hb1; have R1 := Lib.hid (Rx.out.below hb1 Rx.out.lt); clear hb1)
        | ((with_reducible refine show_storeN ?_); refine wpList_store_row rfl _ _ _ rfl w.heap.size M.cl rfl rfl R1.out rfl ndI (cl_one _) ?_; have r2 := row_setCells (vs := M.cl) R1.out rfl; have hb2 := setCells_low M.cl (Nat.le_refl _) (low_and HBa.out HB1.out); obtain ⟨W2, hW2⟩ : ∃ W2, W2 = w1.setCells w.heap.size 0 M.cl := ⟨_, rfl⟩; rw [← hW2] at r2 hb2 ⊢; have R2 := Lib.hid (show NdAt W2 w.heap.size M from r2); have HB2 := Lib.hid hb2; clear r2 hb2 hW2)
        | (go_at_call 5; refine (HLD.out _).mono ?_; rintro e w3 ⟨y, rfl, hm, hf, hb3⟩; have HM := Lib.hid hm; have HF := Lib.hid hf; have HB3 := Lib.hid hb3; clear hm hf hb3)
        | (go_at_call 6; refine (few11_any A m cap _).mono ?_; rintro e w4 ⟨rfl, hb4⟩; rw [HFW.out]; have HB4 := Lib.hid hb4; clear hb4)
        | (go_at_call 7; refine (known11_any _).mono ?_; rintro e wk ⟨rfl, hbk⟩; have HBK := Lib.hid hbk; clear hbk))
      go_ret
      exact ⟨rfl, low_and (low_and (low_and HB2.out HB3.out) HB4.out) HBK.out⟩
    | true =>
      have hgt2 := hgt rfl rfl
      go_enter Try.func3, Try.ntmps3
      go_wp2_with (first
        | ((with_reducible refine show_loadN ?_); first
            | (rw [← HWa.out]; refine wpList_load_mid rfl _ _ rfl w.heap.size 0 rfl n.cl _ (ndR Rx.out) Try.underlying27 rfl ndI ?_)
            | (refine wpList_load_mid rfl _ _ rfl w.heap.size 0 rfl M.cl _ (ndR R2.out) Try.underlying27 rfl ndI ?_))
        | (go_at_call 4; refine (HRT.out _).mono ?_; rintro e w1 ⟨rfl, hb1⟩; have HB1 := Lib.hid hb1; have R1 := Lib.hid (Rx.out.below hb1 Rx.out.lt); clear hb1)
        | ((with_reducible refine show_storeN ?_); refine wpList_store_row rfl _ _ _ rfl w.heap.size M.cl rfl rfl R1.out rfl ndI (cl_one _) ?_; have r2 := row_setCells (vs := M.cl) R1.out rfl; have hb2 := setCells_low M.cl (Nat.le_refl _) (low_and HBa.out HB1.out); obtain ⟨W2, hW2⟩ : ∃ W2, W2 = w1.setCells w.heap.size 0 M.cl := ⟨_, rfl⟩; rw [← hW2] at r2 hb2 ⊢; have R2 := Lib.hid (show NdAt W2 w.heap.size M from r2); have HB2 := Lib.hid hb2; clear r2 hb2 hW2)
        | (go_at_call 5; refine (HLD.out _).mono ?_; rintro e w3 ⟨y, rfl, hm, hf, hb3⟩; have HM := Lib.hid hm; have HF := Lib.hid hf; have HB3 := Lib.hid hb3; clear hm hf hb3)
        | (go_at_call 6; refine (few11_any A m cap _).mono ?_; rintro e w4 ⟨rfl, hb4⟩; rw [HFW.out]; have HB4 := Lib.hid hb4; clear hb4)
        | (go_at_call 7; refine (known11_any _).mono ?_; rintro e wk ⟨rfl, hbk⟩; have HBK := Lib.hid hbk; clear hbk))
      go_ret
      exact ⟨rfl, low_and (low_and (low_and HB2.out HB3.out) HB4.out) HBK.out⟩
end Go.Proofs.Yteojhhfcfdkmdaa
