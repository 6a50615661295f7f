/- The law SlabRoom. -/
import Derived.Test.YthibbcokpmckfaaGreatDoorLRsv
import Derived.Test.YthibbcokpmckfaaGreatDoorFew6
import Derived.Test.YthibbcokpmckfaaGreatDoorZ36
namespace Go.Proofs.YthibbcokpmckfaaGreatDoor
open Go.RowKit Go.Sort
set_option linter.unusedVariables false
theorem slabRoom_out {w : World} {A : Option Addr} {n cap : Nat} {c : Int} (h : ¬ (1 ≤ n ∧ n ≤ 4)) (hn : n ≤ maxLen) (R : Rms w) : Calls Tryz.prog 7 #[.slice A n cap, .int .i64 c] w fun e w' => e = .returned (.bool true) ∧ Below w.heap.size w w' := by
  have HF := Lib.hid (few_no (w := w) (A := A) (A2 := none) (n := n) (cap := cap) (m := 0) (cap2 := 0) (k := 0) (fun h2 => h ⟨h2.1, h2.2.1⟩) hn (by decide))
  have HK := Lib.hid (known6_any w R)
  clear h hn R
  go_enter Tryz.func7, Tryz.ntmps7
  go_wp2_with fail
  refine HF.out.mono ?_
  rintro e w1 ⟨rfl, rfl⟩
  go_wp2_with fail
  refine HK.out.mono ?_
  rintro e w2 ⟨rfl, hb⟩
  go_wp2
  go_ret
  exact ⟨rfl, hb⟩
/-- The law's loop: what lies in memory when i blocks were reserved. -/
structure RmAt (W wr : World) (gs c N n0 : Nat) (i : Nat) (v : Value) (y : SLay) (hs : List Hd) (fs : Nat → List Nat) (gl : List Nat) : Prop where
  mem : SlabMem wr y hs fs
  ok : HsOk hs
  fo : FsOk hs fs
  rs : RS wr y
  gse : y.gs = gs
  len : hs.length = N
  room : i + roomS hs fs c N = n0
  got : wr.ownsRow W.heap.size 24 1 v i (gl.map wv)
  far : ∀ k, v.ownBlock = some k → ¬ y.fp k
  rsv : ∀ a, a ∈ gl → Rsv hs a
  low : Below W.heap.size W wr
  fpb : ∀ k, y.fp k → W.heap.size ≤ k
set_option maxRecDepth 100000 in
set_option maxHeartbeats 3200000 in
theorem slabRoom_in {w : World} {ga : Addr} {cap : Nat} {l : List (Nat × Nat)} {c : Nat} (hA : HeadsAt w ga l) (h0 : 0 < l.length) (h4 : l.length ≤ 4) (hc : l.length ≤ cap) (hf : ∀ p ∈ l, p.1 < 18446744073709551616 ∧ p.2 < 18446744073709551616) (R : Rms w) (hc1 : 1 ≤ c) (hc3 : c ≤ 3) :
    Calls Tryz.prog 7 #[.slice (some ga) l.length cap, .int .i64 (c : Int)] w fun e w' => e = .returned (.bool true) ∧ Below w.heap.size w w' := by
  have HF := Lib.hid (few_any (w := w) (A2 := none) (m := 0) (cap2 := 0) (k := 0) hA h0 h4 hc (by decide) hf)
  have HI := Lib.hid fun (W : World) (hb : Below w.heap.size w W) => image_any (f := 0) (hA.below hb) (by omega) hc (by decide) hf
  have HO := Lib.hid fun (W : World) (gi : Nat) (hr : Row W gi 5 ((imL l 0).map bv).toArray) (hb : Below w.heap.size w W) => slabOf_yes (w := W) (A := some ⟨gi, 0, none⟩) (cap := 1024 * (l.length + 1)) (n := l.length) (imL_len l 0) (row_sl hr) (imL_byte (by decide)) h0 (by omega) (R.below hb)
  have HR := Lib.hid R
  obtain ⟨n, hn⟩ : ∃ n, n = l.length := ⟨_, rfl⟩
  rw [← hn] at HF HI HO h0 h4 hc ⊢
  have HN := Lib.hid hn
  have d1 : decide ((c : Int) < 1) = false := by simp; omega
  have d2 : decide (3 < (c : Int)) = false := by simp; omega
  clear hA hf hn R
  go_enter Tryz.func7, Tryz.ntmps7
  go_wp2_with fail
  refine HF.out.mono ?_
  rintro e w1 ⟨⟨b, rfl, hbk⟩, hb1⟩
  have HB1 := Lib.hid hb1
  have HBK := Lib.hid hbk
  clear hb1 hbk HF
  cases b with
  | false =>
    go_wp2_with fail
    refine (known6_any w1 (HR.out.below HB1.out)).mono ?_
    rintro e w2 ⟨rfl, hb⟩
    have HB2 := Lib.hid (Below.and HB1.out hb)
    clear hb
    go_wp2
    go_ret
    exact ⟨rfl, HB2.out⟩
  | true =>
    have HOK := Lib.hid (HBK.out.1 rfl)
    go_wp2_with fail
    refine (HI.out w1 HB1.out).mono ?_
    rintro e w2 ⟨gi, rfl, hr, hb2, _⟩
    rw [← HN.out]
    have HB2 := Lib.hid (Below.and HB1.out hb2)
    have HO2 := Lib.hid (HO.out w2 gi hr HB2.out)
    clear hr hb2 HB1 HO HI
    go_wp2_with fail
    refine HO2.out.mono ?_
    rintro e w3 (⟨_, y, rfl, hm, hfp, hb3⟩ | ⟨hno, _⟩)
    · have HB3 := Lib.hid (Below.and HB2.out hb3)
      have HM := Lib.hid hm
      have HRS := Lib.hid (show RS w3 y from ⟨HR.out.below HB3.out, fun h => by
        have h1 := hfp _ h
        obtain ⟨tt, hR⟩ := HR.out.below HB2.out
        have := heap_lt hR
        omega⟩)
      have HFP := Lib.hid hfp
      clear hm hfp hb3 HO2
      have hrm := room_any HM.out HRS.out hc1 hc3
      have hbd := room_bound (hcW (imL l 0)) (hbW (imL l 0)) n c hc1 n (Nat.le_refl _)
      have hb15 := Nat.mul_le_mul (blN_le c) (Nat.le_refl n)
      rw [hsK_len] at hrm
      obtain ⟨n0, hn0⟩ : ∃ n0, n0 = roomS (hsK (hcW (imL l 0)) (hbW (imL l 0)) n n) (fsK (hcW (imL l 0)) (hbW (imL l 0)) n) c n := ⟨_, rfl⟩
      rw [← hn0] at hrm
      have hn60 : n0 ≤ 60 := by rw [hn0]; unfold roomS; omega
      have HRM := Lib.hid hrm
      obtain ⟨gs, hgs⟩ : ∃ gs, gs = y.gs := ⟨_, rfl⟩
      rw [← hgs] at HRM ⊢
      have HGS := Lib.hid hgs
      have HN0 := Lib.hid hn0
      unfold fpt jv at HRM
      unfold fpt
      clear hrm hbd hb15 hgs hn0
      go_wp2_with fail
      refine HRM.out.mono ?_
      rintro e w4 ⟨rfl, hg4⟩
      have HST := Lib.hid (show RmAt w w4 gs c n n0 0 (.slice none 0 0) y (hsK (hcW (imL l 0)) (hbW (imL l 0)) n n) (fsK (hcW (imL l 0)) (hbW (imL l 0)) n) [] from
        { mem := HM.out.below hg4.all, ok := hsK_ok _ _ _, fo := fsK_ok _ _ _, rs := HRS.out.below hg4.all, gse := HGS.out.symm, len := hsK_len _ _ _ _, room := by rw [Nat.zero_add]; exact HN0.out.symm, got := World.ownsRow_nil _ _ _ _, far := (fun k hk => by cases hk), rsv := (fun a ha => by cases ha), low := Below.and HB3.out hg4.all, fpb := fun k hk => Nat.le_trans HB2.out.size (HFP.out k hk) })
      have HB4 := Lib.hid (Below.and HB3.out hg4.all)
      clear hg4 HRM HM HRS HB3 HFP HN0
      obtain ⟨i0, hi, hz0, hz1, hz2⟩ := info_parts infoA
      go_wp2
      go_loopw [8, 9] (fun u v wr => ∃ i y hs fs gl, i ≤ n0 ∧ v = .int .i64 (i : Int) ∧ RmAt w wr gs c n n0 i u y hs fs gl) (fun _ v _ => n0 - (intOf v).toNat)
      case atStart => exact ⟨0, _, _, _, _, Nat.zero_le _, rfl, HST.out⟩
      case round =>
        obtain ⟨i, y, hs, fs, gl, hin, rfl, hrm⟩ := hrel
        rename World => wr
        clear HST HB4 HB2 HOK HBK
        have hok := hrm.ok
        have hlen := hrm.len
        have hres := reserve_any hrm.mem hrm.ok hrm.fo hrm.rs hc1 hc3
        rw [hrm.gse] at hres
        unfold fpt jv at hres
        have HRES := Lib.hid hres
        obtain ⟨A, cu, rfl, _, _, _, _⟩ := own_sl hrm.got
        have HRM := Lib.hid hrm
        clear hrm hres
        by_cases hlt : i < n0
        · have e1 : decide ((i : Int) < (n0 : Int)) = true := by simp; omega
          have e2 : decide ((i : Int) < 100) = true := by simp; omega
          go_wp2_with fail
          refine HRES.out.mono ?_
          rintro e w5 ⟨hs1, hs', y', fs', hcl, htk, hm', ok', fo', ht⟩
          have hlen1 : hs1.length = hs.length := by
            rcases hcl with ⟨_, rfl⟩ | ⟨_, ⟨_, _, _, _, rfl⟩ | ⟨_, rfl⟩⟩ <;> simp
          have hrt := room_took hok (by omega) HRM.out.fo hc1 hc3 hcl htk fo'
          rw [hlen] at hrt
          obtain ⟨hl', ⟨⟨p, j, x, hx, hxc, hj, rfl, rfl⟩, hroom⟩ | ⟨_, _, h0'⟩⟩ := hrt
          · have ok1 : HsOk hs1 := by
              rcases hcl with ⟨_, rfl⟩ | ⟨_, ⟨_, _, _, hx0, rfl⟩ | ⟨_, rfl⟩⟩
              · exact hok
              · exact hok.claim hx0
              · exact hok
            have hrs := rsv_took ok1 (by omega) hx hxc hj
            obtain ⟨ad, had⟩ : ∃ ad, ad = adr x.no c j := ⟨_, rfl⟩
            rw [← had] at hrs ⊢
            have hgl : ∀ a, a ∈ gl → Rsv (hs1.set p { x with bl := x.bl.set j 1 }) a ∧ a ≠ ad := fun a ha => hrs.1 a (rsv_claim hok hcl (HRM.out.rsv a ha))
            obtain ⟨hs2, hs2e⟩ : ∃ z, z = hs1.set p { x with bl := x.bl.set j 1 } := ⟨_, rfl⟩
            rw [← hs2e] at hrs hgl hm' ok' fo' hroom hl'
            have hgot := own_block HRM.out.got (w' := w5) fun k hk => ht.but.block k (by obtain ⟨_, _, h⟩ := own_tag HRM.out.got hk; exact heap_lt h) (HRM.out.far k hk)
            have hfar : ∀ k, (Value.slice A i cu).ownBlock = some k → ¬ y'.fp k := fun k hk h => by
              rcases ht.fp k h with h1 | h1
              · exact HRM.out.far k hk h1
              · obtain ⟨_, _, h2⟩ := own_tag HRM.out.got hk
                have := heap_lt h2
                omega
            have hfpb : ∀ k, y'.fp k → w.heap.size ≤ k := fun k hk => by
              rcases ht.fp k hk with h1 | h1
              · exact HRM.out.fpb k h1
              · exact Nat.le_trans HRM.out.low.size h1
            have hlow : Below w.heap.size w w5 := HRM.out.low.trans (ht.but.below HRM.out.low.size HRM.out.fpb)
            have hgs' : y'.gs = gs := ht.gs.trans HRM.out.gse
            have his := is_any hm' ok' (HRM.out.rs.turn ht).1 ad
            rw [hgs'] at his
            unfold fpt wv at his
            have HIS := Lib.hid his
            have HRS2 := Lib.hid (HRM.out.rs.turn ht)
            have HM2 := Lib.hid hm'
            have HOK2 := Lib.hid ok'
            have HFO2 := Lib.hid fo'
            have HRV := Lib.hid hrs.2
            have HGL := Lib.hid hgl
            have HGOT := Lib.hid hgot
            have HFAR := Lib.hid hfar
            have HFPB := Lib.hid hfpb
            have HLOW := Lib.hid hlow
            have HGS2 := Lib.hid hgs'
            have HROOM := Lib.hid hroom
            have HL2 := Lib.hid hl'
            clear hcl htk hm' ok' fo' ht hx hxc hj hrs hgl hgot hfar hfpb hlow hgs' his hs2e had hroom hl' ok1 hlen1 HRES hok
            unfold wv
            go_wp2_with fail
            refine HIS.out.mono ?_
            rintro e w6 ⟨⟨v, hv, rfl⟩, hb6⟩
            have hv1 := isAt_rsv HOK2.out (by rw [HL2.out]; omega) hv HRV.out
            subst hv1
            have HB6 := Lib.hid hb6
            have HGOT6 := Lib.hid (own_low (C := 0) HGOT.out hb6)
            clear hv hb6 HIS HGOT
            rw [show jv 1 = Value.int .i64 1 from rfl]
            have hcell : ∀ k, k < i → ∃ gg, A = some ⟨gg, 0, none⟩ ∧ ∃ a : Nat, a ≠ ad ∧ w6.cell? ⟨gg, k, none⟩ = some (.int .u64 (a : Int)) := fun k hk => by
              have hlg : gl.length = i := by have := HGOT6.out.1; simpa using this
              rcases HGOT6.out.2 with ⟨h0, _⟩ | ⟨gg, cap', cur, h0, _⟩
              · cases h0; omega
              · cases h0
                have hca := HGOT6.out.cellAt k (by omega)
                rw [List.getElem?_map, List.getElem?_eq_getElem (by omega)] at hca
                exact ⟨gg, rfl, gl[k], (HGL.out _ (List.getElem_mem _)).2, hca⟩
            have HCELL := Lib.hid hcell
            clear hcell
            go_wp2
            go_loop [12] (fun v => ∃ k : Nat, k ≤ i ∧ v = .int .i64 (k : Int)) (fun v => i - (intOf v).toNat)
            case atStart => exact ⟨0, Nat.zero_le _, rfl⟩
            case round =>
              obtain ⟨k, hk, rfl⟩ := hrel
              by_cases hki : k < i
              · obtain ⟨gg, rfl, a, hne, hca⟩ := HCELL.out k hki
                have hz : ((a : Int) == (ad : Int)) = false := by rw [Bool.eq_false_iff]; intro e; have := beq_iff_eq.1 e; omega
                have e3 : (k : Int) < (i : Int) := by omega
                clear hne
                go_wp2
                go_round
                case rel => exact ⟨k + 1, by omega, by go_num⟩
                case measure => simp [intOf]; omega
              · obtain rfl : k = i := by omega
                go_wp2_with (at_builtin; refine wpList_append_lies _ rfl _ _ 60 rfl w.heap.size 24 i0 (.int .u64 0) 1 8 Tryz.underlying60 hi hz0 hz1 hz2 rfl (by decide) _ _ _ rfl (own_low (C := 0) HGOT6.out (alloc_below _ _)) ⟨w6.heap.size, 0, none⟩ 1 1 [wv ad] rfl rfl ?qc1 ?qc2 (by decide) ?qc3 ?qc4 ?qc5 (w6.heap.size + 1) ?qc6 ?_)
                case qc1 => exact fun j u h => h
                case qc2 => exact rfl
                case qc3 => unfold maxLen; omega
                case qc4 => omega
                case qc5 => have := HLOW.out.size; have := HB6.out.size; simp; omega
                intro gg cap7 w7 hown hgrow hsm hlt7
                have hal : Below w6.heap.size w6 (w6.alloc (.cells #[.int .u64 (ad : Int)] 24)) := alloc_below _ _
                have hbut : But w5 w7 (fun q => (Value.slice A k cu).ownBlock = some q) := by
                  have h1 := Below.and HB6.out hal
                  refine ⟨hgrow.os.trans h1.os, hgrow.tape.trans h1.tape, hgrow.output.trans h1.output, Nat.le_trans h1.size hgrow.size, fun q hq hn => ?_⟩
                  rw [hgrow.block q (Nat.lt_of_lt_of_le hq h1.size) (fun e => hn e.symm), h1.block q hq]
                have HNX := Lib.hid (show RmAt w w7 gs c n n0 (k + 1) (.slice (some ⟨gg, 0, none⟩) (k + 1) cap7) y' hs2 fs' (gl ++ [ad]) from
                  { mem := HM2.out.keep hbut (fun q hq e => HFAR.out q e hq)
                    ok := HOK2.out
                    fo := HFO2.out
                    rs := ⟨HRS2.out.1.but hbut (fun e => by
                      have := own_base HGOT6.out e
                      obtain ⟨tt, hR⟩ := HR.out
                      have := heap_lt hR
                      omega), HRS2.out.2⟩
                    gse := HGS2.out
                    len := HL2.out
                    room := by have := HRM.out.room; have := HROOM.out; omega
                    got := by rw [List.map_append]; exact hown
                    far := (fun q hq hf => by
                      have hq2 : gg = q := by simpa [Value.ownBlock] using hq
                      subst hq2
                      rcases hsm with e | e
                      · exact HFAR.out gg e hf
                      · have := HM2.out.lt hf
                        have := HB6.out.size
                        omega)
                    rsv := (fun a ha => by
                      rcases List.mem_append.1 ha with h | h
                      · exact (HGL.out a h).1
                      · rw [List.mem_singleton.1 h]; exact HRV.out)
                    low := hbut.below HLOW.out.size (fun q hq => own_base HGOT6.out hq) |> HLOW.out.trans
                    fpb := HFPB.out })
                clear hown hgrow hsm hlt7 hal hbut
                go_wp2
                go_roundw
                case rel => exact ⟨k + 1, _, _, _, _, by omega, by go_num, HNX.out⟩
                case measure => simp [intOf]; omega
          · have := HRM.out.room
            omega
        · obtain rfl : i = n0 := by omega
          have e1 : decide ((i : Int) < (i : Int)) = false := by simp
          go_wp2_with fail
          refine HRES.out.mono ?_
          rintro e w5 ⟨hs1, hs', y', fs', hcl, htk, hm', ok', fo', ht⟩
          have hrt := room_took hok (by omega) HRM.out.fo hc1 hc3 hcl htk fo'
          rw [hlen] at hrt
          obtain ⟨hl', ⟨_, hroom⟩ | ⟨rfl, rfl, h0'⟩⟩ := hrt
          · have := HRM.out.room
            omega
          · have hgs' : y'.gs = gs := ht.gs.trans HRM.out.gse
            have hr2 := room_any hm' (HRM.out.rs.turn ht) hc1 hc3
            have hz : roomS hs' fs' c hs'.length = 0 := by
              have := same_len fo' HRM.out.fo c
              unfold roomS at h0' ⊢
              rw [this, hlen]
              exact h0'
            rw [hz, hgs'] at hr2
            rw [show jv 0 = Value.int .i64 0 from rfl] at hr2
            unfold fpt jv at hr2
            have HR2 := Lib.hid hr2
            have HLOW := Lib.hid (show Below w.heap.size w w5 from HRM.out.low.trans (ht.but.below HRM.out.low.size HRM.out.fpb))
            have HRS2 := Lib.hid (HRM.out.rs.turn ht)
            clear hcl htk hm' ok' fo' ht hgs' hr2 hz h0' hl' HRES hok
            go_wp2_with fail
            refine HR2.out.mono ?_
            rintro e w6 ⟨rfl, hg6⟩
            have HK := Lib.hid (known6_any w6 (HRS2.out.1.gr hg6))
            have HB6 := Lib.hid (Below.and HLOW.out hg6.all)
            clear hg6
            go_wp2_with fail
            refine HK.out.mono ?_
            rintro e w7 ⟨rfl, hb7⟩
            have HB7 := Lib.hid (Below.and HB6.out hb7)
            clear hb7
            go_wp2
            go_ret
            exact ⟨rfl, HB7.out⟩
    · exact absurd HOK.out hno
set_option maxHeartbeats 800000 in
theorem slabRoom_arg {w : World} {ga : Addr} {cap : Nat} {l : List (Nat × Nat)} {c : Int} (hA : HeadsAt w ga l) (h0 : 0 < l.length) (h4 : l.length ≤ 4) (hc : l.length ≤ cap) (hf : ∀ p ∈ l, p.1 < 18446744073709551616 ∧ p.2 < 18446744073709551616) (R : Rms w) (hno : ¬ (1 ≤ c ∧ c ≤ 3)) :
    Calls Tryz.prog 7 #[.slice (some ga) l.length cap, .int .i64 c] w fun e w' => e = .returned (.bool true) ∧ Below w.heap.size w w' := by
  have HF := Lib.hid (few_any (w := w) (A2 := none) (m := 0) (cap2 := 0) (k := 0) hA h0 h4 hc (by decide) hf)
  have HK := Lib.hid fun (W : World) (hb : Below w.heap.size w W) => known6_any W (R.below hb)
  obtain ⟨n, hn⟩ : ∃ n, n = l.length := ⟨_, rfl⟩
  rw [← hn] at HF ⊢
  clear hA hf R hn h0 h4 hc
  by_cases h1 : c < 1
  · have d1 : decide (c < 1) = true := decide_eq_true h1
    go_enter Tryz.func7, Tryz.ntmps7
    go_wp2_with fail
    refine HF.out.mono ?_
    rintro e w1 ⟨⟨b, rfl, _⟩, hb1⟩
    have HB1 := Lib.hid hb1
    have HK1 := Lib.hid (HK.out w1 hb1)
    clear hb1
    cases b <;> (go_wp2_with fail; refine HK1.out.mono ?_; rintro e w2 ⟨rfl, hb⟩; have HB2 := Lib.hid (Below.and HB1.out hb); clear hb; go_wp2; go_ret; exact ⟨rfl, HB2.out⟩)
  · have d1 : decide (c < 1) = false := decide_eq_false h1
    have d2 : decide (3 < c) = true := decide_eq_true (by omega)
    go_enter Tryz.func7, Tryz.ntmps7
    go_wp2_with fail
    refine HF.out.mono ?_
    rintro e w1 ⟨⟨b, rfl, _⟩, hb1⟩
    have HB1 := Lib.hid hb1
    have HK1 := Lib.hid (HK.out w1 hb1)
    clear hb1
    cases b <;> (go_wp2_with fail; refine HK1.out.mono ?_; rintro e w2 ⟨rfl, hb⟩; have HB2 := Lib.hid (Below.and HB1.out hb); clear hb; go_wp2; go_ret; exact ⟨rfl, HB2.out⟩)
/-- Of any heads in memory, and any class. -/
theorem slabRoom_any {w : World} {A : Option Addr} {cap : Nat} {l : List (Nat × Nat)} {c : Int} (hA : ∀ (_ : 0 < l.length), ∃ ga, A = some ga ∧ HeadsAt w ga l) (hn : l.length ≤ maxLen) (hc : l.length ≤ cap) (hf : ∀ p ∈ l, p.1 < 18446744073709551616 ∧ p.2 < 18446744073709551616) (R : Rms w) :
    Calls Tryz.prog 7 #[.slice A l.length cap, .int .i64 c] w fun e w' => e = .returned (.bool true) ∧ Below w.heap.size w w' := by
  by_cases h : 1 ≤ l.length ∧ l.length ≤ 4
  · obtain ⟨g, rfl, hg⟩ := hA (by omega)
    by_cases h1 : 1 ≤ c ∧ c ≤ 3
    · obtain ⟨d, rfl⟩ : ∃ d : Nat, c = (d : Int) := ⟨c.toNat, by omega⟩
      exact slabRoom_in hg (by omega) h.2 hc hf R (by omega) (by omega)
    · exact slabRoom_arg hg (by omega) h.2 hc hf R h1
  · exact slabRoom_out h hn R
end Go.Proofs.YthibbcokpmckfaaGreatDoor
