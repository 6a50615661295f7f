/- Texts of this claim, packed: LRead. -/
import Derived.Test.YtahojhaeebmpoaaGreatDoorPk45
import Derived.Test.YtahojhaeebmpoaaGreatDoorPk49
import Derived.Test.YtahojhaeebmpoaaGreatDoorPk37
/- The law SlabReads. -/
namespace Go.Proofs.YtahojhaeebmpoaaGreatDoor
open Go.RowKit Go.Sort
set_option linter.unusedVariables false
theorem slabReads_out {w : World} {A : Option Addr} {n cap f a : Nat} {c : Int} (h : 6 < n) (hn : n ≤ maxLen) (R : Rms w) : Calls Tryz.prog 3 #[.slice A n cap, .int .u8 (f : Int), wv a, .int .i64 c] w fun e w' => e = .returned (.bool true) ∧ Below w.heap.size w w' := by
  have HK := Lib.hid (known6_any w R)
  unfold wv
  have d1 : decide ((6 : Int) < (n : Int)) = true := by simp; omega
  clear h hn R
  go_enter Tryz.func3, Tryz.ntmps3
  go_wp2_with fail
  refine HK.out.mono ?_
  rintro e w2 ⟨rfl, hb⟩
  go_wp2
  go_ret
  exact ⟨rfl, hb⟩
set_option maxRecDepth 100000 in
set_option maxHeartbeats 3200000 in
theorem slabReads_in {w : World} {ga : Addr} {cap f a : Nat} {l : List (Nat × Nat)} {c : Int} (hA : HeadsAt w ga l) (h0 : 0 < l.length) (h6 : l.length ≤ 6) (hc : l.length ≤ cap) (hf256 : f < 256) (hf : ∀ p ∈ l, p.1 < 18446744073709551616 ∧ p.2 < 18446744073709551616) (R : Rms w) :
    Calls Tryz.prog 3 #[.slice (some ga) l.length cap, .int .u8 (f : Int), wv a, .int .i64 c] w fun e w' => e = .returned (.bool true) ∧ Below w.heap.size w w' := by
  have HI := Lib.hid (image_any hA (by omega) hc hf256 hf)
  have HO := Lib.hid fun (W : World) (gi cap : Nat) (hr : Sl W (some ⟨gi, 0, none⟩) ((imL l f).map bv)) (hb : Below w.heap.size w W) => slabOf_yes (w := W) (A := some ⟨gi, 0, none⟩) (cap := cap) (n := l.length) (imL_len l f) hr (imL_byte hf256) h0 (by omega) (R.below hb)
  have HR6 := Lib.hid fun (W : World) (gi cap : Nat) (hr : Sl W (some ⟨gi, 0, none⟩) ((imL l f).map bv)) => r6Of_yes (w := W) (a := ⟨gi, 0, none⟩) (cap := cap) (n := l.length) (imL_len l f) hr (imL_byte hf256) h0 (by omega)
  have HR := Lib.hid R
  have HLEN := Lib.hid (imL_len l f)
  obtain ⟨n, hn⟩ : ∃ n, n = l.length := ⟨_, rfl⟩
  rw [← hn] at HI HO HR6 HLEN h0 h6 hc ⊢
  have HN := Lib.hid hn
  have d1 : decide ((6 : Int) < (n : Int)) = false := by simp; omega
  clear hA hf hn R
  unfold wv
  obtain ⟨i0, hi, hz0, hz1, hz2⟩ := info_parts info5
  go_enter Tryz.func3, Tryz.ntmps3
  go_wp2_with fail
  refine HI.out.mono ?_
  rintro e w2 ⟨gi, rfl, hr, hb2, hgi⟩
  rw [← HN.out]
  have HB2 := Lib.hid hb2
  have HROW := Lib.hid hr
  clear hr hb2 HI
  go_wp2_with (at_builtin; refine wpList_append_lies _ rfl _ _ 26 rfl w2.heap.size 5 i0 (.int .u8 0) 1 1 Tryz.underlying26 hi hz0 hz1 hz2 rfl (by decide) (.slice none 0 0) 0 [] rfl (World.ownsRow_nil _ _ _ _) ⟨gi, 0, none⟩ (1024 * (n + 1)) (1024 * (n + 1)) ((imL l f).map bv) rfl ?ql ?qc1 ?qc2 ?qc3 ?qc4 ?qc5 (Nat.le_refl _) w2.heap.size rfl ?_)
  case ql => rw [List.length_map, HLEN.out, Nat.mul_one]
  case qc1 =>
    intro j u hu
    obtain ⟨g0, e0, q0⟩ := row_sl HROW.out j u hu
    cases e0
    exact q0
  case qc2 =>
    intro u hu
    obtain ⟨x, _, rfl⟩ := List.mem_map.1 hu
    rfl
  case qc3 => omega
  case qc4 => unfold maxLen; omega
  case qc5 => omega
  intro g7 cap7 w7 hown hgrow hsm hlt7
  have hsl7 : Sl w7 (some ⟨g7, 0, none⟩) ((imL l f).map bv) := by
    obtain ⟨A, cap, e1, _, _, hs, hx⟩ := own_sl hown
    cases e1
    exact hs
  have hb7 : Below w2.heap.size w2 w7 := ⟨hgrow.os, hgrow.tape, hgrow.output, hgrow.size, fun k hk => hgrow.block k hk (by intro e; cases e)⟩
  have HO7 := Lib.hid (HO.out w7 g7 cap7 hsl7 (Below.and HB2.out hb7))
  have HB7 := Lib.hid (Below.and HB2.out hb7)
  have HROW7 := Lib.hid (HROW.out.below hb7 HROW.out.lt)
  clear hown hgrow hsm hlt7 hsl7 hb7 HROW HO HB2
  go_wp2_with fail
  refine HO7.out.mono ?_
  rintro e w8 (⟨hok, y, rfl, hm, hfp, hb8⟩ | ⟨hno, rfl, hb8⟩)
  · have HB8 := Lib.hid (Below.and HB7.out hb8)
    have HROW8 := Lib.hid (HROW7.out.below hb8 HROW7.out.lt)
    have HM := Lib.hid hm
    have HOK := Lib.hid hok
    have HFP := Lib.hid (show ∀ k, y.fp k → w.heap.size ≤ k from fun k hk => Nat.le_trans HB7.out.size (hfp k hk))
    clear hok hm hfp hb8 HO7 HROW7
    have HRR := Lib.hid (HR6.out w8 gi (1024 * (n + 1)) (row_sl HROW8.out))
    clear HR6
    go_wp2_with fail
    refine HRR.out.mono ?_
    rintro e w9 (⟨_, gw, vc, vl, rfl, hW, hb9⟩ | ⟨hno, _, _⟩)
    · have HB9 := Lib.hid (Below.and HB8.out hb9)
      have hm9 := HM.out.below hb9
      have hI := ini_is (imL_byte (l := l) hf256) (by omega) HOK.out
      have hRS : RS w9 y := ⟨HR.out.below HB9.out, fun h => by
        have h1 := HFP.out _ h
        obtain ⟨tt, hR⟩ := HR.out
        have := heap_lt hR
        omega⟩
      have hL : (LK (imL l f) n).length ≤ 1000 := by have := LK_len (imL l f) n; omega
      have hL0 : ∀ p ∈ LK (imL l f) n, p.1 ≠ 0 := by
        intro p hp
        obtain ⟨q, k, _, _, _, rfl⟩ := LK_mem.1 hp
        have := adr_ge (q + 1) (hcW (imL l f) q) k
        show adr _ _ _ ≠ 0
        omega
      have hS := same6_any hm9 (hsK_ok _ _ _) (fsK_ok _ _ _) hRS hW hI hL hL0
      obtain ⟨hs, hhs⟩ : ∃ hs, hs = hsK (hcW (imL l f)) (hbW (imL l f)) n n := ⟨_, rfl⟩
      have hsl : hs.length = n := by rw [hhs, hsK_len]
      have hok : HsOk hs := by rw [hhs]; exact hsK_ok _ _ _
      rw [← hhs] at hm9 hI
      have HC := Lib.hid (fun (W : World) (hb : Below w9.heap.size w9 W) (h : ¬ (1 ≤ c ∧ c ≤ (n : Int))) => class_out (hm9.below hb) c (by rw [hsl]; exact h))
      have HIR := Lib.hid (fun (W : World) (hb : Below w9.heap.size w9 W) => r6Is_any (hW.below hb) (by omega) a)
      have HIS := Lib.hid (fun (W : World) (hb : Below w9.heap.size w9 W) => is_any (hm9.below hb) hok (hRS.below hb).1 a)
      have HAT := Lib.hid (hI.at_ a)
      have HRM := Lib.hid (fun (W : World) (hb : Below w9.heap.size w9 W) (h : ¬ (1 ≤ c ∧ c ≤ 3)) => room_arg (hm9.below hb) h)
      have HK := Lib.hid (fun (W : World) (hb : Below w9.heap.size w9 W) => known6_any W (hRS.below hb).1)
      have HS := Lib.hid hS
      clear hm9 hI hRS hL hL0 hS hhs hsl hok hW hb9 HRR HM HOK HFP HROW8 HR HB7 HB8
      unfold fpt wv jv at *
      go_wp2_with fail
      refine HS.out.mono ?_
      rintro e w10 ⟨rfl, hb10⟩
      have HB10 := Lib.hid hb10
      clear hb10 HS
      have FIN := Lib.hid (fun (W : World) (hb : Below w9.heap.size w9 W) => Below.and HB9.out hb)
      by_cases hlo : 1 ≤ c
      · have p1 : decide (1 ≤ c) = true := by simp; omega
        by_cases hhi : c ≤ (n : Int)
        · have p2 : decide (c ≤ (n : Int)) = true := by simp; omega
          go_wp2_with fail
          refine (HIR.out w10 HB10.out).mono ?_
          rintro e w11 ⟨rfl, rfl⟩
          go_wp2_with fail
          refine (HIS.out w10 HB10.out).mono ?_
          rintro e w12 ⟨⟨v, hv, rfl⟩, hb12⟩
          rw [HAT.out v hv]
          have HB12 := Lib.hid (Below.and HB10.out hb12)
          clear hv hb12
          unfold jv at *
          by_cases hc3 : c ≤ 3
          · have p3 : decide (c ≤ 3) = true := by simp; omega
            go_wp2_with fail
            refine (HK.out w12 HB12.out).mono ?_
            rintro e w13 ⟨rfl, hb13⟩
            have HB13 := Lib.hid (Below.and HB12.out hb13)
            clear hb13
            go_wp2
            go_ret
            exact ⟨rfl, FIN.out _ HB13.out⟩
          · have p3 : decide (c ≤ 3) = false := by simp; omega
            go_wp2_with fail
            refine (HRM.out w12 HB12.out (by omega)).mono ?_
            rintro e w13 ⟨rfl, rfl⟩
            go_wp2_with fail
            refine (HK.out w12 HB12.out).mono ?_
            rintro e w13 ⟨rfl, hb13⟩
            have HB13 := Lib.hid (Below.and HB12.out hb13)
            clear hb13
            go_wp2
            go_ret
            exact ⟨rfl, FIN.out _ HB13.out⟩
        · have p2 : decide (c ≤ (n : Int)) = false := by simp; omega
          go_wp2_with fail
          refine (HC.out w10 HB10.out (by omega)).mono ?_
          rintro e w11 ⟨rfl, rfl⟩
          go_wp2_with fail
          refine (HIR.out w10 HB10.out).mono ?_
          rintro e w11 ⟨rfl, rfl⟩
          go_wp2_with fail
          refine (HIS.out w10 HB10.out).mono ?_
          rintro e w12 ⟨⟨v, hv, rfl⟩, hb12⟩
          rw [HAT.out v hv]
          have HB12 := Lib.hid (Below.and HB10.out hb12)
          clear hv hb12
          unfold jv at *
          by_cases hc3 : c ≤ 3
          · have p3 : decide (c ≤ 3) = true := by simp; omega
            go_wp2_with fail
            refine (HK.out w12 HB12.out).mono ?_
            rintro e w13 ⟨rfl, hb13⟩
            have HB13 := Lib.hid (Below.and HB12.out hb13)
            clear hb13
            go_wp2
            go_ret
            exact ⟨rfl, FIN.out _ HB13.out⟩
          · have p3 : decide (c ≤ 3) = false := by simp; omega
            go_wp2_with fail
            refine (HRM.out w12 HB12.out (by omega)).mono ?_
            rintro e w13 ⟨rfl, rfl⟩
            go_wp2_with fail
            refine (HK.out w12 HB12.out).mono ?_
            rintro e w13 ⟨rfl, hb13⟩
            have HB13 := Lib.hid (Below.and HB12.out hb13)
            clear hb13
            go_wp2
            go_ret
            exact ⟨rfl, FIN.out _ HB13.out⟩
      · have p1 : decide (1 ≤ c) = false := by simp; omega
        go_wp2_with fail
        refine (HC.out w10 HB10.out (by omega)).mono ?_
        rintro e w11 ⟨rfl, rfl⟩
        go_wp2_with fail
        refine (HIR.out w10 HB10.out).mono ?_
        rintro e w11 ⟨rfl, rfl⟩
        go_wp2_with fail
        refine (HIS.out w10 HB10.out).mono ?_
        rintro e w12 ⟨⟨v, hv, rfl⟩, hb12⟩
        rw [HAT.out v hv]
        have HB12 := Lib.hid (Below.and HB10.out hb12)
        clear hv hb12
        unfold jv at *
        go_wp2_with fail
        refine (HRM.out w12 HB12.out (by omega)).mono ?_
        rintro e w13 ⟨rfl, rfl⟩
        go_wp2_with fail
        refine (HK.out w12 HB12.out).mono ?_
        rintro e w13 ⟨rfl, hb13⟩
        have HB13 := Lib.hid (Below.and HB12.out hb13)
        clear hb13
        go_wp2
        go_ret
        exact ⟨rfl, FIN.out _ HB13.out⟩
    · exact absurd HOK.out hno
  · have HB8 := Lib.hid (Below.and HB7.out hb8)
    have HROW8 := Lib.hid (HROW7.out.below hb8 HROW7.out.lt)
    have HNO := Lib.hid hno
    clear hno hb8 HO7 HROW7
    have HRR := Lib.hid (HR6.out w8 gi (1024 * (n + 1)) (row_sl HROW8.out))
    clear HR6
    go_wp2_with fail
    refine HRR.out.mono ?_
    rintro e w9 (⟨hok, _⟩ | ⟨_, rfl, hb9⟩)
    · exact absurd hok HNO.out
    · have HB9 := Lib.hid (Below.and HB8.out hb9)
      have HK := Lib.hid (known6_any w9 (HR.out.below HB9.out))
      clear hb9 HRR
      go_wp2_with fail
      refine HK.out.mono ?_
      rintro e w10 ⟨rfl, hb10⟩
      have HB10 := Lib.hid (Below.and HB9.out hb10)
      clear hb10
      go_wp2
      go_ret
      exact ⟨rfl, HB10.out⟩
set_option maxRecDepth 100000 in
set_option maxHeartbeats 3200000 in
theorem slabReads_none {w : World} {A : Option Addr} {cap f a : Nat} {c : Int} (hf256 : f < 256) (R : Rms w) :
    Calls Tryz.prog 3 #[.slice A 0 cap, .int .u8 (f : Int), wv a, .int .i64 c] w fun e w' => e = .returned (.bool true) ∧ Below w.heap.size w w' := by
  have HI := Lib.hid (image_none (w := w) (A := A) (cap := cap) hf256)
  have HO := Lib.hid fun (W : World) (gi cap : Nat) => slabOf_size (w := W) (A := some ⟨gi, 0, none⟩) (cap := cap) (n := 1024) (by omega) (by omega)
  have HR6 := Lib.hid fun (W : World) (gi cap : Nat) => r6Of_size (w := W) (A := some ⟨gi, 0, none⟩) (cap := cap)
  have HR := Lib.hid R
  have HLEN := Lib.hid (imL_len [] f)
  clear R
  unfold wv
  obtain ⟨i0, hi, hz0, hz1, hz2⟩ := info_parts info5
  go_enter Tryz.func3, Tryz.ntmps3
  go_wp2_with fail
  refine HI.out.mono ?_
  rintro e w2 ⟨gi, rfl, hr, hb2, hgi⟩
  have HB2 := Lib.hid hb2
  have HROW := Lib.hid hr
  clear hr hb2 HI
  rw [show 1024 * (([] : List (Nat × Nat)).length + 1) = 1024 from rfl]
  go_wp2_with (at_builtin; refine wpList_append_lies _ rfl _ _ 26 rfl w2.heap.size 5 i0 (.int .u8 0) 1 1 Tryz.underlying26 hi hz0 hz1 hz2 rfl (by decide) (.slice none 0 0) 0 [] rfl (World.ownsRow_nil _ _ _ _) ⟨gi, 0, none⟩ 1024 1024 ((imL [] f).map bv) rfl ?ql ?qc1 ?qc2 ?qc3 ?qc4 ?qc5 (Nat.le_refl _) w2.heap.size rfl ?_)
  case ql => rw [List.length_map, HLEN.out]; rfl
  case qc1 =>
    intro j u hu
    obtain ⟨g0, e0, q0⟩ := row_sl HROW.out j u hu
    cases e0
    exact q0
  case qc2 =>
    intro u hu
    obtain ⟨x, _, rfl⟩ := List.mem_map.1 hu
    rfl
  case qc3 => omega
  case qc4 => unfold maxLen; omega
  case qc5 => omega
  intro g7 cap7 w7 hown hgrow hsm hlt7
  have hb7 : Below w2.heap.size w2 w7 := ⟨hgrow.os, hgrow.tape, hgrow.output, hgrow.size, fun k hk => hgrow.block k hk (by intro e; cases e)⟩
  have HB7 := Lib.hid (Below.and HB2.out hb7)
  have HO7 := Lib.hid (HO.out w7 g7 cap7)
  have HR7 := Lib.hid (HR6.out w7 gi 1024)
  have HK := Lib.hid (known6_any w7 (HR.out.below HB7.out))
  clear hown hgrow hsm hlt7 hb7 HROW HO HB2 HR6
  go_wp2_with fail
  refine HO7.out.mono ?_
  rintro e w8 ⟨rfl, rfl⟩
  go_wp2_with fail
  refine HR7.out.mono ?_
  rintro e w8 ⟨rfl, rfl⟩
  go_wp2_with fail
  refine HK.out.mono ?_
  rintro e w10 ⟨rfl, hb10⟩
  have HB10 := Lib.hid (Below.and HB7.out hb10)
  clear hb10
  go_wp2
  go_ret
  exact ⟨rfl, HB10.out⟩
/-- Of any heads in memory, any filling, any address, any slab's number. -/
theorem slabReads_any {w : World} {A : Option Addr} {cap f a : Nat} {l : List (Nat × Nat)} {c : Int} (hA : ∀ (_ : 0 < l.length), ∃ ga, A = some ga ∧ HeadsAt w ga l) (hn : l.length ≤ maxLen) (hc : l.length ≤ cap) (hf256 : f < 256) (hf : ∀ p ∈ l, p.1 < 18446744073709551616 ∧ p.2 < 18446744073709551616) (R : Rms w) :
    Calls Tryz.prog 3 #[.slice A l.length cap, .int .u8 (f : Int), wv a, .int .i64 c] w fun e w' => e = .returned (.bool true) ∧ Below w.heap.size w w' := by
  by_cases h : 6 < l.length
  · exact slabReads_out h hn R
  · by_cases h0 : 0 < l.length
    · obtain ⟨g, rfl, hg⟩ := hA h0
      exact slabReads_in hg h0 (by omega) hc hf256 hf R
    · rw [show l.length = 0 by omega]
      exact slabReads_none hf256 R
end Go.Proofs.YtahojhaeebmpoaaGreatDoor
