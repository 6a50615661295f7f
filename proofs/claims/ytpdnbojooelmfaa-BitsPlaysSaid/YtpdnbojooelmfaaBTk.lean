/- BitsTakes returns true, whatever the addresses: the walk of its body. -/
import Derived.Test.YtpdnbojooelmfaaHRd
import Derived.Test.YtpdnbojooelmfaaBKnown
import Derived.Test.YtpdnbojooelmfaaLow
namespace Go.Proofs.Ytpdnbojooelmfaa
open Go.RowKit
set_option linter.unusedVariables false
/-- A set that is new since w0, and a list apart from it. -/
structure TK (w0 w : World) (g : Nat) (v : Value) (s : List Nat) (vw : Value) (W : List Nat) : Prop where
  set : SetAt w g s v
  fpn : ∀ k, ffp g v k → w0.heap.size ≤ k
  want : Adr w vw W
  sep : ∀ k, vw.ownBlock = some k → ¬ ffp g v k
  bel : Below w0.heap.size w0 w
theorem TK.step {w0 w w' : World} {g : Nat} {v vw : Value} {s s' W : List Nat} (h : TK w0 w g v s vw W) (hl : LeftSet w g v s' w') : ∃ v', TK w0 w' g v' s' vw W := by
  obtain ⟨v', hs, hb, hf⟩ := hl
  have hn : ∀ k, ffp g v' k → ffp g v k ∨ w.heap.size ≤ k := by
    rintro k (rfl | hk)
    · exact .inl (.inl rfl)
    · exact (hf k hk).imp .inr id
  refine ⟨v', hs, fun k hk => ?_, h.want.keep hb h.sep, fun k hk hk2 => ?_, Below.trans h.bel (hb.below h.bel.size h.fpn)⟩
  · rcases hn k hk with h1 | h1
    · exact h.fpn k h1
    · exact Nat.le_trans h.bel.size h1
  · rcases hn k hk2 with h1 | h1
    · exact h.sep k hk h1
    · have := h.want.lt hk
      omega
theorem TK.below {w0 w w' : World} {g : Nat} {v vw : Value} {s W : List Nat} (h : TK w0 w g v s vw W) (hb : Below w.heap.size w w') : TK w0 w' g v s vw W :=
  ⟨h.set.below hb, h.fpn, h.want.below hb, h.sep, Below.and h.bel hb⟩
theorem tk_nil (w : World) : Adr w (.slice none 0 0) [] := .inl ⟨rfl, rfl⟩
theorem lt_of_le_nodup {l : List Nat} (h : l.Pairwise (· ≤ ·)) (hn : l.Nodup) : l.Pairwise (· < ·) := by
  rw [List.nodup_iff_pairwise_ne] at hn
  exact (h.and hn).imp fun ⟨a, b⟩ => by omega
theorem drop_erase {W : List Nat} {i : Nat} (hi : i < W.length) : (W.drop i).erase (gd W i) = W.drop (i + 1) := by
  have hg : gd W i = W[i] := by simp [gd, hi]
  rw [hg, List.drop_eq_getElem_cons hi, List.erase_cons_head]
theorem drop_min {W : List Nat} (hW : W.Pairwise (· < ·)) {i : Nat} (hi : i < W.length) : gd W i ∈ W.drop i ∧ (∀ x ∈ W.drop i, gd W i ≤ x) ∧ gd W i ∉ W.drop (i + 1) := by
  have h1 := hW.sublist (List.drop_sublist i W)
  rw [List.drop_eq_getElem_cons hi] at h1
  have hg : gd W i = W[i] := by simp [gd, hi]
  rw [hg]
  obtain ⟨h2, h3⟩ := List.pairwise_cons.1 h1
  refine ⟨by rw [List.drop_eq_getElem_cons hi]; exact List.mem_cons_self, fun x hx => ?_, fun hm => absurd (h2 _ hm) (Nat.lt_irrefl _)⟩
  rw [List.drop_eq_getElem_cons hi] at hx
  rcases List.mem_cons.1 hx with rfl | hx
  · exact Nat.le_refl _
  · exact Nat.le_of_lt (h2 x hx)
theorem take_mem_succ {l : List Nat} {k x : Nat} (hk : k < l.length) : x ∈ l.take (k + 1) ↔ x ∈ l.take k ∨ gd l k = x := by
  have hg : gd l k = l[k] := by simp [gd, hk]
  rw [hg, List.take_succ_eq_append_getElem hk, List.mem_append, List.mem_singleton]
  constructor
  · rintro (h | h)
    · exact .inl h
    · exact .inr h.symm
  · rintro (h | h)
    · exact .inl h
    · exact .inr h.symm
set_option maxRecDepth 100000 in
set_option maxHeartbeats 16000000 in
theorem bitsTakes_in {w : World} {A A2 : Option Addr} {n c n2 c2 : Nat} {la lb : List Nat} (hA : RdA w (.slice A n c) la) (hn : la.length = n) (h200 : n ≤ 200) (hA2 : RdA w (.slice A2 n2 c2) lb) (hn2 : lb.length = n2) (h202 : n2 ≤ 200) :
    Calls Try.prog 4 #[.slice A n c, .slice A2 n2 c2] w fun e w' => e = .returned (.bool true) ∧ Below w.heap.size w w' := by
  have mixed : Try.prog.follows .mixedOrders = true := by kernel_rfl
  have d1 : decide (200 < (n : Int)) = false := by simp; omega
  have d2 : decide (200 < (n2 : Int)) = false := by simp; omega
  have HA := Lib.hid (And.intro hA hn)
  have HB := Lib.hid (And.intro hA2 hn2)
  have HNF := Lib.hid (newFree_rd hA (by omega))
  clear hA hn hA2 hn2
  go_enter Try.func4, Try.ntmps4
  go_wp2_with fail
  refine HNF.out.mono ?_
  rintro e w1 ⟨s, hnd, hmem, hsl, g, v, rfl, hset, hfp, hb⟩
  have HT := Lib.hid (show TK w w1 g v s (.slice none 0 0) [] from ⟨hset, hfp, tk_nil _, fun k hk => (by cases hk), hb⟩)
  have HM := Lib.hid (show s.Nodup ∧ s.length ≤ 200 ∧ ∀ x, x ∈ s ↔ x ∈ la ∧ x ≠ 0 ∧ x ∉ lb.take 0 from ⟨hnd, by have := HA.out.2; omega, fun x => by rw [hmem x]; simp⟩)
  clear hnd hmem hsl hset hfp hb HNF
  go_wp2_with fail
  go_loopw [6] (fun t wr => ∃ (i : Nat) (v : Value) (s : List Nat), t = .int .i64 (i : Int) ∧ i ≤ n2 ∧ TK w wr g v s (.slice none 0 0) [] ∧ s.Nodup ∧ s.length ≤ 200 ∧ ∀ x, x ∈ s ↔ x ∈ la ∧ x ≠ 0 ∧ x ∉ lb.take i) (fun t _ => n2 - (intOf t).toNat)
  case atStart => exact ⟨0, v, s, rfl, Nat.zero_le _, HT.out, HM.out⟩
  case round =>
    rename World => wr
    obtain ⟨i, v, s, rfl, hi, hT, hnd, hsl, hmem⟩ := hrel
    have HT := Lib.hid hT
    have HM := Lib.hid (And.intro hnd (And.intro hsl hmem))
    clear hT hnd hsl hmem
    by_cases hlt : i < n2
    · have hil : i < lb.length := by rw [HB.out.2]; exact hlt
      obtain ⟨x, rfl, hnl, hc⟩ := (HB.out.1.below HT.out.bel).cell hil
      have HD := Lib.hid (drop_any HT.out.set (by have := HM.out.2.1; omega) (gd lb i))
      have HM2 := Lib.hid (show (s.erase (gd lb i)).Nodup ∧ (s.erase (gd lb i)).length ≤ 200 ∧ ∀ x, x ∈ s.erase (gd lb i) ↔ x ∈ la ∧ x ≠ 0 ∧ x ∉ lb.take (i + 1) from
        ⟨HM.out.1.erase _, Nat.le_trans (List.length_erase_le) HM.out.2.1, fun x => by
          rw [HM.out.1.mem_erase_iff, HM.out.2.2 x, take_mem_succ hil]
          constructor
          · rintro ⟨a, b, c, d⟩
            exact ⟨b, c, fun e => e.elim d (fun e => a e.symm)⟩
          · rintro ⟨a, b, c⟩
            exact ⟨fun e => c (.inr e.symm), a, b, fun e => c (.inl e)⟩⟩)
      obtain ⟨a, ha⟩ : ∃ a, a = gd lb i := ⟨_, rfl⟩
      obtain ⟨bb, hbb⟩ : ∃ bb, bb = decide (a ∈ s) := ⟨_, rfl⟩
      rw [← ha] at hc HD HM2
      rw [← hbb] at HD
      have hltI : (i : Int) < (n2 : Int) := by omega
      unfold wv at hc HD
      clear hnl ha hbb hil
      go_wp2_with fail
      refine HD.out.mono ?_
      rintro e w2 ⟨rfl, hl2⟩
      obtain ⟨v2, hT2⟩ := HT.out.step hl2
      have HT2 := Lib.hid hT2
      clear hl2 hT2 hc
      go_wp2
      exact ⟨⟨i + 1, v2, _, by go_num, by omega, HT2.out, HM2.out⟩, by simp [intOf]; omega⟩
    · obtain rfl : i = n2 := by omega
      have hii : decide ((i : Int) < (i : Int)) = false := by simp
      have HAl := Lib.hid (all_adr HT.out.set (by have := HM.out.2.1; omega))
      go_wp2_with fail
      refine HAl.out.mono ?_
      rintro e w2 ⟨vw, W, rfl, ha, hp, hso, hk, hb⟩
      have HT2 := Lib.hid (show TK w w2 g v W vw W from ⟨(HT.out.set.below hb).perm hp.symm, HT.out.fpn, ha, fun k hk1 hk2 => by
        have h1 := hk k hk1
        have h2 := HT.out.set.fp hk2
        omega, Below.and HT.out.bel hb⟩)
      have hWn : W.Nodup := hp.nodup_iff.2 HM.out.1
      have HW := Lib.hid (show W.Pairwise (· < ·) ∧ W.length ≤ 200 ∧ ∀ x, x ∈ W ↔ x ∈ la ∧ x ≠ 0 ∧ x ∉ lb from ⟨lt_of_le_nodup hso hWn, by rw [hp.length_eq]; exact HM.out.2.1, fun x => by
        rw [hp.mem_iff, HM.out.2.2 x, ← HB.out.2, List.take_length]⟩)
      obtain ⟨L, hL⟩ : ∃ L, L = W.length := ⟨_, rfl⟩
      obtain ⟨aw, cw, hvw⟩ := ha.shape
      rw [← hL] at hvw
      subst hvw
      have HL := Lib.hid hL
      have hL2 : L ≤ 200 := by rw [hL]; exact HW.out.2.1
      clear ha hp hso hk hb hWn hL HT HM HAl
      go_wp2_with fail
      go_loopw [8, 9] (fun t u wx => ∃ (j : Nat) (v : Value), t = .int .u64 ((if j = 0 then 0 else gd W (j - 1) : Nat) : Int) ∧ u = .int .i64 (j : Int) ∧ j ≤ L ∧ TK w wx g v (W.drop j) (.slice aw L cw) W) (fun _ u _ => L - (intOf u).toNat)
      case atStart => exact ⟨0, v, rfl, rfl, Nat.zero_le _, HT2.out⟩
      case round =>
        rename World => wx
        obtain ⟨j, v, rfl, rfl, hj, hT⟩ := hrel
        have HT := Lib.hid hT
        clear hT
        by_cases hlt : j < L
        · have hjl : j < W.length := by rw [← HL.out]; exact hlt
          obtain ⟨m1, m2, m3⟩ := drop_min HW.out.1 hjl
          have HTk := take_any HT.out.set (by simp; have := HW.out.2.1; omega) m1 m2
          rw [drop_erase hjl] at HTk
          have HTk := Lib.hid HTk
          obtain ⟨h, off, cap, hv1, _, _⟩ := HT.out.want.pos (by omega)
          injection hv1 with hv1 hv2 hv3
          clear hv2 hv3
          subst hv1
          have HHas := Lib.hid (fun (w' : World) (v' : Value) (hs : SetAt w' g (W.drop (j + 1)) v') => (show Calls Try.prog 15 #[.pointer (some ⟨g, 0, none⟩), wv (gd W j)] w' _ from has_any hs (by simp; have := HW.out.2.1; omega) (gd W j)))
          rw [decide_eq_false m3] at HHas
          have HLT := Lib.hid (show (if j = 0 then 0 else gd W (j - 1)) < gd W j from by
            by_cases h0 : j = 0
            · rw [if_pos h0]
              have hm : gd W j ∈ W := by simp [gd, hjl]
              have := ((HW.out.2.2 _).1 hm).2.1
              omega
            · rw [if_neg h0]
              have := List.pairwise_iff_getElem.1 HW.out.1 (j - 1) j (by omega) hjl (by omega)
              simp [gd, hjl, show j - 1 < W.length by omega]
              exact this)
          have HEQ := Lib.hid (show (if j + 1 = 0 then 0 else gd W (j + 1 - 1)) = gd W j from by simp)
          have HC := Lib.hid (fun (w' : World) (v' : Value) (ht : TK w w' g v' (W.drop (j + 1)) (.slice (some ⟨h, off, none⟩) L cw) W) => (show w'.cell? ⟨h, off + j, none⟩ = some (wv (gd W j)) from ht.want.cell hjl))
          obtain ⟨a, ha⟩ : ∃ a, a = gd W j := ⟨_, rfl⟩
          obtain ⟨last, hlast⟩ : ∃ last, last = (if j = 0 then 0 else gd W (j - 1)) := ⟨_, rfl⟩
          rw [← ha] at HTk HHas HLT HEQ HC
          rw [← hlast] at HLT ⊢
          have hle : decide ((a : Int) ≤ (last : Int)) = false := by have := HLT.out; simp; omega
          have hleI : ¬ (a : Int) ≤ (last : Int) := by have := HLT.out; omega
          have hleN : ¬ a ≤ last := by have := HLT.out; omega
          have haa : ((a : Int) != (a : Int)) = false := by simp
          have hltI : (j : Int) < (L : Int) := by omega
          unfold wv at HTk HHas HC
          clear m1 m2 m3 ha hlast hjl
          go_wp2_with fail
          refine HTk.out.mono ?_
          rintro e w3 ⟨rfl, hl3⟩
          obtain ⟨v3, hT3⟩ := HT.out.step hl3
          have HT3 := Lib.hid hT3
          have hc3 := HC.out _ _ hT3
          have HH3 := Lib.hid (HHas.out _ _ hT3.set)
          clear hl3 hT3
          go_wp2_with fail
          refine HH3.out.mono ?_
          rintro e w4 ⟨rfl, hb4⟩
          have HT4 := Lib.hid (HT3.out.below hb4)
          clear hb4 hc3
          go_wp2
          exact ⟨⟨j + 1, v3, by rw [HEQ.out], by go_num, by omega, HT4.out⟩, by simp [intOf]; omega⟩
        · obtain rfl : j = L := by omega
          have hjj : decide ((j : Int) < (j : Int)) = false := by simp
          have hdr : W.drop j = [] := by rw [HL.out]; exact List.drop_length
          have HT0 := HT.out
          rw [hdr] at HT0
          have HT0 := Lib.hid HT0
          have HTn := Lib.hid (take_none HT0.out.set)
          generalize (if j = 0 then 0 else gd W (j - 1)) = last
          clear hdr HT HT2
          go_wp2_with fail
          refine HTn.out.mono ?_
          rintro e w3 ⟨rfl, rfl⟩
          go_wp2_with fail
          go_loopw [14] (fun t wy => ∃ i : Nat, t = .int .i64 (i : Int) ∧ i ≤ n ∧ Below wx.heap.size wx wy) (fun t _ => n - (intOf t).toNat)
          case atStart => exact ⟨0, rfl, Nat.zero_le _, Below.refl _ _⟩
          case round =>
            rename World => wy
            obtain ⟨q, rfl, hq, hby⟩ := hrel
            have HBY := Lib.hid hby
            clear hby
            by_cases hlt : q < n
            · have hql : q < la.length := by rw [HA.out.2]; exact hlt
              have HTy := Lib.hid (HT0.out.below HBY.out)
              obtain ⟨x, rfl, hnl, hc⟩ := (HA.out.1.below HTy.out.bel).cell hql
              have hx0 : gd la q ∈ la := by simp [gd, hql]
              have HFIN := Lib.hid (show (decide (gd la q ∈ W) == decide (gd la q = 0 ∨ gd la q ∈ lb)) = false from by
                have h1 := HW.out.2.2 (gd la q)
                by_cases e1 : gd la q = 0
                · have h2 : gd la q ∉ W := fun hm => (h1.1 hm).2.1 e1
                  rw [decide_eq_false h2, decide_eq_true (.inl e1)]
                  rfl
                · by_cases e2 : gd la q ∈ lb
                  · have h2 : gd la q ∉ W := fun hm => (h1.1 hm).2.2 e2
                    rw [decide_eq_false h2, decide_eq_true (.inr e2)]
                    rfl
                  · have h2 : gd la q ∈ W := h1.2 ⟨hx0, e1, e2⟩
                    have h3 : ¬ (gd la q = 0 ∨ gd la q ∈ lb) := fun h => h.elim e1 e2
                    rw [decide_eq_true h2, decide_eq_false h3]
                    rfl)
              obtain ⟨y, hy⟩ : ∃ y, y = gd la q := ⟨_, rfl⟩
              rw [← hy] at hc HFIN
              obtain ⟨z0, hz0⟩ : ∃ z0, z0 = decide (y = 0) := ⟨_, rfl⟩
              have hz1 : ((y : Int) == 0) = z0 := by rw [hz0, Bool.eq_iff_iff]; simp
              have HZ := Lib.hid hz0
              have hltI : (q : Int) < (n : Int) := by omega
              have xc := fun p : LowBy wy => LowBy.cell hc p
              have HXC := Lib.hid (fun (W' : World) (hb : Below wy.heap.size wy W') => (hb.cell (wy.block_lt_of_cell? _ hc)).trans hc)
              unfold wv at xc HXC
              clear hx0 hy hz0 hnl hql hc
              go_upto_region 23 with (fail)
              refine wp_region_quiet_low (by assumption) (by kernel_rfl) ?_
              repeat (first | go_big_quiet_skip | (go_big_quiet_want; go_big_quiet_op; go_big_quiet_on))
              refine wpQuiet_nil ?_
              intro _ hw'
              obtain ⟨p, hw''⟩ := hw'
              subst hw''
              have HP := Lib.hid p.low
              generalize p.W = w5 at *
              clear xc
              go_wp2
              go_loopw [15, 17] (fun t u wz => ∃ k : Nat, t = .bool (decide (y ∈ W.take k)) ∧ u = .int .i64 (k : Int) ∧ k ≤ j ∧ Below wy.heap.size wy wz) (fun _ u _ => j - (intOf u).toNat)
              case atStart => exact ⟨0, by simp, rfl, Nat.zero_le _, HP.out⟩
              case round =>
                rename World => wz
                obtain ⟨k, rfl, rfl, hk, hbz⟩ := hrel
                have HBZ := Lib.hid hbz
                have HTz := Lib.hid (HTy.out.below hbz)
                have cx := HXC.out wz hbz
                clear hbz
                by_cases hlt : k < j
                · have hkl : k < W.length := by rw [← HL.out]; exact hlt
                  obtain ⟨h, off, cap, hv1, _, _⟩ := HTz.out.want.pos (by omega)
                  injection hv1 with hv1 hv2 hv3
                  clear hv2 hv3
                  subst hv1
                  have cw' : wz.cell? ⟨h, off + k, none⟩ = some (wv (gd W k)) := HTz.out.want.cell hkl
                  have HS := Lib.hid (take_mem_succ (x := y) hkl)
                  obtain ⟨b0, hb0⟩ : ∃ b0, b0 = decide (y ∈ W.take k) := ⟨_, rfl⟩
                  obtain ⟨u0, hu0⟩ : ∃ u0, u0 = gd W k := ⟨_, rfl⟩
                  rw [← hb0]
                  rw [← hu0] at cw' HS
                  have HB0 := Lib.hid hb0
                  unfold wv at cw'
                  have xa := fun p : LowBy wz => LowBy.cell cx p
                  have xb := fun p : LowBy wz => LowBy.cell cw' p
                  have hkI : (k : Int) < (j : Int) := by omega
                  clear hb0 hu0 hkl cx cw'
                  cases b0 with
                  | true =>
                    have HE := Lib.hid (show true = decide (y ∈ W.take (k + 1)) from (decide_eq_true (HS.out.2 (.inl (of_decide_eq_true HB0.out.symm)))).symm)
                    go_upto_region 27 with (fail)
                    refine wp_region_quiet_low (by assumption) (by kernel_rfl) ?_
                    repeat (first | go_big_quiet_skip | (go_big_quiet_want; go_big_quiet_op; go_big_quiet_on))
                    refine wpQuiet_nil ?_
                    intro _ hw'
                    obtain ⟨p, hw''⟩ := hw'
                    subst hw''
                    have HP2 := Lib.hid (Below.and HBZ.out p.low)
                    generalize p.W = w6 at *
                    clear xa xb
                    go_wp2
                    exact ⟨⟨k + 1, by rw [← HE.out], by go_num, by omega, HP2.out⟩, by simp [intOf]; omega⟩
                  | false =>
                    obtain ⟨b1, hb1⟩ : ∃ b1, b1 = ((u0 : Int) == (y : Int)) := ⟨_, rfl⟩
                    have HE := Lib.hid (show b1 = decide (y ∈ W.take (k + 1)) from by
                      rw [hb1, Bool.eq_iff_iff, decide_eq_true_iff, HS.out, beq_iff_eq]
                      constructor
                      · intro h
                        exact .inr (by omega)
                      · rintro (h | h)
                        · have := decide_eq_false_iff_not.1 HB0.out.symm
                          exact absurd h this
                        · omega)
                    have hb2 := hb1.symm
                    clear hb1
                    go_upto_region 27 with (fail)
                    refine wp_region_quiet_low (by assumption) (by kernel_rfl) ?_
                    repeat (first | go_big_quiet_skip | (go_big_quiet_want; go_big_quiet_op; go_big_quiet_on))
                    refine wpQuiet_nil ?_
                    intro _ hw'
                    obtain ⟨p, hw''⟩ := hw'
                    subst hw''
                    have HP2 := Lib.hid (Below.and HBZ.out p.low)
                    generalize p.W = w6 at *
                    clear xa xb
                    go_wp2
                    exact ⟨⟨k + 1, by rw [← HE.out], by go_num, by omega, HP2.out⟩, by simp [intOf]; omega⟩
                · obtain rfl : k = j := by omega
                  have hkk : decide ((k : Int) < (k : Int)) = false := by simp
                  have hWk : W.take k = W := by rw [HL.out]; exact List.take_length
                  rw [hWk]
                  obtain ⟨has, hhas⟩ : ∃ has, has = decide (y ∈ W) := ⟨_, rfl⟩
                  rw [← hhas] at HFIN ⊢
                  clear hWk cx
                  go_wp2
                  go_loopw [16, 18] (fun t u wv_ => ∃ r : Nat, t = .bool (decide (y = 0 ∨ y ∈ lb.take r)) ∧ u = .int .i64 (r : Int) ∧ r ≤ i ∧ Below wy.heap.size wy wv_) (fun _ u _ => i - (intOf u).toNat)
                  case atStart => exact ⟨0, by rw [HZ.out]; simp, rfl, Nat.zero_le _, HBZ.out⟩
                  case round =>
                    rename World => wt
                    obtain ⟨r, rfl, rfl, hr, hbt⟩ := hrel
                    have HBT := Lib.hid hbt
                    have cx := HXC.out wt hbt
                    have hTt := HTy.out.below hbt
                    have hRb := HB.out.1.below hTt.bel
                    clear hbt hTt
                    by_cases hlt : r < i
                    · have hrl : r < lb.length := by rw [HB.out.2]; exact hlt
                      obtain ⟨x2, rfl, hnl2, cb⟩ := hRb.cell hrl
                      have HS := Lib.hid (take_mem_succ (x := y) hrl)
                      obtain ⟨b0, hb0⟩ : ∃ b0, b0 = decide (y = 0 ∨ y ∈ lb.take r) := ⟨_, rfl⟩
                      obtain ⟨u0, hu0⟩ : ∃ u0, u0 = gd lb r := ⟨_, rfl⟩
                      rw [← hb0]
                      rw [← hu0] at cb HS
                      have HB0 := Lib.hid hb0
                      unfold wv at cb
                      have xa := fun p : LowBy wt => LowBy.cell cx p
                      have xb := fun p : LowBy wt => LowBy.cell cb p
                      have hrI : (r : Int) < (i : Int) := by omega
                      clear hb0 hu0 hrl cx cb hnl2 hRb
                      cases b0 with
                      | true =>
                        have HE := Lib.hid (show true = decide (y = 0 ∨ y ∈ lb.take (r + 1)) from (decide_eq_true (by
                          rcases of_decide_eq_true HB0.out.symm with h | h
                          · exact .inl h
                          · exact .inr (HS.out.2 (.inl h)))).symm)
                        go_upto_region 31 with (fail)
                        refine wp_region_quiet_low (by assumption) (by kernel_rfl) ?_
                        repeat (first | go_big_quiet_skip | (go_big_quiet_want; go_big_quiet_op; go_big_quiet_on))
                        refine wpQuiet_nil ?_
                        intro _ hw'
                        obtain ⟨p, hw''⟩ := hw'
                        subst hw''
                        have HP2 := Lib.hid (Below.and HBT.out p.low)
                        generalize p.W = w6 at *
                        clear xa xb
                        go_wp2
                        exact ⟨⟨r + 1, by rw [← HE.out], by go_num, by omega, HP2.out⟩, by simp [intOf]; omega⟩
                      | false =>
                        obtain ⟨b1, hb1⟩ : ∃ b1, b1 = ((u0 : Int) == (y : Int)) := ⟨_, rfl⟩
                        have HE := Lib.hid (show b1 = decide (y = 0 ∨ y ∈ lb.take (r + 1)) from by
                          have hno := decide_eq_false_iff_not.1 HB0.out.symm
                          rw [hb1, Bool.eq_iff_iff, decide_eq_true_iff, HS.out, beq_iff_eq]
                          constructor
                          · intro h
                            exact .inr (.inr (by omega))
                          · rintro (h | h | h)
                            · exact absurd (.inl h) hno
                            · exact absurd (.inr h) hno
                            · omega)
                        have hb2 := hb1.symm
                        clear hb1
                        go_upto_region 31 with (fail)
                        refine wp_region_quiet_low (by assumption) (by kernel_rfl) ?_
                        repeat (first | go_big_quiet_skip | (go_big_quiet_want; go_big_quiet_op; go_big_quiet_on))
                        refine wpQuiet_nil ?_
                        intro _ hw'
                        obtain ⟨p, hw''⟩ := hw'
                        subst hw''
                        have HP2 := Lib.hid (Below.and HBT.out p.low)
                        generalize p.W = w6 at *
                        clear xa xb
                        go_wp2
                        exact ⟨⟨r + 1, by rw [← HE.out], by go_num, by omega, HP2.out⟩, by simp [intOf]; omega⟩
                    · obtain rfl : r = i := by omega
                      have hrr : decide ((r : Int) < (r : Int)) = false := by simp
                      have hWr : lb.take r = lb := by rw [← HB.out.2]; exact List.take_length
                      rw [hWr]
                      obtain ⟨gone, hgone⟩ : ∃ gone, gone = decide (y = 0 ∨ y ∈ lb) := ⟨_, rfl⟩
                      rw [← hgone] at HFIN ⊢
                      have hfin := HFIN.out
                      have HBX := Lib.hid (HBY.out.trans (HBT.out.mono HBY.out.size))
                      clear hWr cx hgone hRb hhas HFIN
                      cases has <;> cases gone
                      · exact absurd hfin (by decide)
                      · go_wp2
                        exact ⟨⟨q + 1, by go_num, by omega, HBX.out⟩, by simp [intOf]; omega⟩
                      · go_wp2
                        exact ⟨⟨q + 1, by go_num, by omega, HBX.out⟩, by simp [intOf]; omega⟩
                      · exact absurd hfin (by decide)
            · obtain rfl : q = n := by omega
              have hqq : decide ((q : Int) < (q : Int)) = false := by simp
              have HTy := Lib.hid (HT0.out.below HBY.out)
              have HLe := len_any HTy.out.set (by simp)
              have HLe := Lib.hid (show Calls Try.prog 17 #[.pointer (some ⟨g, 0, none⟩)] wy fun e w' => e = .returned (.int .i64 0) ∧ wy = w' from HLe)
              have HK := Lib.hid (known5_any wy)
              go_wp2_with fail
              refine HLe.out.mono ?_
              rintro e w7 ⟨rfl, rfl⟩
              go_wp2_with fail
              refine HK.out.mono ?_
              rintro e w8 ⟨rfl, hb8⟩
              have HFIN := Lib.hid (HTy.out.below hb8).bel
              clear hb8
              go_wp2
              go_ret
              exact ⟨rfl, HFIN.out⟩
end Go.Proofs.Ytpdnbojooelmfaa
