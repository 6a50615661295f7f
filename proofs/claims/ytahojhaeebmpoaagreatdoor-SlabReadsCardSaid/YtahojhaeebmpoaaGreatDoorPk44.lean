/- Texts of this claim, packed: R6Room, R6Used. -/
import Derived.Test.YtahojhaeebmpoaaGreatDoorPk41
import Derived.Test.YtahojhaeebmpoaaGreatDoorPk04
import Derived.Test.YtahojhaeebmpoaaGreatDoorPk43
/- Room of the document's blocks; for at most a million blocks that are not free, at most sixty-four slabs. -/
namespace Go.Proofs.YtahojhaeebmpoaaGreatDoor
open Go.RowKit
set_option linter.unusedVariables false
set_option maxRecDepth 100000 in
set_option maxHeartbeats 4000000 in
theorem r6Room_any {w : World} {B gw size : Nat} {cls : List Nat} {L : List (Nat × Nat)} {vc vl : Value} (h : W6At w B gw size cls L vc vl) (hL : L.length ≤ 1000000) (hn64 : cls.length ≤ 64) (hcl : ∀ x ∈ cls, x ≤ 1000) {c : Nat} (hc : 1 ≤ c ∧ c ≤ 3) :
    Calls Tryz.prog 25 #[fpt gw, jv c] w fun e w' => e = .returned (jv (rmL cls L c cls.length)) ∧ w = w' := by
  obtain ⟨A, cap, hv, _, _, hs, _⟩ := own_sl h.cls
  subst hv
  have HIS := Lib.hid (fun a => r6Is_any h hL a)
  have c1 := h.row.cell 1
  simp only [List.getElem?_toArray, List.getElem?_cons_succ, List.getElem?_cons_zero] at c1
  obtain ⟨n, hn⟩ : ∃ n, n = cls.length := ⟨_, rfl⟩
  rw [← hn] at c1 hn64 ⊢
  have HN := Lib.hid hn
  have HCELL := Lib.hid (fun (i : Nat) (hi : i < n) => (show ∃ g x, A = some g ∧ cls.getD i 0 = x ∧ x ≤ 1000 ∧ w.cell? (g.add i) = some (.int .i64 (x : Int)) by
    have hi' : i < cls.length := by rw [← hn]; exact hi
    obtain ⟨g, e, q⟩ := hs.at_ (i := i) (by rw [List.length_map]; exact hi')
    refine ⟨g, cls[i], e, by rw [List.getD_eq_getElem?_getD, List.getElem?_eq_getElem hi']; rfl, hcl _ (List.getElem_mem hi'), ?_⟩
    rw [q, List.getElem_map]; rfl))
  have HBK := Lib.hid (refBlocks_any (c : Int) w)
  rw [blN_C] at HBK
  have HBL := Lib.hid (fun (i j : Nat) (h1 : 1 ≤ i ∧ i ≤ 64) (hj : j < blN c) => (show Calls Tryz.prog 42 #[.int .i64 (i : Int), .int .i64 (c : Int), .int .i64 (j : Int)] w fun e w' => e = .returned (.int .u64 (adr i c j : Int)) ∧ w = w' by
    have := refBlock_any (i : Int) (c : Int) (j : Int) w
    rw [adr_blk h1.1 h1.2 hj] at this
    exact this))
  have HRL := Lib.hid (rmL_le cls L c)
  obtain ⟨b, hb⟩ : ∃ b, b = blN c := ⟨_, rfl⟩
  have hb15 : b ≤ 15 := by rw [hb]; exact blN_le c
  rw [← hb] at HBK HBL
  have HBE := Lib.hid hb
  clear h hs hn hb hcl
  have HRR := Lib.hid (fun no x j => rmRow_le L no c x j)
  have HRN := Lib.hid (fun no x j => rmRow_next L no c x j)
  have HRS := Lib.hid (fun i => (show rmL cls L c (i + 1) = rmL cls L c i + rmRow L (i + 1) c (cls.getD i 0) b by rw [HBE.out]; rfl))
  unfold fpt jv at *
  unfold wv at HIS
  go_enter Tryz.func25, Tryz.ntmps25
  go_wp2
  go_loopg [5, 6] n (fun k u v wr => ∃ i : Nat, u = .int .i64 (rmL cls L c i : Int) ∧ v = .int .i64 ((i : Int) + 1) ∧ i ≤ n ∧ n - i ≤ k ∧ wr = w)
  case atStart => exact ⟨0, rfl, rfl, by omega, by omega, rfl⟩
  case round =>
    obtain ⟨i, rfl, rfl, hin, hk, rfl⟩ := hrel
    by_cases hlt : i < n
    · have hltI : decide ((i : Int) + 1 ≤ (n : Int)) = true := by simp; omega
      obtain ⟨g, x, rfl, hx, hx1000, q1⟩ := HCELL.out i hlt
      have HX := Lib.hid hx
      have h15 := HRL.out i
      obtain ⟨R, hR⟩ : ∃ R, R = rmL cls L c i := ⟨_, rfl⟩
      rw [← hR] at h15 ⊢
      have HR := Lib.hid hR
      obtain ⟨i1, hi1⟩ : ∃ i1, i1 = i + 1 := ⟨_, rfl⟩
      have hi1I : ((i : Int) + 1) = (i1 : Int) := by omega
      rw [hi1I] at hltI ⊢
      have hsub : (i1 : Int) - 1 = (i : Int) := by omega
      have hi1b : 1 ≤ i1 ∧ i1 ≤ 64 := by omega
      have hi1n : i1 ≤ n := by omega
      have HI1 := Lib.hid hi1
      clear hx hR hi1 hi1I
      go_wp2
      go_loopg [5, 7] b (fun k u v wr2 => ∃ j : Nat, u = .int .i64 ((R + rmRow L i1 c x j : Nat) : Int) ∧ v = .int .i64 (j : Int) ∧ j ≤ b ∧ b - j ≤ k ∧ wr2 = wr)
      case atStart => exact ⟨0, by simp [rmRow], rfl, by omega, by omega, rfl⟩
      case round =>
        obtain ⟨j, rfl, rfl, hjb, hk2, rfl⟩ := hrel
        go_wp2_with fail
        refine HBK.out.mono ?_
        rintro e w1 ⟨rfl, rfl⟩
        by_cases hltj : j < b
        · have hltJ : decide ((j : Int) < (b : Int)) = true := by simp; omega
          have hrow := HRR.out i1 x j
          have hnext := HRN.out i1 x j
          obtain ⟨T, hT⟩ : ∃ T, T = R + rmRow L i1 c x j := ⟨_, rfl⟩
          rw [← hT]
          have hTb : T ≤ 15 * i + j := by omega
          have HT := Lib.hid hT
          have HNX := Lib.hid hnext
          clear hT hnext hrow
          by_cases hx0 : x = 0
          · have e0 : ((x : Int) == 0) = true := by simp; omega
            have HY : Hid (rmB L i1 c x j = true) := Lib.hid (by simp [rmB, hx0])
            clear hx0
            go_wp2
            go_roundg (b - (j + 1))
            case measure => omega
            case rel => exact ⟨j + 1, by have := HNX.out; rw [HY.out] at this; have := HT.out; rw [if_pos rfl] at *; congr 1; omega, by go_num, by omega, by omega, rfl⟩
          · have e0 : ((x : Int) == 0) = false := by simp; omega
            have HX0 := Lib.hid hx0
            clear hx0
            by_cases hxc : x = c
            · have e1 : ((x : Int) == (c : Int)) = true := by simp; omega
              have HXC := Lib.hid hxc
              clear hxc
              have HB2 := Lib.hid (HBL.out i1 j hi1b hltj)
              obtain ⟨ad, had⟩ : ∃ ad, ad = adr i1 c j := ⟨_, rfl⟩
              rw [← had] at HB2
              have HI2 := Lib.hid (HIS.out ad)
              obtain ⟨z, hz⟩ : ∃ z, z = isL L ad := ⟨_, rfl⟩
              rw [← hz] at HI2
              have HAD := Lib.hid had
              have HZ := Lib.hid hz
              clear had hz
              go_wp2_with fail
              refine HB2.out.mono ?_
              rintro e w1 ⟨rfl, rfl⟩
              go_wp2_with fail
              refine HI2.out.mono ?_
              rintro e w1 ⟨rfl, rfl⟩
              by_cases hz0 : z = 0
              · have e2 : ((z : Int) == 0) = true := by simp; omega
                have HY : Hid (rmB L i1 c x j = true) := Lib.hid (by simp [rmB, HXC.out, ← HAD.out, ← HZ.out, hz0])
                clear hz0
                go_wp2
                go_roundg (b - (j + 1))
                case measure => omega
                case rel => exact ⟨j + 1, by have := HNX.out; rw [HY.out] at this; have := HT.out; rw [if_pos rfl] at *; congr 1; omega, by go_num, by omega, by omega, rfl⟩
              · have e2 : ((z : Int) == 0) = false := by simp; omega
                have HY : Hid (rmB L i1 c x j = false) := Lib.hid (by have := HX0.out; have hc0 : ¬ c = 0 := by omega
                                                                      simp [rmB, HXC.out, ← HAD.out, ← HZ.out, hz0, hc0])
                clear hz0
                go_wp2
                go_roundg (b - (j + 1))
                case measure => omega
                case rel => exact ⟨j + 1, by have h1 := HNX.out; rw [HY.out, if_neg (by decide)] at h1; have h2 := HT.out; congr 1; omega, by go_num, by omega, by omega, rfl⟩
            · have e1 : ((x : Int) == (c : Int)) = false := by simp; omega
              have HY : Hid (rmB L i1 c x j = false) := Lib.hid (by have := HX0.out; simp [rmB, hxc, this])
              clear hxc
              go_wp2
              go_roundg (b - (j + 1))
              case measure => omega
              case rel => exact ⟨j + 1, by have h1 := HNX.out; rw [HY.out, if_neg (by decide)] at h1; have h2 := HT.out; congr 1; omega, by go_num, by omega, by omega, rfl⟩
        · have hje : j = b := by omega
          have hdj : decide ((j : Int) < (b : Int)) = false := by simp; omega
          have hfin : R + rmRow L i1 c x j = rmL cls L c (i + 1) := by rw [HRS.out, HR.out, HX.out, HI1.out, hje]
          have HFIN := Lib.hid hfin
          have hrow := HRR.out i1 x j
          clear hfin hje
          go_wp2
          go_roundg (n - (i + 1))
          case measure => omega
          case rel => exact ⟨i + 1, by have := HFIN.out; congr 1; omega, by have := HI1.out; congr 1; omega, by omega, by omega, rfl⟩
    · have hie : i = n := by omega
      have hid : decide ((i : Int) + 1 ≤ (n : Int)) = false := by simp; omega
      have HIE := Lib.hid hie
      clear hie
      go_wp2
      go_ret
      exact ⟨by rw [HIE.out]; rfl, rfl⟩
end Go.Proofs.YtahojhaeebmpoaaGreatDoor
/- Used of the document's blocks: those in use, rising; two lists of one's own that read alike are the same; for at most a thousand blocks. -/
namespace Go.Proofs.YtahojhaeebmpoaaGreatDoor
open Go.RowKit
set_option linter.unusedVariables false
def U6Post (w : World) (xs : List Nat) (e : Ending) (w' : World) : Prop := ∃ v, e = .returned v ∧ w'.ownsRow w.heap.size 24 1 v xs.length (xs.map wv) ∧ Below w.heap.size w w'
set_option maxRecDepth 100000 in
set_option maxHeartbeats 4000000 in
theorem r6Used_any {w : World} {B gw size : Nat} {cls : List Nat} {L : List (Nat × Nat)} {vc vl : Value} (h : W6At w B gw size cls L vc vl) (hL : L.length ≤ 1000) (hn : (L.map Prod.fst).Nodup) (h0 : ∀ p ∈ L, p.1 ≠ 0) :
    Calls Tryz.prog 24 #[fpt gw] w (U6Post w (usedR L)) := by
  obtain ⟨n, hnl⟩ : ∃ n, n = L.length := ⟨_, rfl⟩
  obtain ⟨A, cap, hv⟩ : ∃ A cap, vl = .slice A L.length cap := by
    rcases h.bl.2 with ⟨rfl, h0⟩ | ⟨g, cap, cur, rfl, _, _, h1, h2, _⟩
    · exact ⟨none, 0, by rw [h0]⟩
    · exact ⟨_, cap, rfl⟩
  subst hv
  rw [← hnl] at h hL
  have H := Lib.hid h
  have HN := Lib.hid hnl
  have HCELL := Lib.hid (fun (W : World) (hb : Below w.heap.size w W) (i : Nat) (p : Nat × Nat) (hp : L[i]? = some p) => (show ∃ g, A = some ⟨g, 0, none⟩ ∧ W.cell? ⟨g, i * 2, none⟩ = some (.int .u64 (p.1 : Int)) ∧ W.cell? ⟨g, i * 2 + 1, none⟩ = some (.int .i64 (p.2 : Int)) by
    obtain ⟨q1, q2⟩ := flatB_get L i p hp
    have hi := (List.getElem?_eq_some_iff.1 hp).1
    rcases (h.below hb).bl.2 with ⟨_, h0⟩ | ⟨g, cap', cur, h0, _, hh, _, _, _, ht⟩
    · omega
    · simp only [Value.slice.injEq] at h0
      have hrow : Row W g 99 cur := hh
      refine ⟨g, h0.1, ?_, ?_⟩
      · rw [hrow.cell, ← Array.getElem?_toList]
        rw [← ht, List.getElem?_take] at q1
        split at q1
        · exact q1
        · cases q1
      · rw [hrow.cell, ← Array.getElem?_toList]
        rw [← ht, List.getElem?_take] at q2
        split at q2
        · exact q2
        · cases q2))
  have HC2 := Lib.hid (fun (W : World) (hb : Below w.heap.size w W) => (show W.cell? ⟨gw, 2, none⟩ = some (.slice A n cap) by
    have := (h.below hb).row.cell 2
    simpa using this))
  have HND := Lib.hid hn
  have HNZ := Lib.hid h0
  have HNEW : Hid (AdAt (w.alloc (.cells #[.slice none 0 0] 134)) w.heap.size w.heap.size [] (.slice none 0 0)) := Lib.hid ⟨Row.new _ _ _, World.ownsRow_nil _ _ _ _⟩
  clear h hnl hn h0
  unfold fpt
  go_enter Tryz.func24, Tryz.ntmps24
  go_wp2
  go_loopg [4] n (fun k v wr => ∃ (i : Nat) (vL : Value), v = .int .i64 (i : Int) ∧ i ≤ n ∧ n - i ≤ k ∧ AdAt wr w.heap.size w.heap.size (usedR (L.take i)) vL ∧ Below w.heap.size w wr)
  case atStart => exact ⟨0, _, rfl, by omega, by omega, by rw [List.take_zero]; exact HNEW.out, alloc_below _ _⟩
  case round =>
    obtain ⟨i, vL, rfl, hin, hk, hA, hlow⟩ := hrel
    rename World => wr
    have HA := Lib.hid hA
    have HLW := Lib.hid hlow
    have c2 := HC2.out wr hlow
    have cs : wr.cell? ⟨w.heap.size, 0, none⟩ = some vL := by have := hA.row.cell 0; simpa using this
    clear hA hlow HNEW
    by_cases hlt : i < n
    · obtain ⟨p, hp⟩ : ∃ p, L[i]? = some p := ⟨_, List.getElem?_eq_getElem (by rw [← HN.out]; exact hlt)⟩
      obtain ⟨g, rfl, q1, q2⟩ := HCELL.out wr HLW.out i p hp
      have hstep : usedR (L.take (i + 1)) = if uN p.2 = true then insN (usedR (L.take i)) p.1 else usedR (L.take i) := by
        rw [List.take_add_one, hp, Option.toList_some, usedR_snoc]
      have hnm : p.1 ∉ usedR (L.take i) := fun hm => by
        obtain ⟨q, hq, _, he⟩ := (usedR_mem _ _).1 hm
        obtain ⟨t, ht, rfl⟩ := List.getElem_of_mem hq
        rw [List.getElem_take] at he
        have hti : t < i := by simp at ht; omega
        obtain ⟨hil, hpe⟩ := List.getElem?_eq_some_iff.1 hp
        have := (List.pairwise_iff_getElem.1 HND.out) t i (by simp; omega) (by simpa using hil) hti
        simp [hpe] at this
        exact this he
      have hul : (usedR (L.take i)).length ≤ 1000 := by
        have key : ∀ (M : List (Nat × Nat)), (usedR M).length ≤ M.length := by
          intro M
          have k2 : ∀ m, m ≤ M.length → (usedR (M.take m)).length ≤ m := by
            intro m
            induction m with
            | zero => intro _; simp [usedR]
            | succ m ih =>
              intro hm
              rw [List.take_succ_eq_append_getElem (by omega), usedR_snoc]
              have := ih (by omega)
              split
              · rw [insN_len]; omega
              · omega
          have := k2 M.length (Nat.le_refl _)
          rwa [List.take_length] at this
        have := key (L.take i)
        have h2 : (L.take i).length ≤ i := by rw [List.length_take]; omega
        omega
      have HP0 := Lib.hid (HNZ.out p (List.mem_of_getElem? hp))
      have HST := Lib.hid hstep
      clear hp hstep
      by_cases hu : uN p.2 = true
      · have HPUT := Lib.hid (aPut_new HA.out hul HLW.out.size HP0.out hnm)
        have HU := Lib.hid hu
        unfold wv at HPUT
        have fin : ∀ W', AdLeft wr w.heap.size w.heap.size (insN (usedR (L.take i)) p.1) W' → ∃ vL', AdAt W' w.heap.size w.heap.size (usedR (L.take (i + 1))) vL' ∧ Below w.heap.size w W' := fun W' hl => by
          obtain ⟨vL', h1, _, h3⟩ := hl
          refine ⟨vL', by rw [HST.out, if_pos HU.out]; exact h1, ?_⟩
          exact ⟨h3.os.trans HLW.out.os, h3.tape.trans HLW.out.tape, h3.output.trans HLW.out.output, Nat.le_trans HLW.out.size h3.size, fun k hk => (h3.block k (Nat.lt_of_lt_of_le hk HLW.out.size) (by omega)).trans (HLW.out.block k hk)⟩
        have HFIN := Lib.hid fin
        clear fin hnm hul
        by_cases h2 : p.2 = 2
        · have e2 : ((p.2 : Int) == 2) = true := by simp; omega
          clear h2 hu
          go_wp2_with fail
          refine HPUT.out.mono ?_
          rintro e w1 ⟨rfl, hl⟩
          obtain ⟨vL', h1, h3⟩ := HFIN.out w1 hl
          have H1 := Lib.hid h1
          have H3 := Lib.hid h3
          clear hl h1 h3
          go_wp2
          go_roundg (n - (i + 1))
          case measure => omega
          case rel => exact ⟨i + 1, vL', by go_num, by omega, by omega, H1.out, H3.out⟩
        · have h3 : p.2 = 3 := by simp [uN] at hu; omega
          have e2 : ((p.2 : Int) == 2) = false := by simp; omega
          have e3 : ((p.2 : Int) == 3) = true := by simp; omega
          clear h2 h3 hu
          go_wp2_with fail
          refine HPUT.out.mono ?_
          rintro e w1 ⟨rfl, hl⟩
          obtain ⟨vL', h1, h3⟩ := HFIN.out w1 hl
          have H1 := Lib.hid h1
          have H3 := Lib.hid h3
          clear hl h1 h3
          go_wp2
          go_roundg (n - (i + 1))
          case measure => omega
          case rel => exact ⟨i + 1, vL', by go_num, by omega, by omega, H1.out, H3.out⟩
      · have e2 : ((p.2 : Int) == 2) = false := by
          have : p.2 ≠ 2 := fun q => hu (by simp [uN, q])
          simp; omega
        have e3 : ((p.2 : Int) == 3) = false := by
          have : p.2 ≠ 3 := fun q => hu (by simp [uN, q])
          simp; omega
        have HU := Lib.hid hu
        clear hu hnm hul
        go_wp2
        go_roundg (n - (i + 1))
        case measure => omega
        case rel => exact ⟨i + 1, vL, by go_num, by omega, by omega, by rw [HST.out, if_neg HU.out]; exact HA.out, HLW.out⟩
    · have hie : i = n := by omega
      have hid : decide ((i : Int) < (n : Int)) = false := by simp; omega
      have HE : Hid (wr.ownsRow w.heap.size 24 1 vL (usedR L).length ((usedR L).map wv)) := Lib.hid (by
        have := HA.out.li
        rw [hie, HN.out, List.take_length] at this
        exact this)
      clear hie
      go_wp2
      go_ret
      exact ⟨vL, rfl, HE.out, HLW.out⟩
set_option maxRecDepth 100000 in
set_option maxHeartbeats 2000000 in
theorem r5Same_own {w : World} {B B' n : Nat} {v v' : Value} {xs : List Nat} (h : w.ownsRow B 24 1 v n (xs.map wv)) (h' : w.ownsRow B' 24 1 v' n (xs.map wv)) (hl : n ≤ 1000000000) :
    Calls Tryz.prog 28 #[v, v'] w fun e w' => e = .returned (.bool true) ∧ Below w.heap.size w w' := by
  obtain ⟨A, c, hv, _, _, hs, hlen⟩ := own_sl h
  obtain ⟨A', c', hv', _, _, hs', _⟩ := own_sl h'
  subst hv hv'
  rw [List.length_map] at hlen
  have HX := Lib.hid (fun k (hk : k < n) => (show ∃ x g g', A = some g ∧ A' = some g' ∧ w.cell? (g.add k) = some (.int .u64 ((x : Nat) : Int)) ∧ w.cell? (g'.add k) = some (.int .u64 ((x : Nat) : Int)) by
    obtain ⟨g, e1, h1⟩ := hs.at_ (i := k) (by rw [List.length_map]; omega)
    obtain ⟨g', e2, h2⟩ := hs'.at_ (i := k) (by rw [List.length_map]; omega)
    rw [List.getElem_map] at h1 h2
    exact ⟨_, g, g', e1, e2, h1, h2⟩))
  have hne : ((n : Int) != (n : Int)) = false := by simp
  clear h h' hs hs' hlen
  go_enter Tryz.func28, Tryz.ntmps28
  go_wp2_with fail
  go_loopw [5] (fun i wr => ∃ k : Nat, k ≤ n ∧ i = .int .i64 (k : Int) ∧ ∃ q, wr = w.drewN q) (fun i _ => n - (intOf i).toNat)
  case atStart => exact ⟨0, by omega, rfl, 0, rfl⟩
  case round =>
    obtain ⟨k, hk, rfl, q, rfl⟩ := hrel
    by_cases hlt : k < n
    · obtain ⟨x, g, g', rfl, rfl, a1, b1⟩ := HX.out k hlt
      have hxx : ((x : Int) != (x : Int)) = false := by simp
      go_wp2
      go_quiet (fail)
      go_wp2
      exact ⟨⟨k + 1, by omega, by go_num, q + nq, rfl⟩, by simp [intOf]; omega⟩
    · obtain rfl : k = n := by omega
      go_wp2
      go_ret
      exact ⟨rfl, drewN_below _ _⟩
end Go.Proofs.YtahojhaeebmpoaaGreatDoor
