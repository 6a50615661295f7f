/- Texts of this claim, packed: 7RRel. -/
import Derived.Test.YtgclbeagifoifaaPc25
/- The law's own Release. -/
namespace Go.Proofs.Ytgclbeagifoifaa
open Go.RowKit
set_option linter.unusedVariables false
theorem rRel_no {w : World} {B gr n : Nat} {l : List (Nat × Nat)} {wt : Nat → Nat} {vL vW : Value} (h : RefAt w B gr n l wt vL vW) {c : Int} {id : Nat} (hno : ¬ (0 ≤ c ∧ c < (n : Int))) :
    Calls Try.prog 19 #[.pointer (some ⟨gr, 0, none⟩), .int .i64 c, .int .u64 (id : Int)] w fun e w' => e = .returned (.bool false) ∧ w = w' := by
  have HI := rIs_any h c
  rw [decide_eq_false hno] at HI
  have HI := Lib.hid HI
  clear h hno
  go_enter Try.func19, Try.ntmps19
  go_wp2_with fail
  refine HI.out.mono ?_
  rintro e w1 ⟨rfl, rfl⟩
  go_wp2
  go_ret
  exact ⟨rfl, rfl⟩
/-- A client's wait, when a lock is given back. -/
def wrel (wt : Nat → Nat) (c id : Nat) : Nat → Nat := if wt c = id then setW wt c 0 else wt
set_option maxRecDepth 100000 in
set_option maxHeartbeats 2000000 in
theorem rRel_not {w : World} {B gr n : Nat} {l : List (Nat × Nat)} {wt : Nat → Nat} {vL vW : Value} (h : RefAt w B gr n l wt vL vW) {c id : Nat} (hc : c < n) (hd : rHold l id ≠ (c : Int)) :
    Calls Try.prog 19 #[.pointer (some ⟨gr, 0, none⟩), .int .i64 (c : Int), .int .u64 (id : Int)] w fun e w' => e = .returned (.bool false) ∧ RefAt w' B gr n l (wrel wt c id) vL vW ∧ But w w' (rfp gr vL vW) := by
  have HI := rIs_any h (c : Int)
  rw [decide_eq_true (show 0 ≤ (c : Int) ∧ (c : Int) < (n : Int) by omega)] at HI
  have HI := Lib.hid HI
  obtain ⟨gw, cap, hv, hnc, hm, hcell, hfr, hset⟩ := h.wset hc
  have c1 := h.row.cell 1
  simp only [List.getElem?_toArray, List.getElem?_cons_succ, List.getElem?_cons_zero] at c1
  have hdb : (rHold l id != (c : Int)) = true := by simpa using hd
  by_cases ht : wt c = id
  · obtain ⟨hR, hB⟩ := hset 0
    have HH := Lib.hid (rHolder_any hR id)
    have HE := Lib.hid (show RefAt (w.setCell ⟨gw, c, none⟩ (.int .u64 0)) B gr n l (wrel wt c id) vL vW ∧ But w (w.setCell ⟨gw, c, none⟩ (.int .u64 0)) (rfp gr vL vW) from ⟨by rw [show wrel wt c id = setW wt c 0 from if_pos ht]; exact hR, hB⟩)
    rw [ht] at hcell
    subst hv
    clear hset h hd hR hB ht
    generalize rHold l id = rr at *
    go_enter Try.func19, Try.ntmps19
    go_wp2_with fail
    refine HI.out.mono ?_
    rintro e w1 ⟨rfl, rfl⟩
    go_wp2_with fail
    refine HH.out.mono ?_
    rintro e w1 ⟨rfl, rfl⟩
    go_wp2
    go_ret
    exact ⟨rfl, HE.out⟩
  · have HH := Lib.hid (rHolder_any h id)
    have HE := Lib.hid (show RefAt w B gr n l (wrel wt c id) vL vW ∧ But w w (rfp gr vL vW) from ⟨by rw [show wrel wt c id = wt from if_neg ht]; exact h, But.refl _ _⟩)
    have htb := nat_ne' ht
    subst hv
    clear hset h hd ht
    generalize rHold l id = rr at *
    generalize wt c = tt at *
    go_enter Try.func19, Try.ntmps19
    go_wp2_with fail
    refine HI.out.mono ?_
    rintro e w1 ⟨rfl, rfl⟩
    go_wp2_with fail
    refine HH.out.mono ?_
    rintro e w1 ⟨rfl, rfl⟩
    go_wp2
    go_ret
    exact ⟨rfl, HE.out⟩
def rmv (l : List (Nat × Nat)) (id i : Nat) : List (Nat × Nat) := (l.take i).filter (fun p => p.1 != id)
theorem rmv_next {l : List (Nat × Nat)} {id i : Nat} {p : Nat × Nat} (hp : l[i]? = some p) : rmv l id (i + 1) = if p.1 = id then rmv l id i else rmv l id i ++ [p] := by
  have hl := (List.getElem?_eq_some_iff.1 hp).1
  have e : l.take (i + 1) = l.take i ++ [p] := by rw [List.take_succ_eq_append_getElem hl, (List.getElem?_eq_some_iff.1 hp).2]
  unfold rmv
  rw [e, List.filter_append]
  by_cases h : p.1 = id
  · simp [h]
  · simp [h]
theorem rmv_len (l : List (Nat × Nat)) (id i : Nat) : (rmv l id i).length ≤ l.length := by
  have h1 := List.length_filter_le (fun p : Nat × Nat => p.1 != id) (l.take i)
  have h2 : (l.take i).length ≤ l.length := by rw [List.length_take]; omega
  exact Nat.le_trans h1 h2
theorem own2_from {w : World} {B n : Nat} {e : TypeId} {v : Value} {xs : List Value} (h : w.ownsRow B e 2 v n xs) : ∀ g, v.ownBlock = some g → B ≤ g := fun g hg => by
  rcases h.2 with ⟨rfl, _⟩ | ⟨g', cap, cur, rfl, hb, _⟩
  · cases hg
  · cases hg; exact hb
theorem own2_mono {w : World} {B B' n : Nat} {e : TypeId} {v : Value} {xs : List Value} (h : w.ownsRow B e 2 v n xs) (hb : B' ≤ B) : w.ownsRow B' e 2 v n xs := by
  refine ⟨h.1, ?_⟩
  rcases h.2 with h0 | ⟨g, cap, cur, rfl, hg, hr⟩
  · exact .inl h0
  · exact .inr ⟨g, cap, cur, rfl, Nat.le_trans hb hg, hr⟩
def RlI (W1 : World) (l : List (Nat × Nat)) (id m : Nat) (k : Nat) (v7 v8 : Value) (wr : World) : Prop :=
  ∃ i : Nat, v8 = .int .i64 (i : Int) ∧ i ≤ m ∧ m - i ≤ k ∧ wr.ownsRow W1.heap.size 67 2 v7 (rmv l id i).length (flatH (rmv l id i)) ∧ Below W1.heap.size W1 wr
set_option maxRecDepth 100000 in
set_option maxHeartbeats 4000000 in
theorem rRel_yes {w : World} {B gr n : Nat} {l : List (Nat × Nat)} {wt : Nat → Nat} {vL vW : Value} (h : RefAt w B gr n l wt vL vW) (hB : B ≤ w.heap.size) (hl : l.length ≤ 1000) {c id : Nat} (hc : c < n) (hd : rHold l id = (c : Int)) :
    Calls Try.prog 19 #[.pointer (some ⟨gr, 0, none⟩), .int .i64 (c : Int), .int .u64 (id : Int)] w fun e w' => e = .returned (.bool true) ∧ (∃ vL', RefAt w' B gr n (l.filter (fun p => p.1 != id)) (wrel wt c id) vL' vW ∧ ∀ k, vL'.ownBlock = some k → w.heap.size ≤ k) ∧ But w w' (rfp gr vL vW) := by
  obtain ⟨i0, hi, hz0, hz1, hz2⟩ := info_parts kinfoHas
  have HI := rIs_any h (c : Int)
  rw [decide_eq_true (show 0 ≤ (c : Int) ∧ (c : Int) < (n : Int) by omega)] at HI
  have HI := Lib.hid HI
  obtain ⟨gw, cap, hv, hnc, hmx, hcell, hfr, hset⟩ := h.wset hc
  have c1 := h.row.cell 1
  simp only [List.getElem?_toArray, List.getElem?_cons_succ, List.getElem?_cons_zero] at c1
  obtain ⟨m, hmm⟩ : ∃ m, m = l.length := ⟨_, rfl⟩
  have HM := Lib.hid hmm
  have hm1 : m ≤ 1000 := by omega
  obtain ⟨A, capL, hvL, _⟩ := own2_sl h.li
  rw [← hmm] at hvL
  subst hvL
  by_cases ht : wt c = id
  · obtain ⟨hR, hBu⟩ := hset 0
    have HH := rHolder_any hR id
    rw [hd] at HH
    have hs1 : (w.setCell ⟨gw, c, none⟩ (.int .u64 0)).heap.size = w.heap.size := size_set _ _ _
    rw [show setW wt c 0 = wrel wt c id from (if_pos ht).symm] at hR
    rw [ht] at hcell
    change RefAt (w.setCell ⟨gw, c, none⟩ (.int .u64 0)) _ _ _ _ _ _ _ at hR
    change But w (w.setCell ⟨gw, c, none⟩ (.int .u64 0)) _ at hBu
    change Calls _ _ _ (w.setCell ⟨gw, c, none⟩ (.int .u64 0)) (fun e w' => e = _ ∧ (w.setCell ⟨gw, c, none⟩ (.int .u64 0)) = w') at HH
    have HH := Lib.hid HH
    have HR1 := Lib.hid hR
    have HBU := Lib.hid hBu
    have HS1 := Lib.hid hs1
    subst hv
    clear hset h hd hR hBu ht hmm hs1 hl
    go_enter Try.func19, Try.ntmps19
    go_wp2_with fail
    refine HI.out.mono ?_
    rintro e w1 ⟨rfl, rfl⟩
    go_wp2_with fail
    refine HH.out.mono ?_
    rintro e w1 ⟨rfl, rfl⟩
    clear HH hcell hfr c1
    generalize hW1 : w.setCell ⟨gw, c, none⟩ (.int .u64 0) = W1 at *
    clear hW1
    have c0 := HR1.out.row.cell 0
    simp only [List.getElem?_toArray, List.getElem?_cons_zero] at c0
    go_wp2
    go_loopg [7, 8] m (fun k v7 v8 wr => RlI W1 l id m k v7 v8 wr)
    case atStart => exact ⟨0, rfl, by omega, by omega, World.ownsRow_nil _ _ _ _, Below.refl _ _⟩
    case round =>
      obtain ⟨i, rfl, him, hk, hown, hbel⟩ := hrel
      rename World => wr
      have HOW := Lib.hid hown
      have HBL := Lib.hid hbel
      have hRr := HR1.out.below hbel
      have c0 := hRr.row.cell 0
      simp only [List.getElem?_toArray, List.getElem?_cons_zero] at c0
      have f0 := hRr.row.free 0
      have HRR := Lib.hid hRr
      clear hown hbel hRr
      by_cases hlt : i < m
      · have hlt' : i < l.length := by rw [← HM.out]; exact hlt
        obtain ⟨gq, cp, cur, hvv, _, _, _, hrow, hcur⟩ := own2_shape HRR.out.li (by omega)
        obtain rfl : A = some ⟨gq, 0, none⟩ := by injection hvv
        obtain ⟨p, hp⟩ : ∃ p, l[i]? = some p := ⟨_, List.getElem?_eq_getElem hlt'⟩
        obtain ⟨e0, e1⟩ := flatH_at l i p hp
        have q0 : wr.cell? ⟨gq, i * 2, none⟩ = some (.int .u64 (p.1 : Int)) := by rw [hrow.cell]; exact hcur _ _ e0
        have q1 : wr.cell? ⟨gq, i * 2 + 1, none⟩ = some (.int .i64 (p.2 : Int)) := by rw [hrow.cell]; exact hcur _ _ e1
        have hnx := rmv_next (id := id) hp
        have HNX := Lib.hid hnx
        clear hrow hcur hvv e0 e1 hlt' hp hnx
        by_cases he : p.1 = id
        · have heb : ((p.1 : Int) != (id : Int)) = false := by simp [he]
          have HST := Lib.hid (show rmv l id (i + 1) = rmv l id i by rw [HNX.out, if_pos he])
          subst he
          go_wp2
          go_roundg (m - (i + 1))
          case measure => omega
          case rel => exact ⟨i + 1, by go_num, by omega, by omega, by rw [HST.out]; exact HOW.out, HBL.out⟩
        · have heb := nat_ne he
          have HST := Lib.hid (show flatH (rmv l id (i + 1)) = flatH (rmv l id i) ++ [.int .u64 (p.1 : Int), .int .i64 (p.2 : Int)] ∧ (rmv l id (i + 1)).length = (rmv l id i).length + 1 by
            rw [HNX.out, if_neg he]
            exact ⟨flatH_snoc _ _, by simp⟩)
          have hq : (rmv l id i).length ≤ 1000 := by
            have := rmv_len l id i
            have := HM.out
            omega
          obtain ⟨q, hqq⟩ : ∃ q, q = (rmv l id i).length := ⟨_, rfl⟩
          have HOW' := HOW.out
          rw [← hqq] at HOW' HST hq
          have HOW2 := Lib.hid HOW'
          have hbs := HBL.out.size
          clear HOW' hqq HNX
          go_wp2_with (at_builtin; refine wpList_append_own _ rfl _ _ 37 rfl W1.heap.size 67 i0 (.agg #[.int .u64 0, .int .i64 0]) 2 16 Try.underlying37 hi hz0 hz1 hz2 rfl (by decide) _ q _ rfl (HOW2.out.alloc _) ⟨wr.heap.size, 0, none⟩ 1 1 [.int .u64 (p.1 : Int), .int .i64 (p.2 : Int)] rfl rfl ?q1 ?q2 ?q3 ?q4 ?q5 ?_)
          case q1 =>
            have hr := Row.new wr 67 #[.int .u64 (p.1 : Int), .int .i64 (p.2 : Int)]
            intro j u hj
            rw [Addr.add_lit, hr.cell, Nat.zero_add]
            simpa using hj
          case q2 => simp [Value.oneCell']
          case q3 => unfold maxLen; omega
          case q4 => omega
          case q5 => simp; omega
          intro v' w2 hown' hgrow hnil
          have HFIN := Lib.hid (show RlI W1 l id m (m - (i + 1)) v' (.int .i64 ((i : Int) + 1)) w2 from
            ⟨i + 1, by simp, by omega, by omega, by rw [HST.out.1, HST.out.2]; exact hown', (HBL.out.alloc hbs _).grown hgrow (by simp; omega) (fun g hg => (own2_from HOW2.out g hg))⟩)
          clear hown' hgrow hnil
          go_wp2
          go_roundg (m - (i + 1))
          case measure => omega
          case rel => exact HFIN.out
      · have hie : i = m := by omega
        have hjd : decide ((i : Int) < (m : Int)) = false := by simp; omega
        have hlen : rmv l id i = l.filter (fun p => p.1 != id) := by rw [hie]; unfold rmv; rw [HM.out, List.take_length]
        have ho := HOW.out
        rw [hlen] at ho
        clear HOW
        obtain ⟨A7, cap7, rfl, _⟩ := own2_sl ho
        have HE : Hid ((∃ vL', RefAt (wr.setCell ⟨gr, 0, none⟩ (.slice A7 (l.filter (fun p => p.1 != id)).length cap7)) B gr n (l.filter (fun p => p.1 != id)) (wrel wt c id) vL' (.slice (some ⟨gw, 0, none⟩) n cap) ∧ ∀ k, vL'.ownBlock = some k → w.heap.size ≤ k) ∧
            But w (wr.setCell ⟨gr, 0, none⟩ (.slice A7 (l.filter (fun p => p.1 != id)).length cap7)) (rfp gr (.slice A m capL) (.slice (some ⟨gw, 0, none⟩) n cap))) := Lib.hid (by
          refine ⟨⟨_, ⟨HRR.out.row.set 0 _, ?_, own_same HRR.out.wa (fun q hq => heap_setCell_other _ _ _ _ ?_)⟩, fun k hk => by rw [← HS1.out]; exact own2_from ho k hk⟩, But.set (HBU.out.trans (But.of_below HBL.out (fun _ => False)) (fun k hk => hk.elim)) (.inl rfl) _⟩
          · refine own_same (own2_mono ho (by rw [HS1.out]; exact hB)) (fun q hq => heap_setCell_other _ _ _ _ ?_)
            obtain ⟨cs, hcs⟩ := own_tg ho hq
            exact tg_ne hcs HRR.out.row (by decide)
          · obtain ⟨cs, hcs⟩ := own_tg HRR.out.wa hq
            exact tg_ne hcs HRR.out.row (by decide))
        clear ho hlen
        go_wp2
        go_ret
        exact ⟨rfl, HE.out⟩
  · have HH := rHolder_any h id
    rw [hd] at HH
    have HH := Lib.hid HH
    have HR1 := Lib.hid (show RefAt w B gr n l (wrel wt c id) (.slice A m capL) vW by rw [show wrel wt c id = wt from if_neg ht]; exact h)
    have HBU := Lib.hid (But.refl w (rfp gr (.slice A m capL) vW))
    have htb := nat_ne' ht
    subst hv
    have HWT : Hid (wrel wt c id = wrel wt c id) := Lib.hid rfl
    clear hset h hd ht hmm hl
    obtain ⟨tt, htt⟩ : ∃ tt, tt = wt c := ⟨_, rfl⟩
    rw [← htt] at hcell htb
    clear htt
    go_enter Try.func19, Try.ntmps19
    go_wp2_with fail
    refine HI.out.mono ?_
    rintro e w1 ⟨rfl, rfl⟩
    go_wp2_with fail
    refine HH.out.mono ?_
    rintro e w1 ⟨rfl, rfl⟩
    clear HH hcell hfr c1 HI
    have c0 := HR1.out.row.cell 0
    simp only [List.getElem?_toArray, List.getElem?_cons_zero] at c0
    go_wp2
    go_loopg [7, 8] m (fun k v7 v8 wr => RlI w l id m k v7 v8 wr)
    case atStart => exact ⟨0, rfl, by omega, by omega, World.ownsRow_nil _ _ _ _, Below.refl _ _⟩
    case round =>
      obtain ⟨i, rfl, him, hk, hown, hbel⟩ := hrel
      rename World => wr
      have HOW := Lib.hid hown
      have HBL := Lib.hid hbel
      have hRr := HR1.out.below hbel
      have c0 := hRr.row.cell 0
      simp only [List.getElem?_toArray, List.getElem?_cons_zero] at c0
      have f0 := hRr.row.free 0
      have HRR := Lib.hid hRr
      clear hown hbel hRr
      by_cases hlt : i < m
      · have hlt' : i < l.length := by rw [← HM.out]; exact hlt
        obtain ⟨gq, cp, cur, hvv, _, _, _, hrow, hcur⟩ := own2_shape HRR.out.li (by omega)
        obtain rfl : A = some ⟨gq, 0, none⟩ := by injection hvv
        obtain ⟨p, hp⟩ : ∃ p, l[i]? = some p := ⟨_, List.getElem?_eq_getElem hlt'⟩
        obtain ⟨e0, e1⟩ := flatH_at l i p hp
        have q0 : wr.cell? ⟨gq, i * 2, none⟩ = some (.int .u64 (p.1 : Int)) := by rw [hrow.cell]; exact hcur _ _ e0
        have q1 : wr.cell? ⟨gq, i * 2 + 1, none⟩ = some (.int .i64 (p.2 : Int)) := by rw [hrow.cell]; exact hcur _ _ e1
        have hnx := rmv_next (id := id) hp
        have HNX := Lib.hid hnx
        clear hrow hcur hvv e0 e1 hlt' hp hnx
        by_cases he : p.1 = id
        · have heb : ((p.1 : Int) != (id : Int)) = false := by simp [he]
          have HST := Lib.hid (show rmv l id (i + 1) = rmv l id i by rw [HNX.out, if_pos he])
          subst he
          go_wp2
          go_roundg (m - (i + 1))
          case measure => omega
          case rel => exact ⟨i + 1, by go_num, by omega, by omega, by rw [HST.out]; exact HOW.out, HBL.out⟩
        · have heb := nat_ne he
          have HST := Lib.hid (show flatH (rmv l id (i + 1)) = flatH (rmv l id i) ++ [.int .u64 (p.1 : Int), .int .i64 (p.2 : Int)] ∧ (rmv l id (i + 1)).length = (rmv l id i).length + 1 by
            rw [HNX.out, if_neg he]
            exact ⟨flatH_snoc _ _, by simp⟩)
          have hq : (rmv l id i).length ≤ 1000 := by
            have := rmv_len l id i
            have := HM.out
            omega
          obtain ⟨q, hqq⟩ : ∃ q, q = (rmv l id i).length := ⟨_, rfl⟩
          have HOW' := HOW.out
          rw [← hqq] at HOW' HST hq
          have HOW2 := Lib.hid HOW'
          have hbs := HBL.out.size
          clear HOW' hqq HNX
          go_wp2_with (at_builtin; refine wpList_append_own _ rfl _ _ 37 rfl w.heap.size 67 i0 (.agg #[.int .u64 0, .int .i64 0]) 2 16 Try.underlying37 hi hz0 hz1 hz2 rfl (by decide) _ q _ rfl (HOW2.out.alloc _) ⟨wr.heap.size, 0, none⟩ 1 1 [.int .u64 (p.1 : Int), .int .i64 (p.2 : Int)] rfl rfl ?q1 ?q2 ?q3 ?q4 ?q5 ?_)
          case q1 =>
            have hr := Row.new wr 67 #[.int .u64 (p.1 : Int), .int .i64 (p.2 : Int)]
            intro j u hj
            rw [Addr.add_lit, hr.cell, Nat.zero_add]
            simpa using hj
          case q2 => simp [Value.oneCell']
          case q3 => unfold maxLen; omega
          case q4 => omega
          case q5 => simp; omega
          intro v' w2 hown' hgrow hnil
          have HFIN := Lib.hid (show RlI w l id m (m - (i + 1)) v' (.int .i64 ((i : Int) + 1)) w2 from
            ⟨i + 1, by simp, by omega, by omega, by rw [HST.out.1, HST.out.2]; exact hown', (HBL.out.alloc hbs _).grown hgrow (by simp; omega) (fun g hg => (own2_from HOW2.out g hg))⟩)
          clear hown' hgrow hnil
          go_wp2
          go_roundg (m - (i + 1))
          case measure => omega
          case rel => exact HFIN.out
      · have hie : i = m := by omega
        have hjd : decide ((i : Int) < (m : Int)) = false := by simp; omega
        have hlen : rmv l id i = l.filter (fun p => p.1 != id) := by rw [hie]; unfold rmv; rw [HM.out, List.take_length]
        have ho := HOW.out
        rw [hlen] at ho
        clear HOW
        obtain ⟨A7, cap7, rfl, _⟩ := own2_sl ho
        have HE : Hid ((∃ vL', RefAt (wr.setCell ⟨gr, 0, none⟩ (.slice A7 (l.filter (fun p => p.1 != id)).length cap7)) B gr n (l.filter (fun p => p.1 != id)) (wrel wt c id) vL' (.slice (some ⟨gw, 0, none⟩) n cap) ∧ ∀ k, vL'.ownBlock = some k → w.heap.size ≤ k) ∧
            But w (wr.setCell ⟨gr, 0, none⟩ (.slice A7 (l.filter (fun p => p.1 != id)).length cap7)) (rfp gr (.slice A m capL) (.slice (some ⟨gw, 0, none⟩) n cap))) := Lib.hid (by
          refine ⟨⟨_, ⟨HRR.out.row.set 0 _, ?_, own_same HRR.out.wa (fun q hq => heap_setCell_other _ _ _ _ ?_)⟩, own2_from ho⟩, But.set (HBU.out.trans (But.of_below HBL.out (fun _ => False)) (fun k hk => hk.elim)) (.inl rfl) _⟩
          · refine own_same (own2_mono ho hB) (fun q hq => heap_setCell_other _ _ _ _ ?_)
            obtain ⟨cs, hcs⟩ := own_tg ho hq
            exact tg_ne hcs HRR.out.row (by decide)
          · obtain ⟨cs, hcs⟩ := own_tg HRR.out.wa hq
            exact tg_ne hcs HRR.out.row (by decide))
        clear ho hlen
        go_wp2
        go_ret
        exact ⟨rfl, HE.out⟩
end Go.Proofs.Ytgclbeagifoifaa
