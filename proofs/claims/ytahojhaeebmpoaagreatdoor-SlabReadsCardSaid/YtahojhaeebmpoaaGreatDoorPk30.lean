/- Texts of this claim, packed: LGive. -/
import Derived.Test.YtahojhaeebmpoaaGreatDoorPk29
import Derived.Test.YtahojhaeebmpoaaGreatDoorPk06
import Derived.Deep.Cut
/- give: a slab has a class, and blocks that are free, or published. -/
namespace Go.Proofs.YtahojhaeebmpoaaGreatDoor
open Go.RowKit Go.Sort
set_option linter.unusedVariables false
/-- What a slab's blocks are, of which the first k are known. -/
def blK (n b k : Nat) : List Nat := (List.range n).map fun j => if j < k ∧ b.testBit j = true then 2 else 0
theorem blK_len (n b k : Nat) : (blK n b k).length = n := by simp [blK]
theorem blK_set {n b k v : Nat} (hv : v = if b.testBit k = true then 2 else 0) : (blK n b k).set k v = blK n b (k + 1) := by
  apply List.ext_getElem?
  intro q
  rw [List.getElem?_set, blK_len]
  unfold blK
  rw [List.getElem?_map, List.getElem?_map]
  by_cases hq : q < n
  · rw [List.getElem?_range hq, Option.map_some, Option.map_some]
    by_cases e : k = q
    · subst e
      rw [if_pos rfl, if_pos hq, hv]
      by_cases hb : b.testBit k = true
      · rw [if_pos hb, if_pos ⟨by omega, hb⟩]
      · rw [if_neg hb, if_neg (fun h => hb h.2)]
    · rw [if_neg e]
      by_cases h1 : q < k ∧ b.testBit q = true
      · rw [if_pos h1, if_pos ⟨by omega, h1.2⟩]
      · rw [if_neg h1, if_neg (fun h => h1 ⟨by omega, h.2⟩)]
  · rw [List.getElem?_eq_none (l := List.range n) (by simpa using hq)]
    by_cases e : k = q
    · subst e; rw [if_pos rfl, if_neg hq]; rfl
    · rw [if_neg e]; rfl
theorem blK_zero (n b : Nat) : blK n b 0 = List.replicate n 0 := by
  apply List.ext_getElem?
  intro q
  unfold blK
  rw [List.getElem?_map, List.getElem?_replicate]
  by_cases hq : q < n
  · rw [List.getElem?_range hq, if_pos hq, Option.map_some, if_neg (by omega)]
  · rw [List.getElem?_eq_none (l := List.range n) (by simpa using hq), if_neg hq]; rfl
/-- A class's set behind the first k blocks of a new slab. -/
def grown (no c b : Nat) (s : List Nat) : Nat → List Nat
  | 0 => s
  | k + 1 => if b.testBit k = true then grown no c b s k else ins (adr no c k) (grown no c b s k)
theorem grown_len (no c b : Nat) (s : List Nat) (k : Nat) : (grown no c b s k).length ≤ s.length + k := by
  induction k with
  | zero => exact Nat.le_refl _
  | succ k ih =>
    unfold grown
    split
    · omega
    · have := ins_len (adr no c k) (grown no c b s k); omega
theorem infoI2 : (Tryz.prog.info? 3).map (fun i => (i.zero, i.size, i.bytes)) = some (some (.int .i64 0), 1, 8) := by kernel_rfl
theorem SlabMem.give0 {w W : World} {y : SLay} {hs : List Hd} {fs : Nat → List Nat} (h : SlabMem w y hs fs) {i : Nat} {x : Hd} (hx : hs[i]? = some x) {c b n g : Nat} {cs : Array Value} (hc : HCells y.bv hs cs) (hn : n ≤ 15) (hc3 : c ≤ 3)
    (hbut : But w W (fun k => k = y.gh)) (hr : Row W y.gh 91 (((cs.setIfInBounds (i * 4 + 1) (jv c)).setIfInBounds (i * 4 + 2) (wv b)).setIfInBounds (i * 4 + 3) (.slice (some ⟨g, 0, none⟩) n n)))
    (hI : Row W g 3 ((List.replicate n 0).map jv).toArray) (hg : w.heap.size ≤ g) :
    SlabMem W { y with bv := updF y.bv i (.slice (some ⟨g, 0, none⟩) n n) } (hs.set i ⟨x.no, c, b, List.replicate n 0⟩) fs ∧ STurn w W y { y with bv := updF y.bv i (.slice (some ⟨g, 0, none⟩) n n) } := by
  have hil := (List.getElem?_eq_some_iff.1 hx).1
  obtain ⟨cs0, hr0, _⟩ := h.hdr
  have hsz := hc.1
  have hlt : ∀ k z, hs[k]? = some z → ∀ q, (y.bv k).ownBlock = some q → q < w.heap.size := fun k z hz q hq => ((h.blk k z hz).row hq).lt
  refine ⟨{ h with
    row := by rw [List.length_set]; exact hbut.row h.row h.gs_gh
    hdr := ⟨_, hr, by simp only [Array.size_setIfInBounds, List.length_set]; exact hsz, fun k z hz => ?_⟩
    blk := fun k z hz => ?_
    bne := fun a d ha hd hne q hq hq' => ?_
    fre := fun d hd => (h.fre d hd).keep hbut fun k hk e => ?_
    len := by rw [List.length_set]; exact h.len
    pos := by rw [List.length_set]; exact h.pos
    most := by rw [List.length_set]; exact h.most
    lens := fun z hz => ?_ }, ⟨rfl, rfl, rfl, hbut.mono fun k e => .inr (.inl e), fun k hk => ?_⟩⟩
  · rw [List.getElem?_set] at hz
    by_cases e : i = k
    · subst e
      rw [if_pos rfl, if_pos hil] at hz
      cases hz
      obtain ⟨h0, h1, h2, h3⟩ := hc.2 i x hx
      refine ⟨?_, ?_, ?_, ?_⟩
      · rw [Array.getElem?_setIfInBounds, if_neg (by omega), Array.getElem?_setIfInBounds, if_neg (by omega), Array.getElem?_setIfInBounds, if_neg (by omega)]; exact h0
      · rw [Array.getElem?_setIfInBounds, if_neg (by omega), Array.getElem?_setIfInBounds, if_neg (by omega), Array.getElem?_setIfInBounds, if_pos rfl, if_pos (by omega)]
      · rw [Array.getElem?_setIfInBounds, if_neg (by omega), Array.getElem?_setIfInBounds, if_pos rfl, if_pos (by simp only [Array.size_setIfInBounds]; omega)]
      · rw [Array.getElem?_setIfInBounds, if_pos rfl, if_pos (by simp only [Array.size_setIfInBounds]; omega)]
        show _ = some (updF y.bv i _ i)
        rw [updF_at]
    · rw [if_neg e] at hz
      obtain ⟨h0, h1, h2, h3⟩ := hc.2 k z hz
      refine ⟨?_, ?_, ?_, ?_⟩ <;> rw [Array.getElem?_setIfInBounds, if_neg (by omega), Array.getElem?_setIfInBounds, if_neg (by omega), Array.getElem?_setIfInBounds, if_neg (by omega)]
      · exact h0
      · exact h1
      · exact h2
      · show _ = some (updF y.bv i _ k)
        rw [updF_ne _ _ (Ne.symm e)]
        exact h3
  · rw [List.getElem?_set] at hz
    by_cases e : i = k
    · subst e
      rw [if_pos rfl, if_pos hil] at hz
      cases hz
      show Ints W (updF y.bv i _ i) _
      rw [updF_at]
      exact .inr ⟨g, by rw [List.length_replicate], hI⟩
    · rw [if_neg e] at hz
      show Ints W (updF y.bv i _ k) _
      rw [updF_ne _ _ (Ne.symm e)]
      exact (h.blk k z hz).keep hbut fun q hq eq => tagNe ((h.blk k z hz).row hq).tag hr0.tag (by decide) eq
  · rw [List.length_set] at ha hd
    have hq1 : (updF y.bv i (.slice (some ⟨g, 0, none⟩) n n) a).ownBlock = some q := hq
    have hq2 : (updF y.bv i (.slice (some ⟨g, 0, none⟩) n n) d).ownBlock = some q := hq'
    by_cases e : a = i
    · subst e
      rw [updF_at] at hq1
      rw [updF_ne _ _ (Ne.symm hne)] at hq2
      have eg : g = q := Option.some.inj hq1
      have := hlt d _ (List.getElem?_eq_getElem hd) _ hq2
      omega
    · rw [updF_ne _ _ e] at hq1
      by_cases e2 : d = i
      · subst e2
        rw [updF_at] at hq2
        have eg : g = q := Option.some.inj hq2
        have := hlt a _ (List.getElem?_eq_getElem ha) _ hq1
        omega
      · rw [updF_ne _ _ e2] at hq2
        exact h.bne a d ha hd hne q hq1 hq2
  · subst e
    rcases hk with e | hk
    · exact tagNe (h.fre d hd).tags.1 hr0.tag (by decide) e.symm
    · exact tagNe ((h.fre d hd).tags.2 _ hk) hr0.tag (by decide) rfl
  · rcases mem_set hz with h1 | rfl
    · exact h.lens z h1
    · exact ⟨by rw [List.length_replicate]; exact hn, hc3⟩
  · rcases hk with rfl | rfl | hk | ⟨q, hq, hk⟩
    · exact .inl (.inl rfl)
    · exact .inl (.inr (.inl rfl))
    · exact .inl (.inr (.inr (.inl hk)))
    · have hk' : (updF y.bv i (.slice (some ⟨g, 0, none⟩) n n) q).ownBlock = some k := hk
      by_cases e : q = i
      · subst e
        rw [updF_at] at hk'
        cases hk'
        exact .inr hg
      · rw [updF_ne _ _ e] at hk'
        exact .inl (.inr (.inr (.inr ⟨q, hq, hk'⟩)))
def GiveR (w : World) (y : SLay) (hs : List Hd) (fs : Nat → List Nat) (i no c b : Nat) (v : Value) (wr : World) : Prop :=
  ∃ k : Nat, k ≤ blN c ∧ v = .int .i64 (k : Int) ∧ ∃ y', SlabMem wr y' (hs.set i ⟨no, c, b, blK (blN c) b k⟩) (updF fs c (grown no c b (fs c) k)) ∧ STurn w wr y y'
set_option maxRecDepth 100000 in
set_option maxHeartbeats 1600000 in
theorem give_any {w : World} {y : SLay} {hs : List Hd} {fs : Nat → List Nat} (h : SlabMem w y hs fs) (R : RS w y) {i : Nat} {x : Hd} (hx : hs[i]? = some x) (hno : 1 ≤ x.no ∧ x.no ≤ 64) {c b : Nat} (hc3 : c ≤ 3) (hb : b < 18446744073709551616) (hfew : (fs c).length + 15 ≤ 100000) :
    Calls Tryz.prog 38 #[fpt y.gs, .pointer (some ⟨y.gh, i * 4, none⟩), jv c, wv b] w (SPost w y (hs.set i ⟨x.no, c, b, blK (blN c) b (blN c)⟩) (updF fs c (grown x.no c b (fs c) (blN c))) (.tuple #[])) := by
  have hil := (List.getElem?_eq_some_iff.1 hx).1
  have hn15 := blN_le c
  obtain ⟨cs, hr, hcs⟩ := h.hdr
  have hsz := hcs.1
  have hcx := hcs.2 i x hx
  have f1 := hr.free (i * 4 + 1)
  have f2 := hr.free (i * 4 + 2)
  have c1 := (h.head hx).2.1
  have c2 := (h.head hx).2.2.1
  obtain ⟨W1, hW1⟩ : ∃ W1, W1 = (w.setCell ⟨y.gh, i * 4 + 1, none⟩ (.int .i64 (c : Int))).setCell ⟨y.gh, i * 4 + 2, none⟩ (.int .u64 (b : Int)) := ⟨_, rfl⟩
  have hr1 : Row W1 y.gh 91 ((cs.setIfInBounds (i * 4 + 1) (jv c)).setIfInBounds (i * 4 + 2) (wv b)) := by rw [hW1]; exact (hr.set (i * 4 + 1) (jv c)).set (i * 4 + 2) (wv b)
  have hb1 : But w W1 (fun k => k = y.gh) := by rw [hW1]; exact ((But.refl w (fun k => k = y.gh)).set (p := ⟨y.gh, i * 4 + 1, none⟩) (by rfl) _).set (p := ⟨y.gh, i * 4 + 2, none⟩) (by rfl) _
  have hsz1 : W1.heap.size = w.heap.size := by rw [hW1]; simp
  have R1 : Rms W1 := R.1.but hb1 (fun e => R.2 (.inr (.inl e)))
  have HG := Lib.hid (blocks_any (c : Int) W1 R1)
  rw [blN_C] at HG
  obtain ⟨i0, hi, hz0, hz1, hz2⟩ := info_parts infoI2
  obtain ⟨n, hn⟩ : ∃ n, n = blN c := ⟨_, rfl⟩
  rw [← hn] at HG hn15
  have hm1 := fun W : World => run_make (P := Tryz.prog) W 47 3 i0 _ Tryz.underlying47 hi hz0 .i64 .i64 ((n : Nat) : Int) ((n : Nat) : Int) (by omega) (by omega) (by rw [hz2]; omega) (by omega)
  simp only [Int.toNat_natCast, hz1] at hm1
  have HM := Lib.hid h
  have HRS := Lib.hid R
  have HX := Lib.hid hx
  have HNN := Lib.hid hn
  have HCS := Lib.hid hcs
  have HB1 := Lib.hid hb1
  have HR1 := Lib.hid hr1
  have HHB := Lib.hid fun (j : Int) (h0 : -9223372036854775808 ≤ j) (h1 : j ≤ 9223372036854775807) (W : World) => bHas_any hb h0 h1 W
  have HSZ := Lib.hid hsz1
  obtain ⟨gs, hgs⟩ : ∃ gs, gs = y.gs := ⟨_, rfl⟩
  obtain ⟨gh, hgh⟩ : ∃ gh, gh = y.gh := ⟨_, rfl⟩
  rw [← hgh] at f1 f2 c1 c2 hW1
  rw [← hgs, ← hgh]
  have HGS := Lib.hid hgs
  have HGH := Lib.hid hgh
  obtain ⟨no, hnoe⟩ : ∃ no, no = x.no := ⟨_, rfl⟩
  rw [← hnoe] at hno ⊢
  have HNO := Lib.hid hnoe
  have hbl := Lib.hid hb
  unfold jv at c1
  unfold wv at c2
  unfold jv fpt wv
  clear h R hx hcs hr hcx hb1 hr1 R1 hn hgs hgh hnoe hsz hsz1 hb
  go_enter Tryz.func38, Tryz.ntmps38
  go_wp2_with fail
  rw [← hW1]
  clear hW1 c1 c2 f1 f2
  refine HG.out.mono ?_
  rintro e w2 ⟨rfl, hg2⟩
  have hr2 := HR1.out.below hg2.all HR1.out.lt
  rw [← HGH.out] at hr2
  have c3 := hr2.cell (i * 4 + 3)
  rw [Array.getElem?_setIfInBounds, if_neg (by omega), Array.getElem?_setIfInBounds, if_neg (by omega), (HCS.out.2 i x HX.out).2.2.2] at c3
  have f3 := hr2.free (i * 4 + 3)
  have HR2 := Lib.hid hr2
  have HG2 := Lib.hid hg2
  clear hr2 hg2
  obtain ⟨u3, hu3⟩ : ∃ u, u = y.bv i := ⟨_, rfl⟩
  rw [← hu3] at c3
  clear hu3
  have hr3 := HR2.out.alloc (.cells (madeCells #[.int .i64 0] n) 3)
  have c4 : (w2.alloc (.cells (madeCells #[.int .i64 0] n) 3)).cell? ⟨gh, i * 4 + 3, none⟩ = some u3 := by rw [hr3.cell, ← HR2.out.cell]; exact c3
  have f4 := hr3.free (i * 4 + 3)
  have HR3 := Lib.hid hr3
  clear hr3 c3 f3
  go_upto_region 2 with (fail)
  obtain ⟨W3, hW3⟩ : ∃ W3, W3 = (w2.alloc (.cells (madeCells #[.int .i64 0] n) 3)).setCell ⟨gh, i * 4 + 3, none⟩ (.slice (some ⟨w2.heap.size, 0, none⟩) n n) := ⟨_, rfl⟩
  rw [← hW3]
  have hgsz : w.heap.size ≤ w2.heap.size := by have := HG2.out.all.size; have := HSZ.out; omega
  have HST := Lib.hid (show ∃ y1, SlabMem W3 y1 (hs.set i ⟨no, c, b, List.replicate n 0⟩) fs ∧ STurn w W3 y y1 from by
    have hne : gh ≠ w2.heap.size := by have := HR2.out.lt; omega
    have hbb : But w W3 (fun k => k = y.gh) := by
      rw [hW3, HGH.out]
      exact ((HB1.out.trans (But.of_below HG2.out.all (fun k => k = y.gh)) (fun k hk => .inl hk)).alloc _).set (p := ⟨y.gh, i * 4 + 3, none⟩) (by rfl) _
    rw [HNO.out]
    refine ⟨_, HM.out.give0 (W := W3) (b := b) (g := w2.heap.size) HX.out HCS.out hn15 hc3 hbb ?_ ?_ hgsz⟩
    · rw [← HGH.out, hW3]
      exact HR3.out.set (i * 4 + 3) _
    · rw [hW3]
      refine Row.other (p := ⟨gh, i * 4 + 3, none⟩) ?_ (Ne.symm hne) _
      have e : (List.replicate n 0).map jv = List.replicate n (.int .i64 0) := by rw [List.map_replicate]; rfl
      rw [e, ← madeCells_one]
      exact Row.new _ _ _)
  obtain ⟨y1, hm1, ht1⟩ := HST.out
  have hil' : ∀ z : Hd, (hs.set i z)[i]? = some z := fun z => by rw [List.getElem?_set, if_pos rfl, if_pos hil]
  have HIL := Lib.hid hil'
  have c5 := (hm1.head (hil' _)).2.2.2
  rw [ht1.gh, ← HGH.out] at c5
  obtain ⟨ad, hsh⟩ := (hm1.blk i _ (hil' _)).shape
  rw [hsh, List.length_replicate] at c5
  have HM1 := Lib.hid hm1
  have HT1 := Lib.hid ht1
  clear hW3 hgsz hm1 ht1 hsh hil' c4 f4 HST
  go_wp2
  go_loopw [28] (fun v wr => GiveR w y hs fs i no c b v wr) (fun v _ => n - (intOf v).toNat)
  case atStart => exact ⟨0, Nat.zero_le _, rfl, y1, by rw [blK_zero, ← HNN.out]; show SlabMem W3 y1 _ (updF fs c (fs c)); rw [updF_same]; exact HM1.out, HT1.out⟩
  case round =>
    obtain ⟨k, hk, rfl, y', hm, ht⟩ := hrel
    rename World => wr
    clear c5 HM1 HT1
    have HT := Lib.hid ht
    have hk : k ≤ n := by rw [HNN.out]; exact hk
    by_cases hlt : k < n
    · have hx' := HIL.out ⟨no, c, b, blK (blN c) b k⟩
      have hg := (hm.head hx').2.2.2
      rw [ht.gh, ← HGH.out] at hg
      obtain ⟨g, hsh, hr⟩ := (hm.blk i _ hx').pos (by rw [blK_len, ← HNN.out]; omega)
      rw [hsh, blK_len, ← HNN.out] at hg
      have hown : (y'.bv i).ownBlock = some g := by rw [hsh]; rfl
      have hkb : k < (blK (blN c) b k).length := by rw [blK_len, ← HNN.out]; exact hlt
      have hj0 : (-9223372036854775808 : Int) ≤ (k : Int) := by omega
      have hj1 : (k : Int) ≤ 9223372036854775807 := by omega
      have HA := Lib.hid (HHB.out (k : Int) hj0 hj1 wr)
      rw [hasB_in ⟨by omega, by omega⟩, Int.toNat_natCast] at HA
      have HM' := Lib.hid hm
      have HX' := Lib.hid hx'
      have HOW := Lib.hid hown
      have HKB := Lib.hid hkb
      have cj := hr.cell k
      rw [List.getElem?_toArray, List.getElem?_map, List.getElem?_eq_getElem hkb, Option.map_some] at cj
      obtain ⟨u, cj'⟩ : ∃ u, wr.cell? ⟨g, k, none⟩ = some u := ⟨_, cj⟩
      clear cj
      have fj := hr.free k
      unfold wv at HA
      cases hbit : b.testBit k with
      | true =>
        rw [hbit] at HA
        have HBT := Lib.hid hbit
        clear hm ht hx' hsh hr hown hkb hj0 hj1 hk hbit
        go_wp2_with fail
        refine HA.out.mono ?_
        rintro e w3 ⟨rfl, rfl⟩
        go_wp2
        go_roundw
        case rel =>
          have hp := HM'.out.put_bl (j := k) HX'.out HOW.out 2
          rw [List.set_set] at hp
          refine ⟨k + 1, by rw [← HNN.out]; exact hlt, by go_num, y', ?_, HT.out.trans hp.2⟩
          have e1 : (blK (blN c) b k).set k 2 = blK (blN c) b (k + 1) := blK_set (by rw [if_pos HBT.out])
          have e2 : grown no c b (fs c) (k + 1) = grown no c b (fs c) k := by show (if _ then _ else _) = _; rw [if_pos HBT.out]
          rw [e2, ← e1]
          exact hp.1
        case measure => simp [intOf]; omega
      | false =>
        rw [hbit] at HA
        have HBT := Lib.hid hbit
        have HL := Lib.hid (leave_any hm (HRS.out.turn ht) hx' (by show 1 ≤ no ∧ no ≤ 64; exact hno) hkb (by show k < blN c; rw [← HNN.out]; exact hlt) (by show (updF fs c _ c).length + 1 ≤ 100000; rw [updF_at]; have := grown_len no c b (fs c) k; omega))
        unfold fpt jv at HL
        rw [ht.gs, ht.gh, ← HGS.out, ← HGH.out] at HL
        clear hm ht hx' hsh hr hown hkb hj0 hj1 hk hbit hg cj' fj
        go_wp2_with fail
        refine HA.out.mono ?_
        rintro e w3 ⟨rfl, rfl⟩
        go_wp2_with fail
        refine HL.out.mono ?_
        rintro e w4 ⟨rfl, y4, hm4, ht4⟩
        have HM4 := Lib.hid hm4
        have HT4 := Lib.hid ht4
        clear hm4 ht4
        go_wp2
        go_roundw
        case rel =>
          have hm4 := HM4.out
          rw [List.set_set] at hm4
          refine ⟨k + 1, by rw [← HNN.out]; exact hlt, by go_num, y4, ?_, HT.out.trans HT4.out⟩
          have e1 : (blK (blN c) b k).set k 0 = blK (blN c) b (k + 1) := blK_set (by rw [if_neg (by rw [HBT.out]; decide)])
          have e2 : grown no c b (fs c) (k + 1) = ins (adr no c k) (grown no c b (fs c) k) := by show (if _ then _ else _) = _; rw [if_neg (by rw [HBT.out]; decide)]
          have e3 : updF (updF fs c (grown no c b (fs c) k)) c (ins (adr no c k) (updF fs c (grown no c b (fs c) k) c)) = updF fs c (ins (adr no c k) (grown no c b (fs c) k)) := by
            rw [updF_at]
            funext d
            unfold updF
            split <;> rfl
          rw [e2, ← e1, ← e3]
          exact hm4
        case measure => simp [intOf]; omega
    · have hkn : k = n := by omega
      have HE := Lib.hid (show SPost w y (hs.set i ⟨no, c, b, blK (blN c) b (blN c)⟩) (updF fs c (grown no c b (fs c) (blN c))) (.tuple #[]) (.returned (.tuple #[])) wr from ⟨rfl, y', by rw [hkn, HNN.out] at hm; exact hm, ht⟩)
      clear hm ht hk hkn
      go_wp2
      refine bodyPost_ret (results_none rfl _ _ _) rfl ?_
      exact HE.out
end Go.Proofs.YtahojhaeebmpoaaGreatDoor
