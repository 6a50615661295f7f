/- Texts of this claim, packed: LGive, LLoad, LOfS, LOf, LFree, SiA, LClaim, LRes, LRoom, LCount, LRsv, LRel. -/
import Derived.Test.YtkbklooocdfcfaaGreatDoorPz37
import Derived.Test.YtkbklooocdfcfaaGreatDoorPz05
import Derived.Test.YtkbklooocdfcfaaGreatDoorPz31
import Derived.Test.YtkbklooocdfcfaaGreatDoorPz38
import Derived.Test.YtkbklooocdfcfaaGreatDoorPz29
import Derived.Deep.Cut
import Derived.Deep.RegionHeld3
import Derived.WalkMore
import Derived.Carry
set_option linter.unusedVariables false
set_option maxRecDepth 100000
set_option maxHeartbeats 6400000
namespace Go.Proofs.YtkbklooocdfcfaaGreatDoor
open Go.RowKit Go.Sort
def blK (n b k : Nat) : List Nat := (List.range n).map fun j => if j < k /\ b.testBit j = true then 2 else 0
theorem blK_len (n b k : Nat) : (blK n b k).length = n := by simp [blK]
theorem blK_set {n b k v : Nat} (hv : v = if b.testBit k = true then 2 else 0) : (blK n b k).set k v = blK n b (k + 1) := by
 apply List.ext_getElem?
 intro q
 rw [List.getElem?_set, blK_len]
 unfold blK
 rw [List.getElem?_map, List.getElem?_map]
 by_cases hq : q < n
 ·rw [List.getElem?_range hq, Option.map_some, Option.map_some]
  by_cases e : k = q
  ·subst e
   rw [if_pos rfl, if_pos hq, hv]
   by_cases hb : b.testBit k = true
   ·rw [if_pos hb, if_pos ⟨by omega, hb⟩]
   ·rw [if_neg hb, if_neg (fun h => hb h.2)]
  ·rw [if_neg e]
   by_cases h1 : q < k /\ b.testBit q = true
   ·rw [if_pos h1, if_pos ⟨by omega, h1.2⟩]
   ·rw [if_neg h1, if_neg (fun h => h1 ⟨by omega, h.2⟩)]
 ·rw [List.getElem?_eq_none (l := List.range n) (by simpa using hq)]
  by_cases e : k = q
  ·subst e; rw [if_pos rfl, if_neg hq]; rfl
  ·rw [if_neg e]; rfl
theorem blK_zero (n b : Nat) : blK n b 0 = List.replicate n 0 := by
 apply List.ext_getElem?
 intro q
 unfold blK
 rw [List.getElem?_map, List.getElem?_replicate]
 by_cases hq : q < n
 ·rw [List.getElem?_range hq, if_pos hq, Option.map_some, if_neg (by omega)]
 ·rw [List.getElem?_eq_none (l := List.range n) (by simpa using hq), if_neg hq]; rfl
def grown (no c b : Nat) (s : List Nat) : Nat -> List Nat
 | 0 => s
 | k + 1 => if b.testBit k = true then grown no c b s k else ins (adr no c k) (grown no c b s k)
theorem grown_len (no c b : Nat) (s : List Nat) (k : Nat) : (grown no c b s k).length <= s.length + k := by
 induction k with
 | zero => exact Nat.le_refl _
 | succ k ih =>
  unfold grown
  split
  ·omega
  ·have := ins_len (adr no c k) (grown no c b s k); omega
theorem infoI2 : (Tryz.prog.info? 3).map (fun i => (i.zero, i.size, i.bytes)) = some (some (.int .i64 0), 1, 8) := by kernel_rfl
theorem SlabMem.give0 {w W : World} {y : SLay} {hs : List Hd} {fs : Nat -> List Nat} (h : SlabMem w y hs fs) {i : Nat} {x : Hd} (hx : hs[i]? = some x) {c b n g : Nat} {cs : Array Value} (hc : HCells y.bv hs cs) (hn : n <= 15) (hc3 : c <= 3)
  (hbut : But w W (fun k => k = y.gh)) (hr : Row W y.gh 129 (((cs.setIfInBounds (i * 4 + 1) (jv c)).setIfInBounds (i * 4 + 2) (wv b)).setIfInBounds (i * 4 + 3) (.slice (some ⟨g, 0, none⟩) n n)))
  (hI : Row W g 3 ((List.replicate n 0).map jv).toArray) (hg : w.heap.size <= g) :
  SlabMem W { y with bv := updF y.bv i (.slice (some ⟨g, 0, none⟩) n n) } (hs.set i ⟨x.no, c, b, List.replicate n 0⟩) fs /\ STurn w W y { y with bv := updF y.bv i (.slice (some ⟨g, 0, none⟩) n n) } := by
 have hil := (List.getElem?_eq_some_iff.1 hx).1
 obtain ⟨cs0, hr0, _⟩ := h.hdr
 have hsz := hc.1
 have hlt : ∀ k z, hs[k]? = some z -> ∀ q, (y.bv k).ownBlock = some q -> q < w.heap.size := fun k z hz q hq => ((h.blk k z hz).row hq).lt
 refine ⟨{ h with
  row := by rw [List.length_set]; exact hbut.row h.row h.gs_gh
  hdr := ⟨_, hr, by simp only [Array.size_setIfInBounds, List.length_set]; exact hsz, fun k z hz => ?_⟩
  blk := fun k z hz => ?_
  bne := fun a d ha hd hne q hq hq' => ?_
  fre := fun d hd => (h.fre d hd).keep hbut fun k hk e => ?_
  len := by rw [List.length_set]; exact h.len
  pos := by rw [List.length_set]; exact h.pos
  most := by rw [List.length_set]; exact h.most
  lens := fun z hz => ?_ }, ⟨rfl, rfl, rfl, hbut.mono fun k e => .inr (.inl e), fun k hk => ?_⟩⟩
 ·rw [List.getElem?_set] at hz
  by_cases e : i = k
  ·subst e
   rw [if_pos rfl, if_pos hil] at hz
   cases hz
   obtain ⟨h0, h1, h2, h3⟩ := hc.2 i x hx
   refine ⟨?_, ?_, ?_, ?_⟩
   ·rw [Array.getElem?_setIfInBounds, if_neg (by omega), Array.getElem?_setIfInBounds, if_neg (by omega), Array.getElem?_setIfInBounds, if_neg (by omega)]; exact h0
   ·rw [Array.getElem?_setIfInBounds, if_neg (by omega), Array.getElem?_setIfInBounds, if_neg (by omega), Array.getElem?_setIfInBounds, if_pos rfl, if_pos (by omega)]
   ·rw [Array.getElem?_setIfInBounds, if_neg (by omega), Array.getElem?_setIfInBounds, if_pos rfl, if_pos (by simp only [Array.size_setIfInBounds]; omega)]
   ·rw [Array.getElem?_setIfInBounds, if_pos rfl, if_pos (by simp only [Array.size_setIfInBounds]; omega)]
    show _ = some (updF y.bv i _ i)
    rw [updF_at]
  ·rw [if_neg e] at hz
   obtain ⟨h0, h1, h2, h3⟩ := hc.2 k z hz
   refine ⟨?_, ?_, ?_, ?_⟩ <;> rw [Array.getElem?_setIfInBounds, if_neg (by omega), Array.getElem?_setIfInBounds, if_neg (by omega), Array.getElem?_setIfInBounds, if_neg (by omega)]
   ·exact h0
   ·exact h1
   ·exact h2
   ·show _ = some (updF y.bv i _ k)
    rw [updF_ne _ _ (Ne.symm e)]
    exact h3
 ·rw [List.getElem?_set] at hz
  by_cases e : i = k
  ·subst e
   rw [if_pos rfl, if_pos hil] at hz
   cases hz
   show Ints W (updF y.bv i _ i) _
   rw [updF_at]
   exact .inr ⟨g, by rw [List.length_replicate], hI⟩
  ·rw [if_neg e] at hz
   show Ints W (updF y.bv i _ k) _
   rw [updF_ne _ _ (Ne.symm e)]
   exact (h.blk k z hz).keep hbut fun q hq eq => tagNe ((h.blk k z hz).row hq).tag hr0.tag (by decide) eq
 ·rw [List.length_set] at ha hd
  have hq1 : (updF y.bv i (.slice (some ⟨g, 0, none⟩) n n) a).ownBlock = some q := hq
  have hq2 : (updF y.bv i (.slice (some ⟨g, 0, none⟩) n n) d).ownBlock = some q := hq'
  by_cases e : a = i
  ·subst e
   rw [updF_at] at hq1
   rw [updF_ne _ _ (Ne.symm hne)] at hq2
   have eg : g = q := Option.some.inj hq1
   have := hlt d _ (List.getElem?_eq_getElem hd) _ hq2
   omega
  ·rw [updF_ne _ _ e] at hq1
   by_cases e2 : d = i
   ·subst e2
    rw [updF_at] at hq2
    have eg : g = q := Option.some.inj hq2
    have := hlt a _ (List.getElem?_eq_getElem ha) _ hq1
    omega
   ·rw [updF_ne _ _ e2] at hq2
    exact h.bne a d ha hd hne q hq1 hq2
 ·subst e
  rcases hk with e | hk
  ·exact tagNe (h.fre d hd).tags.1 hr0.tag (by decide) e.symm
  ·exact tagNe ((h.fre d hd).tags.2 _ hk) hr0.tag (by decide) rfl
 ·rcases mem_set hz with h1 | rfl
  ·exact h.lens z h1
  ·exact ⟨by rw [List.length_replicate]; exact hn, hc3⟩
 ·rcases hk with rfl | rfl | hk | ⟨q, hq, hk⟩
  ·exact .inl (.inl rfl)
  ·exact .inl (.inr (.inl rfl))
  ·exact .inl (.inr (.inr (.inl hk)))
  ·have hk' : (updF y.bv i (.slice (some ⟨g, 0, none⟩) n n) q).ownBlock = some k := hk
   by_cases e : q = i
   ·subst e
    rw [updF_at] at hk'
    cases hk'
    exact .inr hg
   ·rw [updF_ne _ _ e] at hk'
    exact .inl (.inr (.inr (.inr ⟨q, hq, hk'⟩)))
def GiveR (w : World) (y : SLay) (hs : List Hd) (fs : Nat -> List Nat) (i no c b : Nat) (v : Value) (wr : World) : Prop :=
 ∃ k : Nat, k <= blN c /\ v = .int .i64 (k : Int) /\ ∃ y', SlabMem wr y' (hs.set i ⟨no, c, b, blK (blN c) b k⟩) (updF fs c (grown no c b (fs c) k)) /\ STurn w wr y y'
theorem give_any {w : World} {y : SLay} {hs : List Hd} {fs : Nat -> List Nat} (h : SlabMem w y hs fs) (R : RS w y) {i : Nat} {x : Hd} (hx : hs[i]? = some x) (hno : 1 <= x.no /\ x.no <= 64) {c b : Nat} (hc3 : c <= 3) (hb : b < 18446744073709551616) (hfew : (fs c).length + 15 <= 100000) :
  Calls Tryz.prog 54 #[fpt y.gs, .pointer (some ⟨y.gh, i * 4, none⟩), jv c, wv b] w (SPost w y (hs.set i ⟨x.no, c, b, blK (blN c) b (blN c)⟩) (updF fs c (grown x.no c b (fs c) (blN c))) (.tuple #[])) := by
 have hil := (List.getElem?_eq_some_iff.1 hx).1
 have hn15 := blN_le c
 obtain ⟨cs, hr, hcs⟩ := h.hdr
 have hsz := hcs.1
 have hcx := hcs.2 i x hx
 have f1 := hr.free (i * 4 + 1)
 have f2 := hr.free (i * 4 + 2)
 have c1 := (h.head hx).2.1
 have c2 := (h.head hx).2.2.1
 obtain ⟨W1, hW1⟩ : ∃ W1, W1 = (w.setCell ⟨y.gh, i * 4 + 1, none⟩ (.int .i64 (c : Int))).setCell ⟨y.gh, i * 4 + 2, none⟩ (.int .u64 (b : Int)) := ⟨_, rfl⟩
 have hr1 : Row W1 y.gh 129 ((cs.setIfInBounds (i * 4 + 1) (jv c)).setIfInBounds (i * 4 + 2) (wv b)) := by rw [hW1]; exact (hr.set (i * 4 + 1) (jv c)).set (i * 4 + 2) (wv b)
 have hb1 : But w W1 (fun k => k = y.gh) := by rw [hW1]; exact ((But.refl w (fun k => k = y.gh)).set (p := ⟨y.gh, i * 4 + 1, none⟩) (by rfl) _).set (p := ⟨y.gh, i * 4 + 2, none⟩) (by rfl) _
 have hsz1 : W1.heap.size = w.heap.size := by rw [hW1]; simp
 have R1 : Rms W1 := R.1.but hb1 (fun e => R.2 (.inr (.inl e)))
 have HG := Lib.hid (blocks_any (c : Int) W1 R1)
 rw [blN_C] at HG
 obtain ⟨i0, hi, hz0, hz1, hz2⟩ := info_parts infoI2
 obtain ⟨n, hn⟩ : ∃ n, n = blN c := ⟨_, rfl⟩
 rw [<- hn] at HG hn15
 have hm1 := fun W : World => run_make (P := Tryz.prog) W 127 3 i0 _ Tryz.underlying127 hi hz0 .i64 .i64 ((n : Nat) : Int) ((n : Nat) : Int) (by omega) (by omega) (by rw [hz2]; omega) (by omega)
 simp only [Int.toNat_natCast, hz1] at hm1
 have HM := Lib.hid h
 have HRS := Lib.hid R
 have HX := Lib.hid hx
 have HNN := Lib.hid hn
 have HCS := Lib.hid hcs
 have HB1 := Lib.hid hb1
 have HR1 := Lib.hid hr1
 have HHB := Lib.hid fun (j : Int) (h0 : -9223372036854775808 <= j) (h1 : j <= 9223372036854775807) (W : World) => bHas_any hb h0 h1 W
 have HSZ := Lib.hid hsz1
 obtain ⟨gs, hgs⟩ : ∃ gs, gs = y.gs := ⟨_, rfl⟩
 obtain ⟨gh, hgh⟩ : ∃ gh, gh = y.gh := ⟨_, rfl⟩
 rw [<- hgh] at f1 f2 c1 c2 hW1
 rw [<- hgs, <- hgh]
 have HGS := Lib.hid hgs
 have HGH := Lib.hid hgh
 obtain ⟨no, hnoe⟩ : ∃ no, no = x.no := ⟨_, rfl⟩
 rw [<- hnoe] at hno ⊢
 have HNO := Lib.hid hnoe
 have hbl := Lib.hid hb
 unfold jv at c1
 unfold wv at c2
 unfold jv fpt wv
 clear h R hx hcs hr hcx hb1 hr1 R1 hn hgs hgh hnoe hsz hsz1 hb
 go_enter Tryz.func54, Tryz.ntmps54
 go_wp2_with fail
 rw [<- hW1]
 clear hW1 c1 c2 f1 f2
 refine HG.out.mono ?_
 rintro e w2 ⟨rfl, hg2⟩
 have hr2 := HR1.out.below hg2.all HR1.out.lt
 rw [<- HGH.out] at hr2
 have c3 := hr2.cell (i * 4 + 3)
 rw [Array.getElem?_setIfInBounds, if_neg (by omega), Array.getElem?_setIfInBounds, if_neg (by omega), (HCS.out.2 i x HX.out).2.2.2] at c3
 have f3 := hr2.free (i * 4 + 3)
 have HR2 := Lib.hid hr2
 have HG2 := Lib.hid hg2
 clear hr2 hg2
 obtain ⟨u3, hu3⟩ : ∃ u, u = y.bv i := ⟨_, rfl⟩
 rw [<- hu3] at c3
 clear hu3
 have hr3 := HR2.out.alloc (.cells (madeCells #[.int .i64 0] n) 3)
 have c4 : (w2.alloc (.cells (madeCells #[.int .i64 0] n) 3)).cell? ⟨gh, i * 4 + 3, none⟩ = some u3 := by rw [hr3.cell, <- HR2.out.cell]; exact c3
 have f4 := hr3.free (i * 4 + 3)
 have HR3 := Lib.hid hr3
 clear hr3 c3 f3
 go_upto_region 2 with (fail)
 obtain ⟨W3, hW3⟩ : ∃ W3, W3 = (w2.alloc (.cells (madeCells #[.int .i64 0] n) 3)).setCell ⟨gh, i * 4 + 3, none⟩ (.slice (some ⟨w2.heap.size, 0, none⟩) n n) := ⟨_, rfl⟩
 rw [<- hW3]
 have hgsz : w.heap.size <= w2.heap.size := by have := HG2.out.all.size; have := HSZ.out; omega
 have HST := Lib.hid (show ∃ y1, SlabMem W3 y1 (hs.set i ⟨no, c, b, List.replicate n 0⟩) fs /\ STurn w W3 y y1 from by
  have hne : gh ≠ w2.heap.size := by have := HR2.out.lt; omega
  have hbb : But w W3 (fun k => k = y.gh) := by
   rw [hW3, HGH.out]
   exact ((HB1.out.trans (But.of_below HG2.out.all (fun k => k = y.gh)) (fun k hk => .inl hk)).alloc _).set (p := ⟨y.gh, i * 4 + 3, none⟩) (by rfl) _
  rw [HNO.out]
  refine ⟨_, HM.out.give0 (W := W3) (b := b) (g := w2.heap.size) HX.out HCS.out hn15 hc3 hbb ?_ ?_ hgsz⟩
  ·rw [<- HGH.out, hW3]
   exact HR3.out.set (i * 4 + 3) _
  ·rw [hW3]
   refine Row.other (p := ⟨gh, i * 4 + 3, none⟩) ?_ (Ne.symm hne) _
   have e : (List.replicate n 0).map jv = List.replicate n (.int .i64 0) := by rw [List.map_replicate]; rfl
   rw [e, <- madeCells_one]
   exact Row.new _ _ _)
 obtain ⟨y1, hm1, ht1⟩ := HST.out
 have hil' : ∀ z : Hd, (hs.set i z)[i]? = some z := fun z => by rw [List.getElem?_set, if_pos rfl, if_pos hil]
 have HIL := Lib.hid hil'
 have c5 := (hm1.head (hil' _)).2.2.2
 rw [ht1.gh, <- HGH.out] at c5
 obtain ⟨ad, hsh⟩ := (hm1.blk i _ (hil' _)).shape
 rw [hsh, List.length_replicate] at c5
 have HM1 := Lib.hid hm1
 have HT1 := Lib.hid ht1
 clear hW3 hgsz hm1 ht1 hsh hil' c4 f4 HST
 go_wp2
 go_loopw [28] (fun v wr => GiveR w y hs fs i no c b v wr) (fun v _ => n - (intOf v).toNat)
 case atStart => exact ⟨0, Nat.zero_le _, rfl, y1, by rw [blK_zero, <- HNN.out]; show SlabMem W3 y1 _ (updF fs c (fs c)); rw [updF_same]; exact HM1.out, HT1.out⟩
 case round =>
  obtain ⟨k, hk, rfl, y', hm, ht⟩ := hrel
  rename World => wr
  clear c5 HM1 HT1
  have HT := Lib.hid ht
  have hk : k <= n := by rw [HNN.out]; exact hk
  by_cases hlt : k < n
  ·have hx' := HIL.out ⟨no, c, b, blK (blN c) b k⟩
   have hg := (hm.head hx').2.2.2
   rw [ht.gh, <- HGH.out] at hg
   obtain ⟨g, hsh, hr⟩ := (hm.blk i _ hx').pos (by rw [blK_len, <- HNN.out]; omega)
   rw [hsh, blK_len, <- HNN.out] at hg
   have hown : (y'.bv i).ownBlock = some g := by rw [hsh]; rfl
   have hkb : k < (blK (blN c) b k).length := by rw [blK_len, <- HNN.out]; exact hlt
   have hj0 : (-9223372036854775808 : Int) <= (k : Int) := by omega
   have hj1 : (k : Int) <= 9223372036854775807 := by omega
   have HA := Lib.hid (HHB.out (k : Int) hj0 hj1 wr)
   rw [hasB_in ⟨by omega, by omega⟩, Int.toNat_natCast] at HA
   have HM' := Lib.hid hm
   have HX' := Lib.hid hx'
   have HOW := Lib.hid hown
   have HKB := Lib.hid hkb
   have cj := hr.cell k
   rw [List.getElem?_toArray, List.getElem?_map, List.getElem?_eq_getElem hkb, Option.map_some] at cj
   obtain ⟨u, cj'⟩ : ∃ u, wr.cell? ⟨g, k, none⟩ = some u := ⟨_, cj⟩
   clear cj
   have fj := hr.free k
   unfold wv at HA
   cases hbit : b.testBit k with
   | true =>
    rw [hbit] at HA
    have HBT := Lib.hid hbit
    clear hm ht hx' hsh hr hown hkb hj0 hj1 hk hbit
    go_wp2_with fail
    refine HA.out.mono ?_
    rintro e w3 ⟨rfl, rfl⟩
    go_wp2
    go_roundw
    case rel =>
     have hp := HM'.out.put_bl (j := k) HX'.out HOW.out 2
     rw [List.set_set] at hp
     refine ⟨k + 1, by rw [<- HNN.out]; exact hlt, by go_num, y', ?_, HT.out.trans hp.2⟩
     have e1 : (blK (blN c) b k).set k 2 = blK (blN c) b (k + 1) := blK_set (by rw [if_pos HBT.out])
     have e2 : grown no c b (fs c) (k + 1) = grown no c b (fs c) k := by show (if _ then _ else _) = _; rw [if_pos HBT.out]
     rw [e2, <- e1]
     exact hp.1
    case measure => simp [intOf]; omega
   | false =>
    rw [hbit] at HA
    have HBT := Lib.hid hbit
    have HL := Lib.hid (leave_any hm (HRS.out.turn ht) hx' (by show 1 <= no /\ no <= 64; exact hno) hkb (by show k < blN c; rw [<- HNN.out]; exact hlt) (by show (updF fs c _ c).length + 1 <= 100000; rw [updF_at]; have := grown_len no c b (fs c) k; omega))
    unfold fpt jv at HL
    rw [ht.gs, ht.gh, <- HGS.out, <- HGH.out] at HL
    clear hm ht hx' hsh hr hown hkb hj0 hj1 hk hbit hg cj' fj
    go_wp2_with fail
    refine HA.out.mono ?_
    rintro e w3 ⟨rfl, rfl⟩
    go_wp2_with fail
    refine HL.out.mono ?_
    rintro e w4 ⟨rfl, y4, hm4, ht4⟩
    have HM4 := Lib.hid hm4
    have HT4 := Lib.hid ht4
    clear hm4 ht4
    go_wp2
    go_roundw
    case rel =>
     have hm4 := HM4.out
     rw [List.set_set] at hm4
     refine ⟨k + 1, by rw [<- HNN.out]; exact hlt, by go_num, y4, ?_, HT.out.trans HT4.out⟩
     have e1 : (blK (blN c) b k).set k 0 = blK (blN c) b (k + 1) := blK_set (by rw [if_neg (by rw [HBT.out]; decide)])
     have e2 : grown no c b (fs c) (k + 1) = ins (adr no c k) (grown no c b (fs c) k) := by show (if _ then _ else _) = _; rw [if_neg (by rw [HBT.out]; decide)]
     have e3 : updF (updF fs c (grown no c b (fs c) k)) c (ins (adr no c k) (updF fs c (grown no c b (fs c) k) c)) = updF fs c (ins (adr no c k) (grown no c b (fs c) k)) := by
      rw [updF_at]
      funext d
      unfold updF
      split <;> rfl
     rw [e2, <- e1, <- e3]
     exact hm4
    case measure => simp [intOf]; omega
  ·have hkn : k = n := by omega
   have HE := Lib.hid (show SPost w y (hs.set i ⟨no, c, b, blK (blN c) b (blN c)⟩) (updF fs c (grown no c b (fs c) (blN c))) (.tuple #[]) (.returned (.tuple #[])) wr from ⟨rfl, y', by rw [hkn, HNN.out] at hm; exact hm, ht⟩)
   clear hm ht hk hkn
   go_wp2
   refine bodyPost_ret (results_none rfl _ _ _) rfl ?_
   exact HE.out
theorem MemAt.tag {w : World} {y : Lay} {s : St} (h : MemAt w y s) {k : Nat} (hk : y.fp k) : Tag w k 118 \/ Tag w k 29 \/ Tag w k 28 \/ Tag w k 165 \/ ∃ es c, w.heap[k]? = some (.map es c) := by
 rcases hk with rfl | rfl | rfl | rfl | rfl | ⟨j, v, hv, hk⟩
 ·exact .inl h.row.tag
 ·obtain ⟨c, hc⟩ := own_at h.las; exact .inr (.inl hc.tag)
 ·obtain ⟨c, hc⟩ := own_at h.vie; exact .inr (.inl hc.tag)
 ·obtain ⟨c, hc⟩ := own_at h.pen; exact .inr (.inr (.inl hc.tag))
 ·obtain ⟨es, c, hc⟩ := h.marks.map; exact .inr (.inr (.inr (.inr ⟨es, c, hc⟩)))
 ·have hj : j < y.ps.length := (List.getElem?_eq_some_iff.1 hv).1
  have hl : y.ps.length = s.nl := ps_len h
  obtain ⟨c, hc⟩ := (h.tails j (by omega) v _ hv (List.getElem?_eq_getElem (by rw [h.plen]; omega))).row hk
  exact .inr (.inr (.inr (.inl hc.tag)))
theorem Tag.noMap {w : World} {k : Nat} {t : TypeId} {es : Array MapEntry} {c : Nat} (h : Tag w k t) (hm : w.heap[k]? = some (.map es c)) : False := by
 obtain ⟨cs, f, h⟩ := h
 rw [h] at hm
 cases hm
theorem MemAt.apart_tag {w : World} {y : Lay} {s : St} (h : MemAt w y s) {k : Nat} {t : TypeId} (ht : Tag w k t) (h1 : t ≠ 118) (h2 : t ≠ 29) (h3 : t ≠ 28) (h4 : t ≠ 165) : ¬ y.fp k := fun hk => by
 rcases h.tag hk with h' | h' | h' | h' | ⟨es, c, h'⟩
 ·exact h1 (ht.same h')
 ·exact h2 (ht.same h')
 ·exact h3 (ht.same h')
 ·exact h4 (ht.same h')
 ·exact ht.noMap h'
theorem mem_slab {w : World} {y : Lay} {s : St} {z : SLay} {hs : List Hd} {fs : Nat -> List Nat} (h : MemAt w y s) (hz : SlabMem w z hs fs) {k : Nat} (hk : z.fp k) : ¬ y.fp k := by
 rcases hz.tag hk with h' | h' | h' | h' | h'
 all_goals exact h.apart_tag h' (by decide) (by decide) (by decide) (by decide)
theorem MemAt.slab {w w' : World} {y : Lay} {s : St} {z z' : SLay} {hs : List Hd} {fs : Nat -> List Nat} (h : MemAt w y s) (hz : SlabMem w z hs fs) (t : STurn w w' z z') : MemAt w' y s :=
 h.but t.but fun k hk hk' => mem_slab h hz hk' hk
theorem SlabMem.mem {w w' : World} {y y' : Lay} {s : St} {z : SLay} {hs : List Hd} {fs : Nat -> List Nat} (hz : SlabMem w z hs fs) (h : MemAt w y s) (t : Turn w w' y y') : SlabMem w' z hs fs :=
 hz.keep t.but fun k hk hk' => mem_slab h hz hk hk'
def RM (w : World) (y : Lay) : Prop := Rms w /\ ¬ y.fp 0
theorem RM.turn {w w' : World} {y y' : Lay} (R : RM w y) (t : Turn w w' y y') : RM w' y' := by
 refine ⟨R.1.but t.but R.2, fun h => ?_⟩
 obtain ⟨tt, hR⟩ := R.1
 rcases t.fp _ h with h1 | h1
 ·exact R.2 h1
 ·have := heap_lt hR; omega
def okHead (c b : Nat) : Bool := decide (c <= 3) && mayS b (blN c : Int)
def loadV (c b : Nat) : Value := if okHead c b then .tuple #[jv c, wv b, .int .i64 0] else .tuple #[.int .i64 0, .int .u64 0, .int .i64 6]
theorem sload_any {w : World} {y : Lay} {s : St} (h : MemAt w y s) (ok : s.Ok) (R : RM w y) {i : Nat} (h1 : 1 <= i) (h2 : i <= 64) (hn : 1024 * i + 64 <= 64 * s.nl) (hld : s.ld + 2 < 9223372036854775808) :
  Calls Tryz.prog 53 #[.pointer (some ⟨y.g, 0, none⟩), jv i] w (AnsPost w y { s with ld := s.ld + 2 } (loadV (s.view.getD (128 * i) 0) (s.view.getD (128 * i + 1) 0))) := by
 have ea : hdA (i : Int) = ((1024 * i : Nat) : Int) := by unfold hdA; rw [if_pos (by omega)]; omega
 have HH := Lib.hid fun W => header_any (i : Int) W
 have HB := Lib.hid fun W => bits_yes (s := (i : Int)) (by omega) W
 rw [ea] at HH HB
 have eb : ((1024 * i : Nat) : Int) + 8 = ((1024 * i + 8 : Nat) : Int) := by omega
 rw [eb] at HB
 have HL := Lib.hid (load_ok h ok (1024 * i) (by omega) (by omega))
 rw [show 1024 * i / 8 = 128 * i from by omega] at HL
 have hcw : s.view.getD (128 * i) 0 < 18446744073709551616 := by
  rw [List.getD_eq_getElem?_getD]
  cases hg : s.view[128 * i]? with
  | none => decide
  | some x => exact ok.vie x (List.mem_of_getElem? hg)
 have hbw : s.view.getD (128 * i + 1) 0 < 18446744073709551616 := by
  rw [List.getD_eq_getElem?_getD]
  cases hg : s.view[128 * i + 1]? with
  | none => decide
  | some x => exact ok.vie x (List.mem_of_getElem? hg)
 obtain ⟨c, hc⟩ : ∃ c, c = s.view.getD (128 * i) 0 := ⟨_, rfl⟩
 obtain ⟨b, hb⟩ : ∃ b, b = s.view.getD (128 * i + 1) 0 := ⟨_, rfl⟩
 rw [<- hc] at HL hcw ⊢
 rw [<- hb] at hbw ⊢
 have HMAY := Lib.hid fun (n : Int) (W : World) => bMay_any hbw n W
 have HBE := Lib.hid hb
 have OK := Lib.hid ok
 have HR := Lib.hid R
 have HA := Lib.hid (show ∀ W W' : World, True from fun _ _ => trivial)
 obtain ⟨g, hg⟩ : ∃ g, g = y.g := ⟨_, rfl⟩
 rw [<- hg] at HL ⊢
 have HG := Lib.hid hg
 have hnl : 1024 * i + 8 < 64 * s.nl := by omega
 obtain ⟨A1, hA1⟩ : ∃ A, A = 1024 * i := ⟨_, rfl⟩
 rw [<- hA1] at HH HL
 obtain ⟨A2, hA2⟩ : ∃ A, A = 1024 * i + 8 := ⟨_, rfl⟩
 rw [<- hA2] at HB
 have HA2 := Lib.hid hA2
 have HI := Lib.hid (show 1024 * i + 64 <= 64 * s.nl from hn)
 have hldb := hld
 have hcN : (c : Int) < 18446744073709551616 := by omega
 unfold jv
 clear h ok R hc hb hg ea eb hA1 hA2 hnl hn hbw hcw hld
 go_enter Tryz.func53, Tryz.ntmps53
 go_wp2_with fail
 refine (HH.out _).mono ?_
 rintro e w1 ⟨rfl, rfl⟩
 go_wp2_with fail
 refine HL.out.mono ?_
 rintro e w2 ⟨rfl, y2, hm2, ht2⟩
 have HM2 := Lib.hid hm2
 have HT2 := Lib.hid ht2
 have hL2 := load_ok hm2 ⟨OK.out.las, OK.out.vie, OK.out.put, OK.out.few, OK.out.mks, ⟨by show s.ld + 1 < _; omega, OK.out.num.2⟩⟩ A2 (by rw [HA2.out]; omega) (by rw [HA2.out]; have := HI.out; show _ < 64 * s.nl; omega)
 rw [show A2 / 8 = 128 * i + 1 from by rw [HA2.out]; omega] at hL2
 rw [show ({ s with ld := s.ld + 1 } : St).view = s.view from rfl, <- HBE.out] at hL2
 rw [ht2.g, <- HG.out] at hL2
 have HL2 := Lib.hid hL2
 clear hm2 ht2 hL2 HL
 go_wp2_with fail
 refine (HB.out _).mono ?_
 rintro e w3 ⟨rfl, rfl⟩
 go_wp2_with fail
 refine HL2.out.mono ?_
 rintro e w4 ⟨rfl, y4, hm4, ht4⟩
 have HM4 := Lib.hid (show MemAt w4 y4 { s with ld := s.ld + 2 } from hm4)
 have HT4 := Lib.hid (HT2.out.trans ht4)
 have hR4 := (HR.out.turn HT4.out).1
 have HG4 := Lib.hid (blocks_any (c : Int) w4 hR4)
 rw [blN_C] at HG4
 clear hm4 ht4 HL2 hR4
 by_cases hc3 : c <= 3
 ·have d1 : decide (3 < (c : Int)) = false := by simp; omega
  have hw1 : IntKind.i64.wrap (c : Int) = (c : Int) := IntWalk.i64_in _ (by omega)
  cases hmay : mayS b (blN c : Int) with
  | true =>
   have HV := Lib.hid (show loadV c b = .tuple #[jv c, wv b, .int .i64 0] by unfold loadV okHead; rw [decide_eq_true hc3, hmay]; rfl)
   have HMM := Lib.hid fun W => HMAY.out (blN c : Int) W
   rw [hmay] at HMM
   obtain ⟨n, hn⟩ : ∃ n, n = blN c := ⟨_, rfl⟩
   rw [<- hn] at HMM HG4
   unfold wv at HMM
   clear hmay hn HMAY
   go_wp2_with fail
   refine HG4.out.mono ?_
   rintro e w5 ⟨rfl, hg5⟩
   have HG5 := Lib.hid hg5.all
   clear hg5
   go_wp2_with fail
   refine (HMM.out _).mono ?_
   rintro e w6 ⟨rfl, rfl⟩
   go_wp2
   go_ret3
   exact ⟨by rw [HV.out]; rfl, y4, HM4.out.below HG5.out, HT4.out.trans (Turn.of_below y4 HG5.out)⟩
  | false =>
   have HV := Lib.hid (show loadV c b = .tuple #[.int .i64 0, .int .u64 0, .int .i64 6] by unfold loadV okHead; rw [decide_eq_true hc3, hmay]; rfl)
   have HMM := Lib.hid fun W => HMAY.out (blN c : Int) W
   rw [hmay] at HMM
   obtain ⟨n, hn⟩ : ∃ n, n = blN c := ⟨_, rfl⟩
   rw [<- hn] at HMM HG4
   unfold wv at HMM
   clear hmay hn HMAY
   go_wp2_with fail
   refine HG4.out.mono ?_
   rintro e w5 ⟨rfl, hg5⟩
   have HG5 := Lib.hid hg5.all
   clear hg5
   go_wp2_with fail
   refine (HMM.out _).mono ?_
   rintro e w6 ⟨rfl, rfl⟩
   go_wp2
   go_ret3
   exact ⟨by rw [HV.out]; rfl, y4, HM4.out.below HG5.out, HT4.out.trans (Turn.of_below y4 HG5.out)⟩
 ·have d1 : decide (3 < (c : Int)) = true := by simp; omega
  have HV := Lib.hid (show loadV c b = .tuple #[.int .i64 0, .int .u64 0, .int .i64 6] by unfold loadV okHead; rw [decide_eq_false hc3]; rfl)
  clear HMAY HG4
  go_wp2
  go_ret3
  exact ⟨by rw [HV.out]; rfl, y4, HM4.out, HT4.out⟩
def hdZ : Hd := ⟨0, 0, 0, []⟩
def hdOf (hc hb : Nat -> Nat) (q : Nat) : Hd := ⟨q + 1, hc q, hb q, blK (blN (hc q)) (hb q) (blN (hc q))⟩
def hsK (hc hb : Nat -> Nat) (n i : Nat) : List Hd := (List.range n).map fun q => if q < i then hdOf hc hb q else hdZ
def fsK (hc hb : Nat -> Nat) : Nat -> Nat -> List Nat
 | 0 => fun _ => []
 | i + 1 => updF (fsK hc hb i) (hc i) (grown (i + 1) (hc i) (hb i) (fsK hc hb i (hc i)) (blN (hc i)))
theorem hsK_len (hc hb : Nat -> Nat) (n i : Nat) : (hsK hc hb n i).length = n := by simp [hsK]
theorem hsK_get {hc hb : Nat -> Nat} {n i q : Nat} (hq : q < n) : (hsK hc hb n i)[q]? = some (if q < i then hdOf hc hb q else hdZ) := by
 unfold hsK
 rw [List.getElem?_map, List.getElem?_range hq]; rfl
theorem hsK_set {hc hb : Nat -> Nat} {n i : Nat} : (hsK hc hb n i).set i (hdOf hc hb i) = hsK hc hb n (i + 1) := by
 apply List.ext_getElem?
 intro q
 rw [List.getElem?_set, hsK_len]
 by_cases hq : q < n
 ·rw [hsK_get hq, hsK_get hq]
  by_cases e : i = q
  ·subst e
   rw [if_pos rfl, if_pos hq, if_pos (by omega)]
  ·rw [if_neg e]
   by_cases h1 : q < i
   ·rw [if_pos h1, if_pos (by omega)]
   ·rw [if_neg h1, if_neg (by omega)]
 ·rw [List.getElem?_eq_none (l := hsK hc hb n i) (by rw [hsK_len]; omega), List.getElem?_eq_none (l := hsK hc hb n (i + 1)) (by rw [hsK_len]; omega)]
  by_cases e : i = q
  ·rw [if_pos e, if_neg (by omega)]
  ·rw [if_neg e]
theorem hsK_zero (hc hb : Nat -> Nat) (n : Nat) : hsK hc hb n 0 = List.replicate n hdZ := by
 apply List.ext_getElem?
 intro q
 by_cases hq : q < n
 ·rw [hsK_get hq, if_neg (by omega), List.getElem?_replicate, if_pos hq]
 ·rw [List.getElem?_eq_none (by rw [hsK_len]; omega), List.getElem?_eq_none (by simpa using hq)]
theorem fsK_len (hc hb : Nat -> Nat) (i c : Nat) : (fsK hc hb i c).length <= 15 * i := by
 induction i generalizing c with
 | zero => exact Nat.zero_le _
 | succ i ih =>
  show (updF (fsK hc hb i) (hc i) (grown (i + 1) (hc i) (hb i) (fsK hc hb i (hc i)) (blN (hc i))) c).length <= _
  by_cases e : c = hc i
  ·subst e
   rw [updF_at]
   have h1 := grown_len (i + 1) (hc i) (hb i) (fsK hc hb i (hc i)) (blN (hc i))
   have h2 := ih (hc i)
   have h3 := blN_le (hc i)
   omega
  ·rw [updF_ne _ _ e]
   have := ih c
   omega
theorem SlabMem.put_no {w : World} {y : SLay} {hs : List Hd} {fs : Nat -> List Nat} (h : SlabMem w y hs fs) {i : Nat} {x : Hd} (hx : hs[i]? = some x) (b : Nat) :
  SlabMem (w.setCell ⟨y.gh, i * 4, none⟩ (jv b)) y (hs.set i { x with no := b }) fs /\ STurn w (w.setCell ⟨y.gh, i * 4, none⟩ (jv b)) y y := by
 have hil := (List.getElem?_eq_some_iff.1 hx).1
 obtain ⟨cs, hr, hc⟩ := h.hdr
 have hbut : But w (w.setCell ⟨y.gh, i * 4, none⟩ (jv b)) (fun k => k = y.gh) := (But.refl w (fun k => k = y.gh)).set (p := ⟨y.gh, i * 4, none⟩) (by rfl) _
 refine ⟨{ h with
  row := by rw [List.length_set]; exact hbut.row h.row h.gs_gh
  hdr := ⟨_, hr.set (i * 4) (jv b), by rw [Array.size_setIfInBounds, List.length_set]; exact hc.1, fun k z hz => ?_⟩
  blk := fun k z hz => ?_
  bne := by rw [List.length_set]; exact h.bne
  fre := fun c hc => (h.fre c hc).keep hbut fun k hk e => ?_
  len := by rw [List.length_set]; exact h.len
  pos := by rw [List.length_set]; exact h.pos
  most := by rw [List.length_set]; exact h.most
  lens := fun z hz => ?_ }, ⟨rfl, rfl, rfl, hbut.mono fun k e => .inr (.inl e), fun _ h => .inl h⟩⟩
 ·rw [List.getElem?_set] at hz
  have hsz := hc.1
  by_cases e : i = k
  ·subst e
   rw [if_pos rfl, if_pos hil] at hz
   cases hz
   obtain ⟨h0, h1, h2, h3⟩ := hc.2 i x hx
   refine ⟨?_, ?_, ?_, ?_⟩ <;> rw [Array.getElem?_setIfInBounds]
   ·rw [if_pos rfl, if_pos (by omega)]
   ·rw [if_neg (by omega)]; exact h1
   ·rw [if_neg (by omega)]; exact h2
   ·rw [if_neg (by omega)]; exact h3
  ·rw [if_neg e] at hz
   obtain ⟨h0, h1, h2, h3⟩ := hc.2 k z hz
   refine ⟨?_, ?_, ?_, ?_⟩ <;> rw [Array.getElem?_setIfInBounds, if_neg (by omega)]
   ·exact h0
   ·exact h1
   ·exact h2
   ·exact h3
 ·rw [List.getElem?_set] at hz
  by_cases e : i = k
  ·subst e
   rw [if_pos rfl, if_pos hil] at hz
   cases hz
   exact (h.blk i x hx).keep hbut fun q hq eq => tagNe ((h.blk i x hx).row hq).tag hr.tag (by decide) eq
  ·rw [if_neg e] at hz
   exact (h.blk k z hz).keep hbut fun q hq eq => tagNe ((h.blk k z hz).row hq).tag hr.tag (by decide) eq
 ·subst e
  rcases hk with e | hk
  ·exact tagNe (h.fre c hc).tags.1 hr.tag (by decide) e.symm
  ·exact tagNe ((h.fre c hc).tags.2 _ hk) hr.tag (by decide) rfl
 ·rcases mem_set hz with h1 | rfl
  ·exact h.lens z h1
  ·exact h.lens x (List.mem_of_getElem? hx)
def pk (gf : Nat -> Nat) (k c : Nat) : Value := if c < k then fpt (gf c) else .pointer none
def scells (gh n : Nat) (gf : Nat -> Nat) (k : Nat) : Array Value := #[.slice (some ⟨gh, 0, none⟩) n n, pk gf k 0, pk gf k 1, pk gf k 2, pk gf k 3]
theorem scells_set (gh n : Nat) (gf : Nat -> Nat) {k : Nat} (hk : k < 4) (g : Nat) : (scells gh n gf k).setIfInBounds (1 + k) (fpt g) = scells gh n (updF gf k g) (k + 1) := by
 match k, hk with
 | 0, _ => rfl
 | 1, _ => rfl
 | 2, _ => rfl
 | 3, _ => rfl
theorem scells_get (gh n : Nat) (gf : Nat -> Nat) {k : Nat} (hk : k < 4) : (scells gh n gf k)[1 + k]? = some (.pointer none) := by
 match k, hk with
 | 0, _ => rfl
 | 1, _ => rfl
 | 2, _ => rfl
 | 3, _ => rfl
structure FreeR (W : World) (gs gh n : Nat) (k : Nat) (wr : World) (gf : Nat -> Nat) (fv : Nat -> Value) : Prop where
 row : Row wr gs 125 (scells gh n gf k)
 but : But W wr (fun q => q = gs)
 fre : ∀ c, c < k -> SetAt wr (gf c) [] (fv c)
 new : ∀ c, c < k -> ∀ q, ffp (gf c) (fv c) q -> W.heap.size <= q
 gne : ∀ c d, c < k -> d < k -> c ≠ d -> gf c ≠ gf d
 vne : ∀ c d, c < k -> d < k -> c ≠ d -> ∀ g, (fv c).ownBlock = some g -> (fv d).ownBlock ≠ some g
theorem FreeR.next {W wr w4 : World} {gs gh n k g : Nat} {gf : Nat -> Nat} {fv : Nat -> Value} {v : Value} (h : FreeR W gs gh n k wr gf fv) (hk : k < 4) (hgs : gs < W.heap.size)
  (hS : SetAt w4 g [] v) (hn : ∀ q, ffp g v q -> wr.heap.size <= q) (hb : Below wr.heap.size wr w4) :
  FreeR W gs gh n (k + 1) (w4.setCell ⟨gs, 1 + k, none⟩ (fpt g)) (updF gf k g) (updF fv k v) := by
 have hb2 : But w4 (w4.setCell ⟨gs, 1 + k, none⟩ (fpt g)) (fun q => q = gs) := (But.refl w4 (fun q => q = gs)).set (p := ⟨gs, 1 + k, none⟩) (by rfl) _
 have hsz := h.but.size
 refine ⟨?_, ?_, fun c hc => ?_, fun c hc q hq => ?_, fun c d hc hd hne => ?_, fun c d hc hd hne q hq hq' => ?_⟩
 ·rw [<- scells_set gh n gf hk g]
  exact (h.row.below hb h.row.lt).set (1 + k) (fpt g)
 ·exact (h.but.trans (But.of_below hb (fun q => q = gs)) (fun q hq => .inl hq)).trans hb2 (fun q hq => .inl hq)
 ·by_cases e : c = k
  ·subst e
   rw [updF_at, updF_at]
   exact hS.keep hb2 fun q hq e => by have := hn q hq; omega
  ·rw [updF_ne _ _ e, updF_ne _ _ e]
   exact ((h.fre c (by omega)).below hb).keep hb2 fun q hq e => by have := h.new c (by omega) q hq; omega
 ·by_cases e : c = k
  ·subst e
   rw [updF_at, updF_at] at hq
   have := hn q hq; omega
  ·rw [updF_ne _ _ e, updF_ne _ _ e] at hq
   exact h.new c (by omega) q hq
 ·have hlt : ∀ c, c < k -> gf c < wr.heap.size := fun c hc => (h.fre c hc).fp (.inl rfl)
  have hge := hn g (.inl rfl)
  by_cases e : c = k
  ·subst e
   rw [updF_at, updF_ne _ _ (Ne.symm hne)]
   have := hlt d (by omega); omega
  ·rw [updF_ne _ _ e]
   by_cases e2 : d = k
   ·subst e2
    rw [updF_at]
    have := hlt c (by omega); omega
   ·rw [updF_ne _ _ e2]
    exact h.gne c d (by omega) (by omega) hne
 ·have hlt : ∀ c, c < k -> ∀ q, (fv c).ownBlock = some q -> q < wr.heap.size := fun c hc q hq => (h.fre c hc).fp (.inr hq)
  by_cases e : c = k
  ·subst e
   rw [updF_at] at hq
   rw [updF_ne _ _ (Ne.symm hne)] at hq'
   have := hlt d (by omega) q hq'
   have := hn q (.inr hq)
   omega
  ·rw [updF_ne _ _ e] at hq
   by_cases e2 : d = k
   ·subst e2
    rw [updF_at] at hq'
    have := hlt c (by omega) q hq
    have := hn q (.inr hq')
    omega
   ·rw [updF_ne _ _ e2] at hq'
    exact h.vne c d (by omega) (by omega) hne q hq hq'
theorem info_header : (Tryz.prog.info? 129).map (fun i => (i.zero, i.size, i.bytes)) = some (some (.agg #[.int .i64 0, .int .i64 0, .int .u64 0, .slice none 0 0]), 4, 48) := by kernel_rfl
theorem made_get {z : Array Value} {n i r : Nat} {v : Value} (hz : z.size = 4) (hr : r < 4) (hi : i < n) (hv : z[r]? = some v) : (madeCells z (n * 4))[i * 4 + r]? = some v := by
 unfold madeCells
 rw [Array.getElem?_map, Array.getElem?_range, if_pos (by omega), Option.map_some, hz]
 rw [show (i * 4 + r) % 4 = r from by omega]
 rw [getElem!_def, hv]
theorem zero_slab {W : World} {gs gh n : Nat} {wr : World} {gf : Nat -> Nat} {fv : Nat -> Value} (h : FreeR W gs gh n 4 wr gf fv) (hh : Row W gh 129 (madeCells #[.int .i64 0, .int .i64 0, .int .u64 0, .slice none 0 0] (n * 4))) (hne : gs ≠ gh) (h0 : 0 < n) (h1 : n <= 64) :
  SlabMem wr ⟨gs, gh, n, fun _ => .slice none 0 0, gf, fv⟩ (List.replicate n hdZ) (fun _ => []) := by
 have hl : (List.replicate n hdZ).length = n := List.length_replicate
 have hz : ∀ (i : Nat) (x : Hd), (List.replicate n hdZ)[i]? = some x -> i < n /\ x = hdZ := fun i x hx => by
  have hi := (List.getElem?_eq_some_iff.1 hx).1
  rw [hl] at hi
  exact ⟨hi, List.eq_of_mem_replicate (List.mem_of_getElem? hx)⟩
 refine ⟨by rw [hl]; exact h.row, ⟨_, h.but.row hh (Ne.symm hne), by rw [size_madeCells, hl]; omega, fun i x hx => ?_⟩, fun i x hx => ?_, fun i j _ _ _ g hg => (by cases hg), fun c hc => h.fre c hc, fun c d hc hd => h.gne c d hc hd, fun c d hc hd => h.vne c d hc hd, hl.symm, by rw [hl]; exact h0, by rw [hl]; exact h1, fun c _ => Nat.zero_le _, fun x hx => ?_⟩
 ·obtain ⟨hi, rfl⟩ := hz i x hx
  exact ⟨made_get (r := 0) rfl (by decide) hi rfl, made_get (r := 1) rfl (by decide) hi rfl, made_get (r := 2) rfl (by decide) hi rfl, made_get (r := 3) rfl (by decide) hi rfl⟩
 ·obtain ⟨hi, rfl⟩ := hz i x hx
  exact .inl ⟨rfl, rfl⟩
 ·rw [List.eq_of_mem_replicate hx]
  exact ⟨Nat.zero_le _, Nat.zero_le _⟩
def hcW (l : List Nat) (q : Nat) : Nat := pw l l.length (128 * (q + 1))
def hbW (l : List Nat) (q : Nat) : Nat := pw l l.length (128 * (q + 1) + 1)
def okHeads (l : List Nat) (n : Nat) : Prop := ∀ q, q < n -> okHead (hcW l q) (hbW l q) = true
def OfPost (w : World) (l : List Nat) (n : Nat) (e : Ending) (w' : World) : Prop :=
 (okHeads l n /\ ∃ y, e = .returned (.tuple #[fpt y.gs, .int .i64 0]) /\ SlabMem w' y (hsK (hcW l) (hbW l) n n) (fsK (hcW l) (hbW l) n) /\ (∀ k, y.fp k -> w.heap.size <= k) /\ Below w.heap.size w w') \/
 (¬ okHeads l n /\ e = .returned (.tuple #[.pointer none, .int .i64 6]) /\ Below w.heap.size w w')
def OfF (W : World) (gs gh n : Nat) (v : Value) (wr : World) : Prop := ∃ k : Nat, k <= 4 /\ v = .int .i64 (k : Int) /\ ∃ gf fv, FreeR W gs gh n k wr gf fv
structure OfM (w : World) (l : List Nat) (n nl gs gh g0 : Nat) (i : Nat) (wr : World) (y : SLay) (ym : Lay) : Prop where
 mem : SlabMem wr y (hsK (hcW l) (hbW l) n i) (fsK (hcW l) (hbW l) i)
 pm : MemAt wr ym { St.ofBytes nl l with ld := 2 * i }
 gs : y.gs = gs
 gh : y.gh = gh
 g0 : ym.g = g0
 fy : ∀ k, y.fp k -> w.heap.size <= k
 fm : ∀ k, ym.fp k -> w.heap.size <= k
 low : Below w.heap.size w wr
 ok : ∀ q, q < i -> okHead (hcW l q) (hbW l q) = true
def OfL (w : World) (l : List Nat) (n nl gs gh g0 : Nat) (v : Value) (wr : World) : Prop := ∃ i : Nat, i <= n /\ v = .int .i64 (i : Int) /\ ∃ y ym, OfM w l n nl gs gh g0 i wr y ym
theorem OfM.next {w : World} {l : List Nat} {n nl gs gh g0 i : Nat} {wr W1 w2 w3 : World} {y y3 : SLay} {ym ym2 : Lay} (h : OfM w l n nl gs gh g0 i wr y ym) (hi : i < n)
  (hW1 : W1 = wr.setCell ⟨y.gh, i * 4, none⟩ (jv (i + 1))) (hm2 : MemAt w2 ym2 { St.ofBytes nl l with ld := 2 * (i + 1) }) (t2 : Turn W1 w2 ym ym2) (hok : okHead (hcW l i) (hbW l i) = true)
  (hs3 : SlabMem w3 y3 (((hsK (hcW l) (hbW l) n i).set i { hdZ with no := i + 1 }).set i (hdOf (hcW l) (hbW l) i)) (fsK (hcW l) (hbW l) (i + 1))) (t3 : STurn w2 w3 y y3) :
  OfM w l n nl gs gh g0 (i + 1) w3 y3 ym2 := by
 have hx : (hsK (hcW l) (hbW l) n i)[i]? = some hdZ := by rw [hsK_get hi, if_neg (by omega)]
 obtain ⟨h1, t1⟩ := h.mem.put_no hx (i + 1)
 rw [<- hW1] at h1 t1
 have m1 := h.pm.slab h.mem t1
 have h2 := h1.mem m1 t2
 have b1 : Below w.heap.size w W1 := h.low.trans (t1.but.below h.low.size h.fy)
 have b2 : Below w.heap.size w w2 := b1.trans (t2.but.below b1.size h.fm)
 have b3 : Below w.heap.size w w3 := b2.trans (t3.but.below b2.size h.fy)
 rw [List.set_set, hsK_set] at hs3
 refine ⟨hs3, hm2.slab h2 t3, t3.gs.trans h.gs, t3.gh.trans h.gh, t2.g.trans h.g0, fun k hk => ?_, fun k hk => ?_, b3, fun q hq => ?_⟩
 ·rcases t3.fp k hk with h4 | h4
  ·exact h.fy k h4
  ·exact Nat.le_trans b2.size h4
 ·rcases t2.fp k hk with h4 | h4
  ·exact h.fm k h4
  ·exact Nat.le_trans b1.size h4
 ·by_cases e : q = i
  ·subst e; exact hok
  ·exact h.ok q (by omega)
theorem slabOf_yes {w : World} {A : Option Addr} {cap n : Nat} {l : List Nat} (hl : l.length = 1024 * (n + 1)) (hA : Sl w A (l.map bv)) (hb : ∀ x ∈ l, x < 256) (h0 : 0 < n) (h1 : n <= 64) (R : Rms w) :
  Calls Tryz.prog 21 #[.slice A (1024 * (n + 1)) cap] w (OfPost w l n) := by
 have mixed : Tryz.prog.follows .mixedOrders = true := by kernel_rfl
 have HS := Lib.hid (slabs_yes (n := ((1024 * (n + 1) : Nat) : Int)) (by omega) w)
 rw [show ((1024 * (n + 1) : Nat) : Int) / 1024 - 1 = (n : Int) from by omega] at HS
 obtain ⟨nl, hnl⟩ : ∃ nl, nl = 16 * (n + 1) := ⟨_, rfl⟩
 have HO := Lib.hid (pOf_yes (cap := cap) (nl := nl) (by omega) hA hb (by omega) (by omega))
 rw [show 64 * nl = 1024 * (n + 1) from by omega] at HO
 obtain ⟨Z, hZ⟩ : ∃ Z, Z = 1024 * (n + 1) := ⟨_, rfl⟩
 rw [<- hZ] at HS HO ⊢
 obtain ⟨i0, hi, hz0, hz1, hz2⟩ := info_parts info_header
 have hm1 := fun W : World => run_make (P := Tryz.prog) W 121 129 i0 _ Tryz.underlying121 hi hz0 .i64 .i64 ((n : Nat) : Int) ((n : Nat) : Int) (by omega) (by omega) (by rw [hz2]; omega) (by omega)
 simp only [Int.toNat_natCast, hz1] at hm1
 have HR := Lib.hid R
 have HL := Lib.hid hl
 have HB := Lib.hid hb
 have HZ := Lib.hid hZ
 have HNL := Lib.hid hnl
 have hZB : Z <= 66560 := by omega
 clear hA hl hb hZ R hnl
 go_enter Tryz.func21, Tryz.ntmps21
 go_wp2_with fail
 refine HS.out.mono ?_
 rintro e w1 ⟨rfl, rfl⟩
 go_wp2_with fail
 refine HO.out.mono ?_
 rintro e w2 ⟨ym, rfl, hm, hfm, hb2⟩
 have HM := Lib.hid hm
 have HFM := Lib.hid hfm
 have HB2 := Lib.hid hb2
 clear hm hfm hb2 HO
 go_upto_region 8 with (fail)
 obtain ⟨W3, hW3⟩ : ∃ W3, W3 = (w2.alloc (.cells (madeCells #[.int .i64 0, .int .i64 0, .int .u64 0, .slice none 0 0] (n * 4)) 129)).alloc (.cells #[.slice (some ⟨w2.heap.size, 0, none⟩) n n, .pointer none, .pointer none, .pointer none, .pointer none] 125) := ⟨_, rfl⟩
 rw [<- hW3]
 obtain ⟨gh, hgh⟩ : ∃ gh, gh = w2.heap.size := ⟨_, rfl⟩
 obtain ⟨gs, hgs⟩ : ∃ gs, gs = w2.heap.size + 1 := ⟨_, rfl⟩
 have hhr : Row W3 gh 129 (madeCells #[.int .i64 0, .int .i64 0, .int .u64 0, .slice none 0 0] (n * 4)) := by rw [hW3, hgh]; exact (Row.new _ _ _).alloc _
 have hsr : Row W3 gs 125 (scells gh n (fun _ => 0) 0) := by
  have e : gs = (w2.alloc (.cells (madeCells #[.int .i64 0, .int .i64 0, .int .u64 0, .slice none 0 0] (n * 4)) 129)).heap.size := by rw [hgs]; simp
  rw [hW3, e, hgh]; exact Row.new _ _ _
 have hbW : Below w2.heap.size w2 W3 := by rw [hW3]; exact Below.and (alloc_below _ _) (alloc_below _ _)
 have hszW : W3.heap.size = w2.heap.size + 2 := by rw [hW3]; simp
 rw [<- hgs, <- hgh]
 have HHR := Lib.hid hhr
 have HSR := Lib.hid hsr
 have HBW := Lib.hid hbW
 have HSZ := Lib.hid hszW
 have HGS := Lib.hid hgs
 have HGH := Lib.hid hgh
 have HGB := Lib.hid (show w.heap.size <= gh /\ w.heap.size <= gs /\ gs ≠ gh /\ gs < W3.heap.size from by have := HB2.out.size; omega)
 clear hW3 hhr hsr hbW hszW hgs hgh hm1
 go_wp2
 go_loopw [35] (fun v wr => OfF W3 gs gh n v wr) (fun v _ => 4 - (intOf v).toNat)
 case atStart => exact ⟨0, by omega, rfl, fun _ => 0, fun _ => .slice none 0 0, HSR.out, But.refl _ _, fun c hc => by omega, fun c hc => by omega, fun c d hc => by omega, fun c d hc => by omega⟩
 case round =>
  obtain ⟨k, hk, rfl, gf, fv, hF⟩ := hrel
  rename World => wr
  have HF := Lib.hid hF
  clear hF
  by_cases hlt : k < 4
  ·go_wp2_with fail
   have HNF : ∀ W : World, Hid (Calls Tryz.prog 52 #[.slice none 0 0] W fun e w' => ∃ s, s.Nodup /\ (∀ x, x ∈ s ↔ x ∈ ([] : List Nat) /\ x ≠ 0) /\ s.length <= ([] : List Nat).length /\ Made W s e w') := fun W => Lib.hid (newFree_few (w := W) (.inl ⟨rfl, rfl⟩) (by decide))
   go_region_held3 (fun _ => True) (trivial)
    ((refine (HNF _).out.mono ?_; rintro e w4 ⟨s, hnd, hmem, hsl, g, v, rfl, hS, hnew, hb4⟩; have hb4' := (drew_below wr).trans hb4; have hrw := HF.out.row.below hb4' HF.out.row.lt; have cc := hrw.cell (1 + k); rw [scells_get gh n gf hlt] at cc; have ff := hrw.free (1 + k)))
   have HNX := Lib.hid (show FreeR W3 gs gh n (k + 1) (w4.setCell ⟨gs, 1 + k, none⟩ (fpt g)) (updF gf k g) (updF fv k v) from by
    obtain rfl : s = [] := List.eq_nil_of_length_eq_zero (Nat.le_zero.1 hsl)
    exact HF.out.next hlt HGB.out.2.2.2 hS hnew hb4')
   clear hnd hmem hsl hS hnew hb4 hb4' hrw cc ff
   unfold fpt at HNX
   go_wp2
   go_roundw
   case rel => exact ⟨k + 1, by omega, by go_num, _, _, HNX.out⟩
   case measure => simp [intOf]; omega
  ·have hF4 : FreeR W3 gs gh n 4 wr gf fv := by
    have h4 : k = 4 := by omega
    rw [<- h4]; exact HF.out
   have HF := Lib.hid hF4
   clear hF4
   have hz := zero_slab HF.out HHR.out HGB.out.2.2.1 h0 h1
   have hb3 : Below w.heap.size w wr := (HB2.out.trans (HBW.out.mono HB2.out.size)).trans (HF.out.but.below (by have := HB2.out.size; have := HSZ.out; omega) (fun q e => by rw [e]; exact HGB.out.2.1))
   have hpm : MemAt wr ym { St.ofBytes nl l with ld := 2 * 0 } := (HM.out.below HBW.out).but HF.out.but fun q hq e => by have h3 := HM.out.lt q hq; have := HGS.out; omega
   have HOM := Lib.hid (show OfM w l n nl gs gh ym.g 0 wr ⟨gs, gh, n, fun _ => .slice none 0 0, gf, fv⟩ ym from by
    refine ⟨by rw [hsK_zero]; exact hz, hpm, rfl, rfl, rfl, fun q hq => ?_, HFM.out, hb3, fun q hq => by omega⟩
    rcases hq with rfl | rfl | ⟨c, hc, hq⟩ | ⟨i, _, hq⟩
    ·exact HGB.out.2.1
    ·exact HGB.out.1
    ·have h4 := HF.out.new c hc q hq
     have := HSZ.out; have := HB2.out.size
     omega
    ·cases hq)
   have c0 : wr.cell? ⟨gs, 0, none⟩ = some (.slice (some ⟨gh, 0, none⟩) n n) := HF.out.row.cell 0
   clear hz hb3 hpm hk HF HHR HSR HBW HM HFM
   obtain ⟨g0, hg0⟩ : ∃ g0, g0 = ym.g := ⟨_, rfl⟩
   rw [<- hg0] at HOM ⊢
   clear hg0
   go_wp2
   clear c0
   go_loopw [50] (fun v wr => OfL w l n nl gs gh g0 v wr) (fun v _ => n - (intOf v).toNat)
   case atStart => exact ⟨0, by omega, rfl, _, _, HOM.out⟩
   case round =>
    obtain ⟨i, hi, rfl, y, ym, hO⟩ := hrel
    rename World => wr2
    have HO := Lib.hid hO
    clear hO HOM
    by_cases hlt : i < n
    ·have hx : (hsK (hcW l) (hbW l) n i)[i]? = some hdZ := by rw [hsK_get hlt, if_neg (by omega)]
     have c0 := HO.out.mem.field
     rw [hsK_len, HO.out.gs, HO.out.gh] at c0
     have cc := (HO.out.mem.head hx).1
     have ff := HO.out.mem.hfree (i * 4)
     rw [HO.out.gh] at cc ff
     obtain ⟨hs1, ts1⟩ := HO.out.mem.put_no hx (i + 1)
     have pm1 := HO.out.pm.slab HO.out.mem ts1
     obtain ⟨W1, hW1⟩ : ∃ W1, W1 = wr2.setCell ⟨gh, i * 4, none⟩ (.int .i64 ((i : Int) + 1)) := ⟨_, rfl⟩
     have hW1' : W1 = wr2.setCell ⟨y.gh, i * 4, none⟩ (jv (i + 1)) := by rw [hW1, HO.out.gh]; rfl
     rw [<- hW1'] at hs1 ts1 pm1
     have bW1 : Below w.heap.size w W1 := HO.out.low.trans (ts1.but.below HO.out.low.size HO.out.fy)
     have rl : 0 < w.heap.size := by obtain ⟨t, ht⟩ := HR.out; exact heap_lt ht
     have RW1 : Rms W1 := by obtain ⟨t, ht⟩ := HR.out; exact ⟨t, (bW1.block _ rl).trans ht⟩
     have RMW : RM W1 ym := ⟨RW1, fun h => by have := HO.out.fm _ h; omega⟩
     have okB := ofBytes_Ok (nl := nl) HB.out
     have HLD := sload_any (i := i + 1) pm1 ⟨okB.las, okB.vie, okB.put, okB.few, okB.mks, ⟨by show 2 * i < _; omega, okB.num.2⟩⟩ RMW (by omega) (by omega) (by show _ <= 64 * nl; have := HNL.out; omega) (by show 2 * i + 2 < _; omega)
     have ev : ∀ q, q < 8 * nl -> (St.ofBytes nl l).view.getD q 0 = pw l l.length q := fun q hq => by
      show (wordsK l (64 * nl) (8 * nl)).getD q 0 = _
      rw [List.getD_eq_getElem?_getD, wordsK_get hq, show 64 * nl = l.length from by rw [HL.out, HNL.out]; omega]; rfl
     have e1 : (St.ofBytes nl l).view.getD (128 * (i + 1)) 0 = hcW l i := ev _ (by have := HNL.out; omega)
     have e2 : (St.ofBytes nl l).view.getD (128 * (i + 1) + 1) 0 = hbW l i := ev _ (by have := HNL.out; omega)
     rw [show ({ St.ofBytes nl l with ld := 2 * i } : St).view = (St.ofBytes nl l).view from rfl, e1, e2] at HLD
     rw [HO.out.g0] at HLD
     have HW1 := Lib.hid hW1'
     have HS1 := Lib.hid hs1
     have HTS := Lib.hid ts1
     have HPM := Lib.hid pm1
     have HRW := Lib.hid RW1
     have HBW1 := Lib.hid bW1
     have HRL := Lib.hid rl
     obtain ⟨c, hc⟩ : ∃ c, c = hcW l i := ⟨_, rfl⟩
     obtain ⟨b, hbe⟩ : ∃ b, b = hbW l i := ⟨_, rfl⟩
     rw [<- hc, <- hbe] at HLD
     have HC := Lib.hid hc
     have HBE := Lib.hid hbe
     have hin : i < 64 := by omega
     cases hok : okHead c b with
     | false =>
      unfold loadV at HLD
      rw [hok, if_neg (by decide)] at HLD
      have HLD := Lib.hid HLD
      have HE := Lib.hid (show ¬ okHeads l n from fun h => by have := h i hlt; rw [<- hc, <- hbe, hok] at this; cases this)
      unfold jv at HLD cc
      rw [show (((i + 1 : Nat)) : Int) = (i : Int) + 1 from rfl] at HLD
      clear hx hs1 ts1 pm1 bW1 RW1 RMW okB ev e1 e2 hW1' hc hbe hok rl
      go_wp2_with fail
      rw [<- hW1]
      refine HLD.out.mono ?_
      rintro e w5 ⟨rfl, ym5, hm5, ht5⟩
      have HB5 := Lib.hid (HBW1.out.trans (ht5.but.below HBW1.out.size HO.out.fm))
      clear hm5 ht5
      go_wp2
      go_ret2
      exact .inr ⟨HE.out, rfl, HB5.out⟩
     | true =>
      unfold loadV at HLD
      rw [hok, if_pos rfl] at HLD
      have HLD := Lib.hid HLD
      have hc3 : c <= 3 := by
       unfold okHead at hok
       simp only [Bool.and_eq_true, decide_eq_true_eq] at hok
       exact hok.1
      have hbf : b < 18446744073709551616 := by rw [hbe]; exact pw_fit HB.out _ _
      have HBF := Lib.hid hbf
      have HOK := Lib.hid (show okHead (hcW l i) (hbW l i) = true by rw [<- hc, <- hbe]; exact hok)
      unfold jv wv at HLD
      unfold jv at cc
      rw [show (((i + 1 : Nat)) : Int) = (i : Int) + 1 from rfl] at HLD
      clear hx hs1 ts1 pm1 bW1 RW1 RMW okB ev e1 e2 hW1' hc hbe hok rl hbf
      go_wp2_with fail
      rw [<- hW1]
      refine HLD.out.mono ?_
      rintro e w5 ⟨rfl, ym5, hm5, ht5⟩
      have hs5 := HS1.out.mem HPM.out ht5
      have HB5 := Lib.hid (HBW1.out.trans (ht5.but.below HBW1.out.size HO.out.fm))
      have RS5 : RS w5 y := by
       refine ⟨?_, fun h => by have := HO.out.fy _ h; have := HRL.out; omega⟩
       obtain ⟨t, ht⟩ := HR.out
       exact ⟨t, (HB5.out.block _ HRL.out).trans ht⟩
      have hx5 : ((hsK (hcW l) (hbW l) n i).set i { hdZ with no := i + 1 })[i]? = some { hdZ with no := i + 1 } := by rw [List.getElem?_set, if_pos rfl, if_pos (by rw [hsK_len]; exact hlt)]
      have HGV := give_any hs5 RS5 hx5 ⟨by show 1 <= i + 1; omega, by show i + 1 <= 64; omega⟩ hc3 HBF.out (by have := fsK_len (hcW l) (hbW l) i c; omega)
      rw [HO.out.gs, HO.out.gh] at HGV
      have HGV := Lib.hid HGV
      have HM5 := Lib.hid hm5
      have HT5 := Lib.hid ht5
      unfold jv fpt wv at HGV
      clear hm5 ht5 hs5 RS5 hx5 HLD
      go_wp2_with fail
      refine HGV.out.mono ?_
      rintro e w6 ⟨rfl, y6, hs6, ht6⟩
      have HNX := Lib.hid (show OfM w l n nl gs gh g0 (i + 1) w6 y6 ym5 from by
       rw [HC.out, HBE.out] at hs6
       exact HO.out.next hlt HW1.out HM5.out HT5.out HOK.out hs6 ht6)
      clear hs6 ht6 HGV
      go_wp2
      go_roundw
      case rel => exact ⟨i + 1, by omega, by go_num, _, _, HNX.out⟩
      case measure => simp [intOf]; omega
    ·obtain rfl : i = n := by omega
     have HE := Lib.hid (show OfPost w l i (.returned (.tuple #[.pointer (some ⟨gs, 0, none⟩), .int .i64 0])) wr2 from .inl ⟨HO.out.ok, y, by rw [HO.out.gs]; rfl, HO.out.mem, HO.out.fy, HO.out.low⟩)
     clear hi
     go_wp2
     go_ret2
     exact HE.out
def FreeB (hs : List Hd) (c a : Nat) : Prop := ∃ (i j : Nat) (x : Hd), hs[i]? = some x /\ x.cls = c /\ x.bl[j]? = some 0 /\ adr x.no c j = a
def FsOk (hs : List Hd) (fs : Nat -> List Nat) : Prop := ∀ c, (fs c).Nodup /\ ∀ a, a ∈ fs c ↔ FreeB hs c a
theorem ins_mem {a b : Nat} {s : List Nat} : b ∈ ins a s ↔ b = a \/ b ∈ s := by
 unfold ins
 by_cases h : a ∈ s
 ·rw [if_pos h]
  constructor
  ·exact .inr
  ·rintro (rfl | h1)
   ·exact h
   ·exact h1
 ·rw [if_neg h, List.mem_cons]
theorem ins_nodup {a : Nat} {s : List Nat} (h : s.Nodup) : (ins a s).Nodup := by
 unfold ins
 split
 ·exact h
 ·rename_i hn; exact List.nodup_cons.2 ⟨hn, h⟩
theorem grown_nodup {no c b k : Nat} {s : List Nat} (h : s.Nodup) : (grown no c b s k).Nodup := by
 induction k with
 | zero => exact h
 | succ k ih =>
  unfold grown
  split
  ·exact ih
  ·exact ins_nodup ih
theorem grown_mem {no c b k a : Nat} {s : List Nat} : a ∈ grown no c b s k ↔ a ∈ s \/ ∃ j, j < k /\ b.testBit j = false /\ adr no c j = a := by
 induction k with
 | zero =>
  show a ∈ s ↔ _
  constructor
  ·exact .inl
  ·rintro (h | ⟨j, hj, _⟩)
   ·exact h
   ·omega
 | succ k ih =>
  unfold grown
  split
  ·rename_i hb
   rw [ih]
   constructor
   ·rintro (h | ⟨j, hj, h⟩)
    ·exact .inl h
    ·exact .inr ⟨j, by omega, h⟩
   ·rintro (h | ⟨j, hj, h1, h2⟩)
    ·exact .inl h
    ·refine .inr ⟨j, ?_, h1, h2⟩
     have : j ≠ k := by rintro rfl; rw [hb] at h1; cases h1
     omega
  ·rename_i hb
   rw [ins_mem, ih]
   constructor
   ·rintro (rfl | h | ⟨j, hj, h⟩)
    ·exact .inr ⟨k, by omega, by simpa using hb, rfl⟩
    ·exact .inl h
    ·exact .inr ⟨j, by omega, h⟩
   ·rintro (h | ⟨j, hj, h1, h2⟩)
    ·exact .inr (.inl h)
    ·by_cases e : j = k
     ·subst e; exact .inl h2.symm
     ·exact .inr (.inr ⟨j, by omega, h1, h2⟩)
theorem fsK_spec (hc hb : Nat -> Nat) (i c : Nat) : (fsK hc hb i c).Nodup /\ ∀ a, a ∈ fsK hc hb i c ↔ ∃ q, q < i /\ hc q = c /\ ∃ j, j < blN c /\ (hb q).testBit j = false /\ adr (q + 1) c j = a := by
 induction i generalizing c with
 | zero =>
  refine ⟨List.nodup_nil, fun a => ?_⟩
  constructor
  ·intro h; cases h
  ·rintro ⟨q, hq, _⟩; omega
 | succ i ih =>
  show (updF (fsK hc hb i) (hc i) (grown (i + 1) (hc i) (hb i) (fsK hc hb i (hc i)) (blN (hc i))) c).Nodup /\ ∀ a, a ∈ updF (fsK hc hb i) (hc i) (grown (i + 1) (hc i) (hb i) (fsK hc hb i (hc i)) (blN (hc i))) c ↔ _
  by_cases e : c = hc i
  ·subst e
   rw [updF_at]
   refine ⟨grown_nodup (ih _).1, fun a => ?_⟩
   rw [grown_mem, (ih _).2]
   constructor
   ·rintro (⟨q, hq, h⟩ | ⟨j, hj, h⟩)
    ·exact ⟨q, by omega, h⟩
    ·exact ⟨i, by omega, rfl, j, hj, h⟩
   ·rintro ⟨q, hq, h1, j, hj, h2⟩
    by_cases e : q = i
    ·subst e; exact .inr ⟨j, hj, h2⟩
    ·exact .inl ⟨q, by omega, h1, j, hj, h2⟩
  ·rw [updF_ne _ _ e]
   refine ⟨(ih c).1, fun a => ?_⟩
   rw [(ih c).2]
   constructor
   ·rintro ⟨q, hq, h⟩
    exact ⟨q, by omega, h⟩
   ·rintro ⟨q, hq, h1, h⟩
    have : q ≠ i := by rintro rfl; exact e h1.symm
    exact ⟨q, by omega, h1, h⟩
theorem hsK_ok (hc hb : Nat -> Nat) (n : Nat) : HsOk (hsK hc hb n n) := by
 intro i x hx
 have hi := (List.getElem?_eq_some_iff.1 hx).1
 rw [hsK_len] at hi
 rw [hsK_get hi, if_pos hi] at hx
 cases hx
 exact ⟨rfl, blK_len _ _ _⟩
theorem blK_get {n b k j : Nat} (hj : j < n) : (blK n b k)[j]? = some (if j < k /\ b.testBit j = true then 2 else 0) := by
 unfold blK
 rw [List.getElem?_map, List.getElem?_range hj]; rfl
theorem fsK_ok (hc hb : Nat -> Nat) (n : Nat) : FsOk (hsK hc hb n n) (fsK hc hb n) := by
 intro c
 refine ⟨(fsK_spec hc hb n c).1, fun a => ?_⟩
 rw [(fsK_spec hc hb n c).2]
 constructor
 ·rintro ⟨q, hq, h1, j, hj, h2, h3⟩
  refine ⟨q, j, hdOf hc hb q, by rw [hsK_get hq, if_pos hq], h1, ?_, h3⟩
  show (blK (blN (hc q)) (hb q) (blN (hc q)))[j]? = _
  rw [h1, blK_get hj, if_neg (fun h => by rw [h2] at h; cases h.2)]
 ·rintro ⟨q, j, x, hx, h1, h2, h3⟩
  have hq := (List.getElem?_eq_some_iff.1 hx).1
  rw [hsK_len] at hq
  rw [hsK_get hq, if_pos hq] at hx
  cases hx
  have h2' : (blK (blN (hc q)) (hb q) (blN (hc q)))[j]? = some 0 := h2
  have h1' : hc q = c := h1
  have hj := (List.getElem?_eq_some_iff.1 h2').1
  rw [blK_len] at hj
  rw [blK_get hj] at h2'
  refine ⟨q, hq, h1', j, by rw [<- h1']; exact hj, ?_, h3⟩
  by_cases hb2 : (hb q).testBit j = true
  ·rw [if_pos ⟨hj, hb2⟩] at h2'; cases h2'
  ·simpa using hb2
theorem nodup_bound : ∀ (N : Nat) (s : List Nat), s.Nodup -> (∀ x ∈ s, x < N) -> s.length <= N
 | 0, s, _, h => by
  cases s with
  | nil => exact Nat.le_refl _
  | cons x t => have := h x List.mem_cons_self; omega
 | N + 1, s, hn, h => by
  by_cases hm : N ∈ s
  ·have h1 := nodup_bound N (s.erase N) (hn.erase N) (fun x hx => by
    have := (List.Nodup.mem_erase_iff hn).1 hx
    have := h x this.2
    omega)
   rw [List.length_erase_of_mem hm] at h1
   omega
  ·have := nodup_bound N s hn (fun x hx => by
    have h2 := h x hx
    have : x ≠ N := by rintro rfl; exact hm hx
    omega)
   omega
section
variable {hs : List Hd} {fs : Nat -> List Nat}
theorem FreeB.found {c a : Nat} (h : FreeB hs c a) : ∃ (i j : Nat) (x : Hd), hs[i]? = some x /\ x.cls = c /\ x.bl[j]? = some 0 /\ adr x.no c j = a /\ Found hs a i j := by
 obtain ⟨i, j, x, hx, hc, hb, ha⟩ := h
 exact ⟨i, j, x, hx, hc, hb, ha, x, hx, (List.getElem?_eq_some_iff.1 hb).1, by rw [hc]; exact ha⟩
theorem FsOk.few (h : FsOk hs fs) (ok : HsOk hs) (hm : hs.length <= 64) (c : Nat) : (fs c).length <= 66561 := by
 refine nodup_bound 66561 _ (h c).1 fun x hx => ?_
 obtain ⟨i, j, z, _, _, _, _, hf⟩ := (((h c).2 x).1 hx).found
 have := found_range ok hm hf
 omega
theorem HsOk.set_bl (ok : HsOk hs) {i j v : Nat} {x : Hd} (hx : hs[i]? = some x) : HsOk (hs.set i { x with bl := x.bl.set j v }) := by
 intro k z hz
 rw [List.getElem?_set] at hz
 have hil := (List.getElem?_eq_some_iff.1 hx).1
 by_cases e : i = k
 ·subst e
  rw [if_pos rfl, if_pos hil] at hz
  cases hz
  have := ok i x hx
  exact ⟨this.1, by show (x.bl.set j v).length = blN x.cls; rw [List.length_set]; exact this.2⟩
 ·rw [if_neg e] at hz
  exact ok k z hz
theorem set_get {i j v k q u : Nat} {x z : Hd} (hx : hs[i]? = some x) (hj : j < x.bl.length) (hz : (hs.set i { x with bl := x.bl.set j v })[k]? = some z) (hb : z.bl[q]? = some u) :
  (k = i /\ q = j /\ u = v /\ z.cls = x.cls /\ z.no = x.no) \/ (¬ (k = i /\ q = j) /\ ∃ z0, hs[k]? = some z0 /\ z.cls = z0.cls /\ z.no = z0.no /\ z0.bl[q]? = some u) := by
 rw [List.getElem?_set] at hz
 have hil := (List.getElem?_eq_some_iff.1 hx).1
 by_cases e : i = k
 ·subst e
  rw [if_pos rfl, if_pos hil] at hz
  cases hz
  have hb' : (x.bl.set j v)[q]? = some u := hb
  rw [List.getElem?_set] at hb'
  by_cases e2 : j = q
  ·subst e2
   rw [if_pos rfl, if_pos hj] at hb'
   cases hb'
   exact .inl ⟨rfl, rfl, rfl, rfl, rfl⟩
  ·rw [if_neg e2] at hb'
   exact .inr ⟨fun h => e2 h.2.symm, x, hx, rfl, rfl, hb'⟩
 ·rw [if_neg e] at hz
  exact .inr ⟨fun h => e h.1.symm, z, hz, rfl, rfl, hb⟩
theorem get_set {i j v k q u : Nat} {x z0 : Hd} (hx : hs[i]? = some x) (hn : ¬ (k = i /\ q = j)) (hz : hs[k]? = some z0) (hb : z0.bl[q]? = some u) :
  ∃ z, (hs.set i { x with bl := x.bl.set j v })[k]? = some z /\ z.cls = z0.cls /\ z.no = z0.no /\ z.bl[q]? = some u := by
 have hil := (List.getElem?_eq_some_iff.1 hx).1
 by_cases e : i = k
 ·subst e
  rw [hx] at hz
  cases hz
  refine ⟨{ x with bl := x.bl.set j v }, by rw [List.getElem?_set, if_pos rfl, if_pos hil], rfl, rfl, ?_⟩
  show (x.bl.set j v)[q]? = some u
  rw [List.getElem?_set, if_neg (fun e => hn ⟨rfl, e.symm⟩)]
  exact hb
 ·exact ⟨z0, by rw [List.getElem?_set, if_neg e]; exact hz, rfl, rfl, hb⟩
theorem FsOk.take (h : FsOk hs fs) (ok : HsOk hs) (hm : hs.length <= 64) {i j v : Nat} {x : Hd} (hx : hs[i]? = some x) (hj : x.bl[j]? = some 0) (hv : v ≠ 0) :
  FsOk (hs.set i { x with bl := x.bl.set j v }) (updF fs x.cls ((fs x.cls).erase (adr x.no x.cls j))) := by
 have hjl := (List.getElem?_eq_some_iff.1 hj).1
 have hf : Found hs (adr x.no x.cls j) i j := ⟨x, hx, hjl, rfl⟩
 intro c
 have key : ∀ a, FreeB (hs.set i { x with bl := x.bl.set j v }) c a ↔ FreeB hs c a /\ ¬ (c = x.cls /\ a = adr x.no x.cls j) := by
  intro a
  constructor
  ·rintro ⟨k, q, z, hz, hc, hb, ha⟩
   rcases set_get hx hjl hz hb with ⟨_, _, h0, _⟩ | ⟨hn, z0, hz0, h1, h2, h3⟩
   ·exact absurd h0.symm hv
   ·refine ⟨⟨k, q, z0, hz0, by rw [<- h1]; exact hc, h3, by rw [<- h2]; exact ha⟩, fun ⟨e1, e2⟩ => hn ?_⟩
    have hf2 : Found hs (adr x.no x.cls j) k q := ⟨z0, hz0, (List.getElem?_eq_some_iff.1 h3).1, by rw [<- h1, <- h2, hc, ha, e2]⟩
    exact found_one ok hm hf2 hf
  ·rintro ⟨⟨k, q, z0, hz0, hc, hb, ha⟩, hn⟩
   have hn' : ¬ (k = i /\ q = j) := by
    rintro ⟨rfl, rfl⟩
    rw [hx] at hz0
    cases hz0
    exact hn ⟨hc.symm, by rw [<- ha, hc]⟩
   obtain ⟨z, hz, h1, h2, h3⟩ := get_set (v := v) hx hn' hz0 hb
   exact ⟨k, q, z, hz, by rw [h1]; exact hc, h3, by rw [h2]; exact ha⟩
 by_cases e : c = x.cls
 ·subst e
  rw [updF_at]
  refine ⟨(h _).1.erase _, fun a => ?_⟩
  rw [List.Nodup.mem_erase_iff (h _).1, key, (h _).2]
  constructor
  ·rintro ⟨h1, h2⟩; exact ⟨h2, fun h3 => h1 h3.2⟩
  ·rintro ⟨h1, h2⟩; exact ⟨fun h3 => h2 ⟨rfl, h3⟩, h1⟩
 ·rw [updF_ne _ _ e]
  refine ⟨(h c).1, fun a => ?_⟩
  rw [(h c).2, key]
  exact ⟨fun h1 => ⟨h1, fun h2 => e h2.1⟩, fun h1 => h1.1⟩
theorem FsOk.back (h : FsOk hs fs) (ok : HsOk hs) (hm : hs.length <= 64) {i j : Nat} {x : Hd} (hx : hs[i]? = some x) (hj : j < x.bl.length) :
  FsOk (hs.set i { x with bl := x.bl.set j 0 }) (updF fs x.cls (ins (adr x.no x.cls j) (fs x.cls))) := by
 intro c
 have hil := (List.getElem?_eq_some_iff.1 hx).1
 have key : ∀ a, FreeB (hs.set i { x with bl := x.bl.set j 0 }) c a ↔ FreeB hs c a \/ (c = x.cls /\ a = adr x.no x.cls j) := by
  intro a
  constructor
  ·rintro ⟨k, q, z, hz, hc, hb, ha⟩
   rcases set_get hx hj hz hb with ⟨rfl, rfl, _, h1, h2⟩ | ⟨hn, z0, hz0, h1, h2, h3⟩
   ·exact .inr ⟨by rw [<- hc, h1], by rw [<- ha, h2, <- hc, h1]⟩
   ·exact .inl ⟨k, q, z0, hz0, by rw [<- h1]; exact hc, h3, by rw [<- h2]; exact ha⟩
  ·rintro (⟨k, q, z0, hz0, hc, hb, ha⟩ | ⟨rfl, rfl⟩)
   ·by_cases e : k = i /\ q = j
    ·obtain ⟨rfl, rfl⟩ := e
     rw [hx] at hz0
     cases hz0
     refine ⟨k, q, { x with bl := x.bl.set q 0 }, by rw [List.getElem?_set, if_pos rfl, if_pos hil], hc, ?_, ha⟩
     show (x.bl.set q 0)[q]? = some 0
     rw [List.getElem?_set, if_pos rfl, if_pos hj]
    ·obtain ⟨z, hz, h1, h2, h3⟩ := get_set (v := 0) hx e hz0 hb
     exact ⟨k, q, z, hz, by rw [h1]; exact hc, h3, by rw [h2]; exact ha⟩
   ·refine ⟨i, j, { x with bl := x.bl.set j 0 }, by rw [List.getElem?_set, if_pos rfl, if_pos hil], rfl, ?_, rfl⟩
    show (x.bl.set j 0)[j]? = some 0
    rw [List.getElem?_set, if_pos rfl, if_pos hj]
 by_cases e : c = x.cls
 ·subst e
  rw [updF_at]
  refine ⟨ins_nodup (h _).1, fun a => ?_⟩
  rw [ins_mem, key, (h _).2]
  constructor
  ·rintro (h1 | h1)
   ·exact .inr ⟨rfl, h1⟩
   ·exact .inl h1
  ·rintro (h1 | h1)
   ·exact .inr h1
   ·exact .inl h1.2
 ·rw [updF_ne _ _ e]
  refine ⟨(h c).1, fun a => ?_⟩
  rw [(h c).2, key]
  exact ⟨.inl, fun h1 => h1.elim id (fun h2 => absurd h2.1 e)⟩
theorem FsOk.turn (h : FsOk hs fs) {i j u v : Nat} {x : Hd} (hx : hs[i]? = some x) (hj : x.bl[j]? = some u) (hu : u ≠ 0) (hv : v ≠ 0) : FsOk (hs.set i { x with bl := x.bl.set j v }) fs := by
 intro c
 have hjl := (List.getElem?_eq_some_iff.1 hj).1
 refine ⟨(h c).1, fun a => ?_⟩
 rw [(h c).2]
 constructor
 ·rintro ⟨k, q, z0, hz0, hc, hb, ha⟩
  have hn' : ¬ (k = i /\ q = j) := by
   rintro ⟨rfl, rfl⟩
   rw [hx] at hz0
   cases hz0
   rw [hj] at hb
   exact hu (Option.some.inj hb)
  obtain ⟨z, hz, h1, h2, h3⟩ := get_set (v := v) hx hn' hz0 hb
  exact ⟨k, q, z, hz, by rw [h1]; exact hc, h3, by rw [h2]; exact ha⟩
 ·rintro ⟨k, q, z, hz, hc, hb, ha⟩
  rcases set_get hx hjl hz hb with ⟨_, _, h0, _⟩ | ⟨hn, z0, hz0, h1, h2, h3⟩
  ·exact absurd h0.symm hv
  ·exact ⟨k, q, z0, hz0, by rw [<- h1]; exact hc, h3, by rw [<- h2]; exact ha⟩
theorem FsOk.claim (h : FsOk hs fs) {i c : Nat} {x : Hd} (hx : hs[i]? = some x) (h0 : x.cls = 0) (hl : x.bl.length = 0) :
  FsOk (hs.set i ⟨x.no, c, 0, blK (blN c) 0 (blN c)⟩) (updF fs c (grown x.no c 0 (fs c) (blN c))) := by
 intro d
 have hil := (List.getElem?_eq_some_iff.1 hx).1
 have hz0 : ∀ j, (0 : Nat).testBit j = false := fun j => Nat.zero_testBit j
 have key : ∀ a, FreeB (hs.set i ⟨x.no, c, 0, blK (blN c) 0 (blN c)⟩) d a ↔ FreeB hs d a \/ (d = c /\ ∃ j, j < blN c /\ adr x.no c j = a) := by
  intro a
  constructor
  ·rintro ⟨k, q, z, hz, hc, hb, ha⟩
   rw [List.getElem?_set] at hz
   by_cases e : i = k
   ·subst e
    rw [if_pos rfl, if_pos hil] at hz
    cases hz
    have hb' : (blK (blN c) 0 (blN c))[q]? = some 0 := hb
    have hq := (List.getElem?_eq_some_iff.1 hb').1
    rw [blK_len] at hq
    have hc' : c = d := hc
    subst hc'
    exact .inr ⟨rfl, q, hq, ha⟩
   ·rw [if_neg e] at hz
    exact .inl ⟨k, q, z, hz, hc, hb, ha⟩
  ·rintro (⟨k, q, z0, hz, hc, hb, ha⟩ | ⟨rfl, j, hj, ha⟩)
   ·have e : i ≠ k := by
     rintro rfl
     rw [hx] at hz
     cases hz
     have := (List.getElem?_eq_some_iff.1 hb).1
     omega
    exact ⟨k, q, z0, by rw [List.getElem?_set, if_neg e]; exact hz, hc, hb, ha⟩
   ·refine ⟨i, j, ⟨x.no, d, 0, blK (blN d) 0 (blN d)⟩, by rw [List.getElem?_set, if_pos rfl, if_pos hil], rfl, ?_, ha⟩
    show (blK (blN d) 0 (blN d))[j]? = some 0
    rw [blK_get hj, if_neg (fun h => by rw [hz0] at h; cases h.2)]
 by_cases e : d = c
 ·subst e
  rw [updF_at]
  refine ⟨grown_nodup (h _).1, fun a => ?_⟩
  rw [grown_mem, key, (h _).2]
  constructor
  ·rintro (h1 | ⟨j, hj, _, ha⟩)
   ·exact .inl h1
   ·exact .inr ⟨rfl, j, hj, ha⟩
  ·rintro (h1 | ⟨_, j, hj, ha⟩)
   ·exact .inl h1
   ·exact .inr ⟨j, hj, hz0 j, ha⟩
 ·rw [updF_ne _ _ e]
  refine ⟨(h d).1, fun a => ?_⟩
  rw [(h d).2, key]
  exact ⟨.inl, fun h1 => h1.elim id (fun h2 => absurd h2.1 e)⟩
theorem HsOk.claim (ok : HsOk hs) {i c b : Nat} {x : Hd} (hx : hs[i]? = some x) : HsOk (hs.set i ⟨x.no, c, b, blK (blN c) b (blN c)⟩) := by
 intro k z hz
 rw [List.getElem?_set] at hz
 have hil := (List.getElem?_eq_some_iff.1 hx).1
 by_cases e : i = k
 ·subst e
  rw [if_pos rfl, if_pos hil] at hz
  cases hz
  exact ⟨(ok i x hx).1, blK_len _ _ _⟩
 ·rw [if_neg e] at hz
  exact ok k z hz
end
theorem slabs_is {w : World} {y : SLay} {hs : List Hd} {fs : Nat -> List Nat} {n : Nat} (h : SlabMem w y hs fs) (hn : hs.length = n) : SlabsIs w (some ⟨y.gs, 0, none⟩) n := fun W hb => by
 have := slabs_at (h.below hb)
 rw [hn] at this
 exact this
theorem size_is {w : World} {y : Lay} {s : St} (h : MemAt w y s) : SizeIs w (some ⟨y.g, 0, none⟩) ((64 * s.nl : Nat) : Int) := fun W hb => size_yes (h.below hb)
theorem makeB (m : Nat) (hm : m <= 1099511627776) (W : World) : (Instr.makeSlice 42 (.int .i64 (m : Int)) (.int .i64 (m : Int))).run Tryz.prog W = .ok (.slice (some ⟨W.heap.size, 0, none⟩) m m) (W.alloc (.cells (Array.replicate m (bv 0)) 5)) := by
 obtain ⟨i0, hi, hz0, hz1, hz2⟩ := info_parts info5
 have h := run_make (P := Tryz.prog) (w := W) 42 5 i0 _ Tryz.underlying42 hi hz0 .i64 .i64 (m : Int) (m : Int) (by omega) (by omega) (by rw [hz2]; omega) (by omega)
 simp only [Int.toNat_natCast, hz1] at h
 refine h.trans ?_
 show Result.ok _ (W.alloc (.cells (madeCells #[Value.int .u8 0] (m * 1)) 5)) = _
 rw [Nat.mul_one, madeCells_one, List.toArray_replicate]
 rfl
theorem claim1_any (a b c : Int) (v : Value) (w : World) : Calls Tryz.prog 110 #[.agg #[.int .i64 a, .int .i64 b, .int .u64 c, v]] w fun e w' => e = .returned (.bool (b == 0)) /\ Below w.heap.size w w' := by
 cases hb : (b == 0) with
 | true =>
  go_enter Tryz.func110, Tryz.ntmps110
  go_wp2
  go_ret
  exact ⟨rfl, alloc_below _ _⟩
 | false =>
  go_enter Tryz.func110, Tryz.ntmps110
  go_wp2
  go_ret
  exact ⟨rfl, alloc_below _ _⟩
def FirstZ (hs : List Hd) (i : Nat) : Prop := (∃ x, hs[i]? = some x /\ x.cls = 0) /\ ∀ k z, k < i -> hs[k]? = some z -> z.cls ≠ 0
def NoZ (hs : List Hd) : Prop := ∀ (k : Nat) (z : Hd), hs[k]? = some z -> z.cls ≠ 0
def IdxPost (w : World) (hs : List Hd) (e : Ending) (w' : World) : Prop := ((∃ i, FirstZ hs i /\ e = .returned (jv i)) \/ (NoZ hs /\ e = .returned (.int .i64 (-1)))) /\ Below w.heap.size w w'
def IdxR (w : World) (hs : List Hd) (v : Value) (wr : World) : Prop := ∃ i : Nat, i <= hs.length /\ v = .int .i64 (i : Int) /\ Below w.heap.size w wr /\ ∀ k z, k < i -> hs[k]? = some z -> z.cls ≠ 0
theorem indexH_any {w : World} {y : SLay} {hs : List Hd} {fs : Nat -> List Nat} (h : SlabMem w y hs fs) :
  Calls Tryz.prog 109 #[.slice (some ⟨y.gh, 0, none⟩) hs.length hs.length, .func (.func 110) #[] #[]] w (IdxPost w hs) := by
 have hmost := h.most
 have HH := Lib.hid (fun (W : World) (hb : Below w.heap.size w W) (i : Nat) (x : Hd) (hx : hs[i]? = some x) => (h.below hb).head hx)
 have HI := Lib.hid (fun (i : Nat) (x : Hd) (hx : hs[i]? = some x) => (h.blk i x hx).shape)
 obtain ⟨n, hn⟩ : ∃ n, n = hs.length := ⟨_, rfl⟩
 obtain ⟨gh, hgh⟩ : ∃ g, g = y.gh := ⟨_, rfl⟩
 rw [<- hn] at hmost ⊢
 rw [<- hgh] at HH ⊢
 have HN := Lib.hid hn
 clear h hn hgh
 go_enter Tryz.func109, Tryz.ntmps109
 go_wp2
 go_loopw [8] (fun v wr => IdxR w hs v wr) (fun v _ => n - (intOf v).toNat)
 case atStart => exact ⟨0, Nat.zero_le _, rfl, Below.refl _ _, fun k z hk => by omega⟩
 case round =>
  obtain ⟨i, hi, rfl, hb, hno⟩ := hrel
  rename World => wr
  rw [<- HN.out] at hi
  have HB := Lib.hid hb
  have HNO := Lib.hid hno
  by_cases hlt : i < n
  ·obtain ⟨x, hx⟩ : ∃ x, hs[i]? = some x := ⟨_, List.getElem?_eq_getElem (by rw [<- HN.out]; exact hlt)⟩
   obtain ⟨c0, c1, c2, c3⟩ := HH.out wr hb i x hx
   obtain ⟨ad, hsh⟩ := HI.out i x hx
   rw [hsh] at c3
   have HX := Lib.hid hx
   have HC := Lib.hid fun W => claim1_any (x.no : Int) (x.cls : Int) (x.bits : Int) (.slice ad x.bl.length x.bl.length) W
   by_cases hz : x.cls = 0
   ·rw [show ((x.cls : Int) == 0) = true from by rw [hz]; rfl] at HC
    have HZ := Lib.hid hz
    generalize x.bl.length = m at *
    unfold jv at c0 c1
    unfold wv at c2
    clear hb hno hx hsh hz
    go_wp2_with fail
    refine (HC.out _).mono ?_
    rintro e w3 ⟨rfl, hb3⟩
    have HE := Lib.hid (show IdxPost w hs (.returned (.int .i64 (i : Int))) w3 from ⟨.inl ⟨i, ⟨⟨x, HX.out, HZ.out⟩, HNO.out⟩, rfl⟩, Below.and HB.out hb3⟩)
    clear hb3
    go_wp2
    go_ret
    exact HE.out
   ·rw [show ((x.cls : Int) == 0) = false from by rw [Bool.eq_false_iff]; intro k; have := beq_iff_eq.1 k; omega] at HC
    have HZ := Lib.hid hz
    generalize x.bl.length = m at *
    unfold jv at c0 c1
    unfold wv at c2
    clear hb hno hx hsh hz
    go_wp2_with fail
    refine (HC.out _).mono ?_
    rintro e w3 ⟨rfl, hb3⟩
    have HB3 := Lib.hid (Below.and HB.out hb3)
    clear hb3
    go_wp2
    go_roundw
    case rel => exact ⟨i + 1, by rw [<- HN.out]; exact hlt, by go_num, HB3.out, fun k z hk hz => by
     by_cases e : k = i
     ·subst e
      rw [HX.out] at hz
      cases hz
      exact HZ.out
     ·exact HNO.out k z (by omega) hz⟩
    case measure => simp [intOf]; omega
  ·have HE := Lib.hid (show IdxPost w hs (.returned (.int .i64 (-1))) wr from ⟨.inr ⟨fun k z hz => hno k z (by have := (List.getElem?_eq_some_iff.1 hz).1; have := HN.out; omega) hz, rfl⟩, hb⟩)
   clear hb hno hi
   go_wp2
   go_ret
   exact HE.out
def ClaimPost (w : World) (y : SLay) (hs : List Hd) (fs : Nat -> List Nat) (c : Nat) (e : Ending) (w' : World) : Prop :=
 e = .returned (.tuple #[]) /\ ∃ y' hs' fs', SlabMem w' y' hs' fs' /\ STurn w w' y y' /\
  ((∃ (i : Nat) (x : Hd), FirstZ hs i /\ hs[i]? = some x /\ hs' = hs.set i ⟨x.no, c, 0, blK (blN c) 0 (blN c)⟩ /\ fs' = updF fs c (grown x.no c 0 (fs c) (blN c))) \/ (NoZ hs /\ hs' = hs /\ fs' = fs))
theorem claim_any {w : World} {y : SLay} {hs : List Hd} {fs : Nat -> List Nat} (h : SlabMem w y hs fs) (ok : HsOk hs) (R : RS w y) {c : Nat} (hc3 : c <= 3) (hfew : (fs c).length + 15 <= 100000) :
  Calls Tryz.prog 71 #[fpt y.gs, jv c] w (ClaimPost w y hs fs c) := by
 have HI := Lib.hid (indexH_any h)
 have c0 := h.field
 have hmost := h.most
 have HG := Lib.hid (fun (W : World) (hb : Below w.heap.size w W) (i : Nat) (x : Hd) (hx : hs[i]? = some x) (hno : 1 <= x.no /\ x.no <= 64) => give_any (h.below hb) (R.below hb) hx hno hc3 (b := 0) (by decide) hfew)
 have HM := Lib.hid h
 have HO := Lib.hid ok
 have HR := Lib.hid R
 have HC := Lib.hid (fun (W : World) (hb : Below w.heap.size w W) => (h.below hb).field)
 obtain ⟨n, hn⟩ : ∃ n, n = hs.length := ⟨_, rfl⟩
 have HN := Lib.hid hn
 obtain ⟨gs, hgs⟩ : ∃ g, g = y.gs := ⟨_, rfl⟩
 obtain ⟨gh, hgh⟩ : ∃ g, g = y.gh := ⟨_, rfl⟩
 unfold fpt at HG ⊢
 unfold jv at HG ⊢
 rw [<- hn] at HI c0 HC hmost
 rw [<- hgs] at c0 HC HG ⊢
 rw [<- hgh] at c0 HC HG HI
 clear h ok R hn hgs hgh
 go_enter Tryz.func71, Tryz.ntmps71
 go_wp2_with fail
 refine HI.out.mono ?_
 rintro e w1 ⟨hi, hb⟩
 have HB := Lib.hid hb
 have c1 := HC.out w1 hb
 rcases hi with ⟨i, hf, rfl⟩ | ⟨hz, rfl⟩
 ·obtain ⟨x, hx, _⟩ := hf.1
  have hil : i < n := by rw [HN.out]; exact (List.getElem?_eq_some_iff.1 hx).1
  have HGV := Lib.hid (HG.out w1 hb i x hx (by have := HO.out i x hx; omega))
  have HX := Lib.hid hx
  have HF := Lib.hid hf
  unfold wv at HGV
  rw [show (((0 : Nat)) : Int) = 0 from rfl] at HGV
  clear hb hx hf HG c0
  unfold jv
  go_wp2_with fail
  refine HGV.out.mono ?_
  rintro e w2 ⟨rfl, y2, hs2, ht2⟩
  have HE := Lib.hid (show ClaimPost w y hs fs c (.returned (.tuple #[])) w2 from ⟨rfl, y2, _, _, hs2, (STurn.of_below y HB.out).trans ht2, .inl ⟨i, x, HF.out, HX.out, rfl, rfl⟩⟩)
  clear hs2 ht2 HGV
  go_wp2
  refine bodyPost_ret (results_none rfl _ _ _) rfl ?_
  exact HE.out
 ·have HE := Lib.hid (show ClaimPost w y hs fs c (.returned (.tuple #[])) w1 from ⟨rfl, y, hs, fs, HM.out.below hb, STurn.of_below y hb, .inr ⟨hz, rfl, rfl⟩⟩)
  clear hb hz HG
  go_wp2
  refine bodyPost_ret (results_none rfl _ _ _) rfl ?_
  exact HE.out
theorem list_min : ∀ (s : List Nat), s ≠ [] -> ∃ m, m ∈ s /\ ∀ x ∈ s, m <= x
 | [], h => absurd rfl h
 | [a], _ => ⟨a, List.mem_cons_self, fun x hx => by simp at hx; omega⟩
 | a :: b :: t, _ => by
  obtain ⟨m, hm, hl⟩ := list_min (b :: t) (by simp)
  by_cases h : a <= m
  ·exact ⟨a, List.mem_cons_self, fun x hx => by
    rcases List.mem_cons.1 hx with rfl | hx
    ·exact Nat.le_refl _
    ·exact Nat.le_trans h (hl x hx)⟩
  ·exact ⟨m, List.mem_cons_of_mem _ hm, fun x hx => by
    rcases List.mem_cons.1 hx with rfl | hx
    ·omega
    ·exact hl x hx⟩
def Claimed (hs hs1 : List Hd) (c : Nat) : Prop := ((∃ a, FreeB hs c a) /\ hs1 = hs) \/ ((∀ a, ¬ FreeB hs c a) /\ ((∃ (i : Nat) (x : Hd), FirstZ hs i /\ hs[i]? = some x /\ hs1 = hs.set i ⟨x.no, c, 0, blK (blN c) 0 (blN c)⟩) \/ (NoZ hs /\ hs1 = hs)))
def Took (hs1 hs' : List Hd) (c : Nat) (e : Ending) : Prop :=
 (∃ (i j : Nat) (x : Hd), hs1[i]? = some x /\ x.cls = c /\ x.bl[j]? = some 0 /\ (∀ a, FreeB hs1 c a -> adr x.no c j <= a) /\ hs' = hs1.set i { x with bl := x.bl.set j 1 } /\ e = .returned (.tuple #[wv (adr x.no c j), .int .i64 0])) \/
 ((∀ a, ¬ FreeB hs1 c a) /\ hs' = hs1 /\ e = .returned (.tuple #[.int .u64 0, .int .i64 4]))
def ResPost (w : World) (y : SLay) (hs : List Hd) (c : Nat) (e : Ending) (w' : World) : Prop :=
 ∃ hs1 hs' y' fs', Claimed hs hs1 c /\ Took hs1 hs' c e /\ SlabMem w' y' hs' fs' /\ HsOk hs' /\ FsOk hs' fs' /\ STurn w w' y y'
theorem reserve_any {w : World} {y : SLay} {hs : List Hd} {fs : Nat -> List Nat} (h : SlabMem w y hs fs) (ok : HsOk hs) (fo : FsOk hs fs) (R : RS w y) {c : Nat} (hc1 : 1 <= c) (hc3 : c <= 3) :
  Calls Tryz.prog 37 #[fpt y.gs, jv c] w (ResPost w y hs c) := by
 have H := Lib.hid (snone_at h)
 have HC := Lib.hid (sClass_at (n := (c : Int)) (inB_yes ⟨by omega, by omega⟩) w)
 have hfew := fo.few ok h.most c
 have HLN := Lib.hid (len_any (h.fre c (by omega)) (by omega))
 have HCL := Lib.hid (claim_any h ok R hc3 (by omega))
 have d1 := h.set4 (c := c) (by omega)
 have HM := Lib.hid h
 have HO := Lib.hid ok
 have HF := Lib.hid fo
 have HR := Lib.hid R
 have HFW := Lib.hid hfew
 obtain ⟨gs, hgs⟩ : ∃ g, g = y.gs := ⟨_, rfl⟩
 obtain ⟨gf, hgf⟩ : ∃ g, g = y.gf c := ⟨_, rfl⟩
 unfold fpt at H HCL d1 ⊢
 unfold jv at HCL ⊢
 rw [<- hgs] at H HCL d1 ⊢
 rw [<- hgf] at HLN d1
 have HGS := Lib.hid hgs
 have HGF := Lib.hid hgf
 clear h ok fo R hgs hgf hfew
 go_enter Tryz.func37, Tryz.ntmps37
 go_wp2_with fail
 refine H.out.mono ?_
 rintro e w1 ⟨rfl, rfl⟩
 go_wp2_with fail
 refine HC.out.mono ?_
 rintro e w1 ⟨rfl, rfl⟩
 by_cases h0 : fs c = []
 ·rw [h0] at HLN
  rw [show ((([] : List Nat).length : Nat) : Int) = 0 from rfl] at HLN
  have HZ := Lib.hid (show ∀ a, ¬ FreeB hs c a from fun a ha => by have := ((HF.out c).2 a).2 ha; rw [h0] at this; cases this)
  clear h0
  go_wp2_with fail
  refine HLN.out.mono ?_
  rintro e w1 ⟨rfl, rfl⟩
  go_wp2_with fail
  refine HCL.out.mono ?_
  rintro e w1 ⟨rfl, y1, hs1, fs1, hm1, ht1, hcc⟩
  have HS1 := Lib.hid hm1
  have HT1 := Lib.hid ht1
  have hcl : HsOk hs1 /\ FsOk hs1 fs1 /\ Claimed hs hs1 c := by
   rcases hcc with ⟨i, x, hf, hx, rfl, rfl⟩ | ⟨hz, rfl, rfl⟩
   ·have hx0 : x.cls = 0 := by
     obtain ⟨x', hx', h0⟩ := hf.1
     rw [hx] at hx'
     cases hx'
     exact h0
    have hxl : x.bl.length = 0 := by rw [(HO.out i x hx).2, hx0]; rfl
    exact ⟨HO.out.claim hx, HF.out.claim hx hx0 hxl, .inr ⟨HZ.out, .inl ⟨i, x, hf, hx, rfl⟩⟩⟩
   ·exact ⟨HO.out, HF.out, .inr ⟨HZ.out, .inr ⟨hz, rfl⟩⟩⟩
  have HO1 := Lib.hid hcl.1
  have HF1 := Lib.hid hcl.2.1
  have HCD := Lib.hid hcl.2.2
  clear hm1 ht1 hcc hcl d1 H HC HLN HCL
  have d2 := HS1.out.set4 (c := c) (by omega)
  unfold fpt at d2
  rw [HT1.out.gs, HT1.out.gf, <- HGS.out, <- HGF.out] at d2
  by_cases h1 : fs1 c = []
  ·have hS := HS1.out.fre c (by omega)
   rw [h1, HT1.out.gf, <- HGF.out] at hS
   have HTN := Lib.hid (take_none hS)
   have HE := Lib.hid (show ResPost w y hs c (.returned (.tuple #[.int .u64 0, .int .i64 4])) w1 from ⟨hs1, hs1, y1, fs1, HCD.out, .inr ⟨(fun a ha => by have := ((HF1.out c).2 a).2 ha; rw [h1] at this; cases this), rfl, rfl⟩, HS1.out, HO1.out, HF1.out, HT1.out⟩)
   clear h1 hS
   go_wp2_with fail
   refine HTN.out.mono ?_
   rintro e w2 ⟨rfl, rfl⟩
   go_wp2
   go_ret2
   exact HE.out
  ·obtain ⟨m, hmm, hmin⟩ := list_min _ h1
   have hS := HS1.out.fre c (by omega)
   have hfw := HF1.out.few HO1.out HS1.out.most c
   have hTK := take_any hS (by omega) hmm hmin
   rw [HT1.out.gf, <- HGF.out] at hTK
   unfold wv at hTK
   have HTK := Lib.hid hTK
   obtain ⟨i, j, x, hx, hxc, hb, ha, hfd⟩ := (((HF1.out c).2 m).1 hmm).found
   have HX := Lib.hid hx
   have HXC := Lib.hid hxc
   have HBL := Lib.hid hb
   have HAD := Lib.hid ha
   have HFD := Lib.hid hfd
   have HMIN := Lib.hid (show ∀ a, FreeB hs1 c a -> m <= a from fun a ha => hmin a (((HF1.out c).2 a).2 ha))
   have HFW1 := Lib.hid hfw
   clear h1 hmm hmin hS hfw hTK hx hxc hb ha hfd
   go_wp2_with fail
   refine HTK.out.mono ?_
   rintro e w2 ⟨rfl, hl⟩
   have hl' : LeftSet w1 (y1.gf c) (y1.fv c) ((fs1 c).erase m) w2 := by rw [HT1.out.gf, <- HGF.out]; exact hl
   obtain ⟨y2, hm2, ht2⟩ := HS1.out.left (c := c) (by omega) hl' (by have := HFW1.out; have := List.length_erase_le (a := m) (l := fs1 c); omega)
   have HT2 := Lib.hid (HT1.out.trans ht2)
   have HFI := find_any hm2 HO1.out (HR.out.turn HT2.out).1 m
   unfold fpt wv at HFI
   rw [HT2.out.gs, <- HGS.out] at HFI
   have HFI := Lib.hid HFI
   have HS2 := Lib.hid hm2
   clear hl hl' hm2 ht2 HTK d2
   go_wp2_with fail
   refine HFI.out.mono ?_
   rintro e w3 ⟨hf, hb3⟩
   have HB3 := Lib.hid hb3
   rcases hf with ⟨i', j', hf', rfl⟩ | ⟨hn, rfl⟩
   ·obtain ⟨rfl, rfl⟩ := found_one HO1.out HS2.out.most hf' HFD.out
    have hm3 := HS2.out.below hb3
    have hxl : j' < x.bl.length := (List.getElem?_eq_some_iff.1 HBL.out).1
    have hl15 := (HS2.out.lens x (List.mem_of_getElem? HX.out)).1
    obtain ⟨g, hsh, hrow⟩ := (hm3.blk i' x HX.out).pos (by omega)
    have hown : (y2.bv i').ownBlock = some g := by rw [hsh]; rfl
    have c3 := (hm3.head HX.out).2.2.2
    rw [hsh] at c3
    have cj := hrow.cell j'
    rw [List.getElem?_toArray, List.getElem?_map, HBL.out, Option.map_some] at cj
    have fj := hrow.free j'
    obtain ⟨hp, tp⟩ := hm3.put_bl (j := j') HX.out hown 1
    have HE := Lib.hid (show ResPost w y hs c (.returned (.tuple #[.int .u64 (m : Int), .int .i64 0])) (w3.setCell ⟨g, j', none⟩ (.int .i64 1)) from by
     have hmost := HS2.out.most
     have hfo := HF1.out.take HO1.out hmost (v := 1) HX.out HBL.out (by decide)
     refine ⟨hs1, _, y2, _, HCD.out, .inl ⟨i', j', x, HX.out, HXC.out, HBL.out, by rw [HAD.out]; exact HMIN.out, rfl, by rw [HAD.out]; rfl⟩, hp, HO1.out.set_bl HX.out, ?_, (HT2.out.trans (STurn.of_below y2 HB3.out)).trans tp⟩
     have e : updF fs1 x.cls ((fs1 x.cls).erase (adr x.no x.cls j')) = updF fs1 c ((fs1 c).erase m) := by rw [HXC.out, HAD.out]
     rw [e] at hfo
     exact hfo)
    generalize x.bl.length = q at *
    unfold jv at cj
    unfold jv
    clear hf' hb3 hm3 hsh hrow hown hp tp HFI
    go_wp2
    go_ret2
    exact HE.out
   ·exact absurd HFD.out (hn i j)
 ·have hne : ((((fs c).length : Nat) : Int) == 0) = false := by
   rw [Bool.eq_false_iff]
   intro k
   have h1 := beq_iff_eq.1 k
   exact h0 (List.eq_nil_of_length_eq_zero (by omega))
  have HT1 := Lib.hid (STurn.refl w y)
  have HS1 := HM
  have HO1 := HO
  have HF1 := HF
  have HCD := Lib.hid (show Claimed hs hs c from .inl ⟨by
   obtain ⟨m, hm, _⟩ := list_min _ h0
   exact ⟨m, ((HF.out c).2 m).1 hm⟩, rfl⟩)
  generalize (fs c).length = L at HLN hne
  clear h0
  go_wp2_with fail
  refine HLN.out.mono ?_
  rintro e w1 ⟨rfl, rfl⟩
  clear H HC HLN HCL
  have d2 := HS1.out.set4 (c := c) (by omega)
  unfold fpt at d2
  rw [HT1.out.gs, HT1.out.gf, <- HGS.out, <- HGF.out] at d2
  by_cases h1 : fs c = []
  ·have hS := HS1.out.fre c (by omega)
   rw [h1, HT1.out.gf, <- HGF.out] at hS
   have HTN := Lib.hid (take_none hS)
   have HE := Lib.hid (show ResPost w y hs c (.returned (.tuple #[.int .u64 0, .int .i64 4])) w from ⟨hs, hs, y, fs, HCD.out, .inr ⟨(fun a ha => by have := ((HF1.out c).2 a).2 ha; rw [h1] at this; cases this), rfl, rfl⟩, HS1.out, HO1.out, HF1.out, HT1.out⟩)
   clear h1 hS
   go_wp2_with fail
   refine HTN.out.mono ?_
   rintro e w2 ⟨rfl, rfl⟩
   go_wp2
   go_ret2
   exact HE.out
  ·obtain ⟨m, hmm, hmin⟩ := list_min _ h1
   have hS := HS1.out.fre c (by omega)
   have hfw := HF1.out.few HO1.out HS1.out.most c
   have hTK := take_any hS (by omega) hmm hmin
   rw [HT1.out.gf, <- HGF.out] at hTK
   unfold wv at hTK
   have HTK := Lib.hid hTK
   obtain ⟨i, j, x, hx, hxc, hb, ha, hfd⟩ := (((HF1.out c).2 m).1 hmm).found
   have HX := Lib.hid hx
   have HXC := Lib.hid hxc
   have HBL := Lib.hid hb
   have HAD := Lib.hid ha
   have HFD := Lib.hid hfd
   have HMIN := Lib.hid (show ∀ a, FreeB hs c a -> m <= a from fun a ha => hmin a (((HF1.out c).2 a).2 ha))
   have HFW1 := Lib.hid hfw
   clear h1 hmm hmin hS hfw hTK hx hxc hb ha hfd
   go_wp2_with fail
   refine HTK.out.mono ?_
   rintro e w2 ⟨rfl, hl⟩
   have hl' : LeftSet w (y.gf c) (y.fv c) ((fs c).erase m) w2 := by rw [HT1.out.gf, <- HGF.out]; exact hl
   obtain ⟨y2, hm2, ht2⟩ := HS1.out.left (c := c) (by omega) hl' (by have := HFW1.out; have := List.length_erase_le (a := m) (l := fs c); omega)
   have HT2 := Lib.hid (HT1.out.trans ht2)
   have HFI := find_any hm2 HO1.out (HR.out.turn HT2.out).1 m
   unfold fpt wv at HFI
   rw [HT2.out.gs, <- HGS.out] at HFI
   have HFI := Lib.hid HFI
   have HS2 := Lib.hid hm2
   clear hl hl' hm2 ht2 HTK d2
   go_wp2_with fail
   refine HFI.out.mono ?_
   rintro e w3 ⟨hf, hb3⟩
   have HB3 := Lib.hid hb3
   rcases hf with ⟨i', j', hf', rfl⟩ | ⟨hn, rfl⟩
   ·obtain ⟨rfl, rfl⟩ := found_one HO1.out HS2.out.most hf' HFD.out
    have hm3 := HS2.out.below hb3
    have hxl : j' < x.bl.length := (List.getElem?_eq_some_iff.1 HBL.out).1
    have hl15 := (HS2.out.lens x (List.mem_of_getElem? HX.out)).1
    obtain ⟨g, hsh, hrow⟩ := (hm3.blk i' x HX.out).pos (by omega)
    have hown : (y2.bv i').ownBlock = some g := by rw [hsh]; rfl
    have c3 := (hm3.head HX.out).2.2.2
    rw [hsh] at c3
    have cj := hrow.cell j'
    rw [List.getElem?_toArray, List.getElem?_map, HBL.out, Option.map_some] at cj
    have fj := hrow.free j'
    obtain ⟨hp, tp⟩ := hm3.put_bl (j := j') HX.out hown 1
    have HE := Lib.hid (show ResPost w y hs c (.returned (.tuple #[.int .u64 (m : Int), .int .i64 0])) (w3.setCell ⟨g, j', none⟩ (.int .i64 1)) from by
     have hmost := HS2.out.most
     have hfo := HF1.out.take HO1.out hmost (v := 1) HX.out HBL.out (by decide)
     refine ⟨hs, _, y2, _, HCD.out, .inl ⟨i', j', x, HX.out, HXC.out, HBL.out, by rw [HAD.out]; exact HMIN.out, rfl, by rw [HAD.out]; rfl⟩, hp, HO1.out.set_bl HX.out, ?_, (HT2.out.trans (STurn.of_below y2 HB3.out)).trans tp⟩
     have e : updF fs x.cls ((fs x.cls).erase (adr x.no x.cls j')) = updF fs c ((fs c).erase m) := by rw [HXC.out, HAD.out]
     rw [e] at hfo
     exact hfo)
    generalize x.bl.length = q at *
    unfold jv at cj
    unfold jv
    clear hf' hb3 hm3 hsh hrow hown hp tp HFI
    go_wp2
    go_ret2
    exact HE.out
   ·exact absurd HFD.out (hn i j)
def RelPost (w : World) (y : SLay) (hs : List Hd) (a : Nat) (e : Ending) (w' : World) : Prop :=
 (∃ (i j : Nat) (x : Hd) (y' : SLay) (fs' : Nat -> List Nat), hs[i]? = some x /\ x.bl[j]? = some 1 /\ adr x.no x.cls j = a /\ e = .returned (.int .i64 0) /\ SlabMem w' y' (hs.set i { x with bl := x.bl.set j 0 }) fs' /\ HsOk (hs.set i { x with bl := x.bl.set j 0 }) /\ FsOk (hs.set i { x with bl := x.bl.set j 0 }) fs' /\ STurn w w' y y') \/
 (¬ isAt hs a 1 /\ e = .returned (.int .i64 7) /\ Below w.heap.size w w')
theorem release_none {p : Option Addr} {w : World} (h : NoSlab w p) (n : Int) : Calls Tryz.prog 13 #[.pointer p, .int .u64 n] w fun e w' => e = .returned (.int .i64 1) /\ w = w' := by
 have H := Lib.hid (snone_none h)
 clear h
 go_enter Tryz.func13, Tryz.ntmps13
 go_wp2_with fail
 refine H.out.mono ?_
 rintro e w1 ⟨rfl, rfl⟩
 go_wp2
 go_ret
 exact ⟨rfl, rfl⟩
def Rsv (hs : List Hd) (a : Nat) : Prop := ∃ (i j : Nat) (x : Hd), hs[i]? = some x /\ x.bl[j]? = some 1 /\ adr x.no x.cls j = a
theorem Rsv.found {hs : List Hd} {a : Nat} (h : Rsv hs a) : ∃ i j x, hs[i]? = some x /\ x.bl[j]? = some 1 /\ Found hs a i j := by
 obtain ⟨i, j, x, hx, hb, ha⟩ := h
 exact ⟨i, j, x, hx, hb, x, hx, (List.getElem?_eq_some_iff.1 hb).1, ha⟩
theorem isAt_rsv {hs : List Hd} (ok : HsOk hs) (hm : hs.length <= 64) {a v : Nat} (h : isAt hs a v) (hr : Rsv hs a) : v = 1 := by
 obtain ⟨k, q, z, hz, hb, hf⟩ := hr.found
 rcases h with ⟨i, j, x, hx, hj, ha, hv⟩ | ⟨hn, _⟩
 ·obtain ⟨rfl, rfl⟩ := found_one ok hm hf ⟨x, hx, hj, ha⟩
  rw [hx] at hz
  cases hz
  rw [hv] at hb
  exact Option.some.inj hb
 ·exact absurd hf (hn k q)
theorem release_any {w : World} {y : SLay} {hs : List Hd} {fs : Nat -> List Nat} (h : SlabMem w y hs fs) (ok : HsOk hs) (fo : FsOk hs fs) (R : RS w y) (a : Nat) :
  Calls Tryz.prog 13 #[fpt y.gs, wv a] w (RelPost w y hs a) := by
 have H := Lib.hid (snone_at h)
 have HIS := Lib.hid (is_any h ok R.1 a)
 by_cases hr : Rsv hs a
 ·obtain ⟨i, j, x, hx, hb, ha⟩ := hr
  have hm := h.most
  have o := ok i x hx
  have hi := (List.getElem?_eq_some_iff.1 hx).1
  have hj := (List.getElem?_eq_some_iff.1 hb).1
  have HONE := Lib.hid (fun v (hv : isAt hs a v) => isAt_rsv ok hm hv ⟨i, j, x, hx, hb, ha⟩)
  have HFD := Lib.hid (fun (W : World) (hW : Below w.heap.size w W) => find_any (h.below hW) ok (R.1.below hW) a)
  have HF1 := Lib.hid (fun i' j' (hf : Found hs a i' j') => found_one ok hm hf (⟨x, hx, hj, ha⟩ : Found hs a i j))
  have HF0 := Lib.hid (⟨x, hx, hj, ha⟩ : Found hs a i j)
  have HLV := Lib.hid (fun (W : World) (hW : Below w.heap.size w W) => leave_any (h.below hW) (R.below hW) hx (by omega) hj (by rw [<- o.2]; exact hj) (by have := fo.few ok hm x.cls; omega))
  have HP := Lib.hid (fun (W W' : World) (y' : SLay) (hW : Below w.heap.size w W) (hmem : SlabMem W' y' (hs.set i { x with bl := x.bl.set j 0 }) (updF fs x.cls (ins (adr x.no x.cls j) (fs x.cls)))) (ht : STurn W W' y y') => (show RelPost w y hs a (.returned (.int .i64 0)) W' from
   .inl ⟨i, j, x, y', _, hx, hb, ha, rfl, hmem, ok.set_bl hx, fo.back ok hm hx hj, (STurn.of_below y hW).trans ht⟩))
  obtain ⟨gs, hgs⟩ : ∃ g, g = y.gs := ⟨_, rfl⟩
  obtain ⟨gh, hgh⟩ : ∃ g, g = y.gh := ⟨_, rfl⟩
  unfold fpt wv jv at *
  rw [<- hgs] at H HIS HFD HLV ⊢
  rw [<- hgh] at HLV
  have HGH := Lib.hid hgh
  clear h ok fo R hx hb ha hm o hi hj hgs hgh
  go_enter Tryz.func13, Tryz.ntmps13
  go_wp2_with fail
  refine H.out.mono ?_
  rintro e w1 ⟨rfl, rfl⟩
  go_wp2_with fail
  refine HIS.out.mono ?_
  rintro e w2 ⟨⟨v, hv, rfl⟩, hb2⟩
  obtain rfl := HONE.out v hv
  have HB2 := Lib.hid hb2
  have HFD2 := Lib.hid (HFD.out w2 hb2)
  clear hv hb2 HIS
  unfold jv
  rw [show ((1 : Nat) : Int) = 1 from rfl]
  go_wp2_with fail
  refine HFD2.out.mono ?_
  rintro e w3 ⟨⟨i', j', hf, rfl⟩ | ⟨hno, _⟩, hb3⟩
  ·obtain ⟨rfl, rfl⟩ := HF1.out i' j' hf
   rw [<- HGH.out]
   have HB3 := Lib.hid (Below.and HB2.out hb3)
   have HLV3 := Lib.hid (HLV.out w3 HB3.out)
   clear hf hb3 HFD2 HLV
   unfold jv
   go_wp2_with fail
   refine HLV3.out.mono ?_
   rintro e w4 ⟨rfl, y', hmem, ht⟩
   have HE := Lib.hid (HP.out w3 w4 y' HB3.out hmem ht)
   clear hmem ht
   go_wp2
   go_ret
   exact HE.out
  ·exact absurd HF0.out (hno i j)
 ·have HN := Lib.hid (show ¬ isAt hs a 1 from fun hv => by
   rcases hv with ⟨i, j, x, hx, _, ha, hb⟩ | ⟨_, h1⟩
   ·exact hr ⟨i, j, x, hx, hb, ha⟩
   ·cases h1)
  obtain ⟨gs, hgs⟩ : ∃ g, g = y.gs := ⟨_, rfl⟩
  unfold fpt wv at *
  rw [<- hgs] at H HIS ⊢
  clear h ok fo R hr hgs
  go_enter Tryz.func13, Tryz.ntmps13
  go_wp2_with fail
  refine H.out.mono ?_
  rintro e w1 ⟨rfl, rfl⟩
  go_wp2_with fail
  refine HIS.out.mono ?_
  rintro e w2 ⟨⟨v, hv, rfl⟩, hb2⟩
  have hv1 : v ≠ 1 := fun e => by subst e; exact HN.out hv
  have hvb : ((v : Int) != 1) = true := by simp; omega
  have HE := Lib.hid (show RelPost w y hs a (.returned (.int .i64 7)) w2 from .inr ⟨HN.out, rfl, hb2⟩)
  clear hv hb2 hv1
  unfold jv
  go_wp2
  go_ret
  exact HE.out
end Go.Proofs.YtkbklooocdfcfaaGreatDoor
