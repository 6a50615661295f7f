/- Texts of this claim, packed: ArK, ArC, WkO, SpZ, ArK0, ArC0. -/
import Derived.Test.YtkbklooocdfcfaaGreatDoorPzQ
import Derived.Test.YtkbklooocdfcfaaGreatDoorPz44
import Derived.Test.YtkbklooocdfcfaaGreatDoorPz45
import Derived.Test.YtkbklooocdfcfaaGreatDoorPz39
set_option linter.unusedVariables false
set_option maxRecDepth 100000
set_option maxHeartbeats 6400000
namespace Go.Proofs.YtkbklooocdfcfaaGreatDoor
open Go.RowKit
theorem BuildP.up {w W : World} {n : Nat} {ks : List Nat} {e : Ending} {w' : World} (h : BuildP W n ks e w') (hb : Below w.heap.size w W) : BuildP w n ks e w' := by
 obtain ⟨g, gb, he, h1, h2, h3, gl, cl, gr, cr, h4, h5, h6, h7, h8⟩ := h
 have hs := hb.size
 exact ⟨g, gb, he, by omega, by omega, hb.trans (h3.mono hs), gl, cl, gr, cr, h4, h5, h6, by omega, by omega⟩
theorem lay_few {w : World} {n per gk cap lag m : Nat} {ks : List Nat} (hm : ks.length = m) (hK : ∀ k, k < m -> w.cell? ⟨gk, k, none⟩ = some (.int .u64 ((ks.getD k 0 : Nat) : Int))) (hk : ∀ k, ks.getD k 0 < 18446744073709551616) (hr : ∀ a b, a < b -> b < m -> ks.getD a 0 < ks.getD b 0)
  (h0 : 0 < m) (hmp : m <= per) (hp : per <= 8) (hp2 : 2 <= per) (hn1 : 1 <= n) (hn : n <= 16) (hlag : lag <= 20) (hroom : ∀ k, k < ks.length -> (bK (b1 n) ks k).newValue.1 ≠ 0) (ht : bT n ks ≠ 0) (hw : WordsOk (bN n ks)) :
  Calls Tryz.prog 6 #[.agg #[.int .i64 (n : Int), .slice (some ⟨gk, 0, none⟩) m cap, .int .i64 (per : Int), .int .i64 (lag : Int)]] w (BuildP w n ks) := by
 have mixed : Tryz.prog.follows .mixedOrders = true := by kernel_rfl
 have hgk : gk < w.heap.size := w.block_lt_of_cell? _ (hK 0 h0)
 obtain ⟨W1, hW1⟩ : ∃ W1, W1 = w.alloc (.cells #[.int .i64 (n : Int), .slice (some ⟨gk, 0, none⟩) m cap, .int .i64 (per : Int), .int .i64 (lag : Int)] 40) := ⟨_, rfl⟩
 have r1 : Row W1 w.heap.size 40 #[.int .i64 (n : Int), .slice (some ⟨gk, 0, none⟩) m cap, .int .i64 (per : Int), .int .i64 (lag : Int)] := by rw [hW1]; exact Row.new _ _ _
 have b1' : Below w.heap.size w W1 := by rw [hW1]; exact alloc_below _ _
 have k0 : W1.cell? ⟨w.heap.size, 0, none⟩ = some (.int .i64 (n : Int)) := r1.cell 0
 have k1 : W1.cell? ⟨w.heap.size, 1, none⟩ = some (.slice (some ⟨gk, 0, none⟩) m cap) := r1.cell 1
 have k2 : W1.cell? ⟨w.heap.size, 2, none⟩ = some (.int .i64 (per : Int)) := r1.cell 2
 have k3 : W1.cell? ⟨w.heap.size, 3, none⟩ = some (.int .i64 (lag : Int)) := r1.cell 3
 have HRI := Lib.hid fun (W : World) (hb : Below w.heap.size w W) => rising_any (most := 40) (cap := cap) hm (fun k hk => (hb.cell (p := ⟨gk, k, none⟩) hgk).trans (hK k hk)) hr (by omega) h0 (by omega)
 have HBU := Lib.hid fun (W : World) (g c : Nat) (hc : ∀ k, k < ks.length -> W.cell? ⟨g, k, none⟩ = some (.int .u64 ((ks.getD k 0 : Nat) : Int))) => build_few (w := W) (gk := g) (cap := c) (lag := (lag : Int)) hc hk (by omega) (by omega) hp hn hroom ht hw
 rw [hm] at HBU
 have HM := Lib.hid hm
 have HB1 := Lib.hid b1'
 have HW1 := Lib.hid hW1
 have STAY := Lib.hid fun W' (hb : Below W1.heap.size W1 W') => And.intro ((hb.cell (p := ⟨w.heap.size, 0, none⟩) (W1.block_lt_of_cell? _ k0)).trans k0) (And.intro ((hb.cell (p := ⟨w.heap.size, 1, none⟩) (W1.block_lt_of_cell? _ k1)).trans k1) (And.intro ((hb.cell (p := ⟨w.heap.size, 2, none⟩) (W1.block_lt_of_cell? _ k2)).trans k2) (And.intro ((hb.cell (p := ⟨w.heap.size, 3, none⟩) (W1.block_lt_of_cell? _ k3)).trans k3) hb)))
 have EGR := Lib.hid (enters_of Tryz.func19 (by kernel_rfl) rfl)
 have EGB := Lib.hid (enters_of Tryz.func18 (by kernel_rfl) rfl)
 have d1 : ¬ (n : Int) < 1 := by omega
 have d2 : ¬ (16 : Int) < (n : Int) := by omega
 have d3 : ¬ (per : Int) < 2 := by omega
 have d4 : ¬ (8 : Int) < (per : Int) := by omega
 have d5 : ¬ (lag : Int) < 0 := by omega
 have d6 : ¬ (20 : Int) < (lag : Int) := by omega
 have d7 : ¬ (60 : Int) < (m : Int) := by omega
 clear hK hk hr hroom ht hw hm hgk r1 b1' hW1
 go_enter Tryz.func6, Tryz.ntmps6
 go_upto_region 1 with (fail)
 rw [<- HW1.out]
 go_upto_region 3 with (fail)
 clear k0 k1 k2 k3 d1 d2 d3 d4 d5 d6 d7
 refine wp_region_noPanic ?_
 refine wp_region_held_drew (S := fun W' => W'.cell? ⟨w.heap.size, 0, none⟩ = some (.int .i64 (n : Int)) /\ W'.cell? ⟨w.heap.size, 1, none⟩ = some (.slice (some ⟨gk, 0, none⟩) m cap) /\ W'.cell? ⟨w.heap.size, 2, none⟩ = some (.int .i64 (per : Int)) /\ W'.cell? ⟨w.heap.size, 3, none⟩ = some (.int .i64 (lag : Int)) /\ Below W1.heap.size W1 W') (by kernel_rfl) (STAY.out _ (drew_below _)) (fun hHeld => ?_)
 refine tkH (i := 0) (oi := ⟨some 37, _, _, _, _, _⟩) (v := .pointer (some ⟨w.heap.size, 0, none⟩)) rfl (Or.inl ⟨by kernel_rfl, by intro WW hSw; (try dsimp only at hSw); go_simp⟩) (by assumption) ?_
 (try simp only [Act.put, q1, q2, q3])
 refine tkH (i := 1) (oi := ⟨some 38, _, _, _, _, _⟩) (v := .int .i64 (n : Int)) rfl (Or.inl ⟨by kernel_rfl, by intro WW hSw; (try dsimp only at hSw); go_simp⟩) (by assumption) ?_
 (try simp only [Act.put, q1, q2, q3])
 refine tkH (i := 2) (oi := ⟨some 39, _, _, _, _, _⟩) (v := .pointer (some ⟨w.heap.size, 1, none⟩)) rfl (Or.inl ⟨by kernel_rfl, by intro WW hSw; (try dsimp only at hSw); go_simp⟩) (by assumption) ?_
 (try simp only [Act.put, q1, q2, q3])
 refine tkH (i := 3) (oi := ⟨some 40, _, _, _, _, _⟩) (v := .slice (some ⟨gk, 0, none⟩) m cap) rfl (Or.inl ⟨by kernel_rfl, by intro WW hSw; (try dsimp only at hSw); go_simp⟩) (by assumption) ?_
 (try simp only [Act.put, q1, q2, q3])
 refine tkH (i := 5) (oi := ⟨some 42, _, _, _, _, _⟩) (v := .pointer (some ⟨w.heap.size, 2, none⟩)) rfl (Or.inl ⟨by kernel_rfl, by intro WW hSw; (try dsimp only at hSw); go_simp⟩) (by assumption) ?_
 (try simp only [Act.put, q1, q2, q3])
 refine tkH (i := 6) (oi := ⟨some 43, _, _, _, _, _⟩) (v := .int .i64 (per : Int)) rfl (Or.inl ⟨by kernel_rfl, by intro WW hSw; (try dsimp only at hSw); go_simp⟩) (by assumption) ?_
 (try simp only [Act.put, q1, q2, q3])
 refine tkH (i := 7) (oi := ⟨some 44, _, _, _, _, _⟩) (v := .pointer (some ⟨w.heap.size, 3, none⟩)) rfl (Or.inl ⟨by kernel_rfl, by intro WW hSw; (try dsimp only at hSw); go_simp⟩) (by assumption) ?_
 (try simp only [Act.put, q1, q2, q3])
 refine tkH (i := 8) (oi := ⟨some 45, _, _, _, _, _⟩) (v := .int .i64 (lag : Int)) rfl (Or.inl ⟨by kernel_rfl, by intro WW hSw; (try dsimp only at hSw); go_simp⟩) (by assumption) ?_
 (try simp only [Act.put, q1, q2, q3])
 refine wpAnyH_one (i := 4) (oi := ⟨some 41, _, _, _, _, _⟩) rfl (by kernel_rfl) (fun K hK => ?_)
 refine step_calls (by rfl) 19 EGR.out [.tmp 40, .const (.int .i64 40)] _ rfl [.slice (some ⟨gk, 0, none⟩) m cap, .int .i64 40] rfl (HRI.out _ (Below.and HB1.out (drew_below _))) ?_
 rintro e w2 ⟨V, rfl, ho, hb2⟩
 have L2 : Below W1.heap.size W1 w2 := Below.and (drew_below _) hb2
 obtain ⟨g2, c2, hV, hc2, hc3, hcs⟩ := own_some ho h0
 subst hV
 have HBW := Lib.hid (HBU.out w2 g2 c2 (fun k hk => by
  obtain ⟨a, ha, hc⟩ := hcs k _ (wvs_at ks (Nat.le_of_eq HM.out.symm) hk)
  cases ha
  rwa [add_lit] at hc))
 have HB2 := Lib.hid (Below.and HB1.out L2)
 refine ⟨_, rfl, hK _ _ (STAY.out _ L2) (fun hSn => ?_)⟩
 clear hK K ho hcs hc2 hc3
 (try simp only [Act.put, q1, q2, q3])
 refine wpAnyH_one (i := 9) (oi := ⟨some 46, _, _, _, _, _⟩) rfl (by kernel_rfl) (fun K hK => ?_)
 refine step_calls (by rfl) 18 EGB.out [.tmp 38, .tmp 41, .tmp 43, .tmp 45] _ rfl [.int .i64 (n : Int), .slice (some ⟨g2, 0, none⟩) m c2, .int .i64 (per : Int), .int .i64 (lag : Int)] rfl HBW.out ?_
 rintro e w3 hP
 obtain ⟨g, gb, he, hrest⟩ := hP
 have hlow := hrest.2.2.1
 have HP := Lib.hid (show BuildP w n ks e w3 from BuildP.up ⟨g, gb, he, hrest⟩ HB2.out)
 subst he
 refine ⟨_, rfl, hK _ _ (STAY.out _ (Below.and L2 hlow)) (fun hSn2 => ?_)⟩
 clear hK K hrest
 (try simp only [Act.put, q1, q2, q3])
 refine tkH (i := 10) (oi := ⟨some 2, _, _, _, _, _⟩) (v := .pointer (some ⟨g, 0, none⟩)) rfl (Or.inl ⟨by kernel_rfl, by intro WW hSw; (try dsimp only at hSw); go_simp⟩) (by assumption) ?_
 (try simp only [Act.put, q1, q2, q3])
 refine wpAnyH_done (by kernel_rfl) ?_ _
 go_wp2_with fail
 refine (‹∀ (a : Act) (w : World), Code.wp Tryz.prog Code.ret _ a w -> _›) _ _ ?_
 go_wp2_with fail
 go_ret
 exact HP.out
theorem pw_range (f : Nat -> Nat) {N j : Nat} (h : 8 * j + 8 <= N) : pw ((List.range N).map f) N j = wrdF f (8 * j) := by
 unfold pw wrdF
 congr 1
 apply List.ext_getElem?
 intro i
 by_cases hi : i < 8
 ·rw [List.getElem?_take_of_lt hi, List.getElem?_drop, List.getElem?_take_of_lt (by omega), List.getElem?_map, List.getElem?_range (by omega), List.getElem?_map, List.getElem?_range hi]
  rfl
 ·rw [List.getElem?_eq_none (by rw [List.length_take]; omega), List.getElem?_eq_none (by simp; omega)]
def Ar.valS (A : Ar) (S : ByteArray) : Ar := { A.newValue.2 with f := strK (putF A.newValue.2.f A.newValue.1 S.size) (A.newValue.1 + 8) S S.size }
theorem val_S (A : Ar) (key : Nat) : A.val key = A.valS (numS key) := rfl
theorem c14num5 : numS 5 = ⟨#[53]⟩ := by unfold numS; rw [Lib.decDigits_one (by decide)]; rfl
def OnSP (w : World) (c N n : Nat) (f : Nat -> Nat) (e : Ending) (w' : World) : Prop :=
 ∃ gx ym y t b, e = .returned (.pointer (some ⟨gx, 0, none⟩)) /\ SiteAt w' gx (some ⟨ym.g, 0, none⟩) (some ⟨y.gs, 0, none⟩) (some ⟨t, 0, none⟩) /\ SlabMem w' y (hsK (hcW ((List.range N).map f)) (hbW ((List.range N).map f)) n n) (fsK (hcW ((List.range N).map f)) (hbW ((List.range N).map f)) n) /\ (∀ k, y.fp k -> w.heap.size <= k /\ ¬ ym.fp k) /\ KAt w' t b (lk0 c) /\ w.heap.size <= t /\ w.heap.size <= b /\ ¬ ym.fp t /\ ¬ ym.fp b /\ MemAt w' ym (St.ofBytes (N / 64) ((List.range N).map f)) /\ (∀ k, ym.fp k -> w.heap.size <= k) /\ w.heap.size <= gx /\ ¬ ym.fp gx /\ Below w.heap.size w w'
theorem onS_yes {w : World} {gb n c N : Nat} {f : Nat -> Nat} (hN : N = 1024 * (n + 1)) (R : Rms w) (hr : Row w gb 5 (cfB N f)) (hB : BytF f) (h1 : 1 <= n) (h2 : n <= 64) (hc : 1 <= c) (hc2 : c <= 64) (hok : okHeads ((List.range N).map f) n) :
  Calls Tryz.prog 7 #[.slice (some ⟨gb, 0, none⟩) N N, .int .i64 (c : Int)] w (OnSP w c N n f) := by
 obtain ⟨l, hl⟩ : ∃ l, l = (List.range N).map f := ⟨_, rfl⟩
 have hll : l.length = 1024 * (n + 1) := by rw [hl, <- hN]; simp
 have hlb : ∀ x ∈ l, x < 256 := by
  rw [hl]
  intro x hx
  obtain ⟨j, _, rfl⟩ := List.mem_map.1 hx
  exact hB j
 have hs : Sl w (some ⟨gb, 0, none⟩) (l.map bv) := by
  refine row_sl (t := 5) ?_
  have e : (l.map bv).toArray = cfB N f := by
   rw [hl]
   apply Array.ext_getElem?
   intro i
   rw [List.getElem?_toArray, List.map_map, List.getElem?_map]
   by_cases hi : i < N
   ·rw [List.getElem?_range hi, cfB_get hi]
    rfl
   ·rw [List.getElem?_eq_none (by simp; omega), Array.getElem?_eq_none (by rw [cfB_size]; omega)]
    rfl
  rw [e]
  exact hr
 rw [<- hl] at hok
 have hgb := hr.lt
 have HO1 := Lib.hid (show Calls Tryz.prog 20 #[.slice (some ⟨gb, 0, none⟩) N N] w (MadeMem w (St.ofBytes (16 * (n + 1)) l)) from by
  have := pOf_yes (cap := N) (nl := 16 * (n + 1)) (by omega) hs hlb (by omega) (by omega)
  rw [show 64 * (16 * (n + 1)) = N by omega] at this
  exact this)
 have HO2 := Lib.hid (show ∀ W, Below w.heap.size w W -> Calls Tryz.prog 21 #[.slice (some ⟨gb, 0, none⟩) N N] W (OfPost W l n) from fun W hb => by
  have := slabOf_yes (cap := N) hll (hs.below hb) hlb (by omega) h2 (R.below hb)
  rw [<- hN] at this
  exact this)
 have HOK := Lib.hid hok
 have HLL := Lib.hid hl
 have HNN := Lib.hid hN
 unfold OnSP
 rw [<- hl]
 clear R hr hB hok hs hlb hl hll hgb hN
 go_enter Tryz.func7, Tryz.ntmps7
 go_wp2_with fail
 refine HO1.out.mono ?_
 rintro e w1 ⟨ym, rfl, hm1, hf1, hb1⟩
 have HM1 := Lib.hid hm1
 have HF1 := Lib.hid hf1
 have HB1 := Lib.hid hb1
 have HO3 := Lib.hid (HO2.out w1 hb1)
 obtain ⟨gm, hgm⟩ : ∃ gm, gm = ym.g := ⟨_, rfl⟩
 rw [<- hgm]
 have HGM := Lib.hid hgm
 clear hm1 hf1 hb1 HO1 HO2 hgm
 go_wp2_with fail
 refine HO3.out.mono ?_
 intro e w2 hp
 rcases hp with ⟨_, y, he, hs2, hf2, hb2⟩ | ⟨hno, _⟩
 case inr => exact absurd HOK.out hno
 subst he
 have HB2 := Lib.hid (Below.and HB1.out hb2)
 have HM2 := Lib.hid (HM1.out.below hb2)
 have HSM := Lib.hid hs2
 have HSF := Lib.hid (show ∀ k, y.fp k -> w.heap.size <= k /\ ¬ ym.fp k from fun k hk => ⟨by have := hf2 k hk; have := HB1.out.size; omega, fun hf => by have := hf2 k hk; have := HM1.out.lt _ hf; omega⟩)
 have HNW := Lib.hid (siNew_ok (N := c) (n := n) (p := some ⟨ym.g, 0, none⟩) (q := some ⟨y.gs, 0, none⟩) (w := w2) (by
  have h5 := size_is HM2.out
  have e5 : ((64 * (St.ofBytes (16 * (n + 1)) l).nl : Nat) : Int) = sizeN (n : Int) := by
   show ((64 * (16 * (n + 1)) : Nat) : Int) = _
   unfold sizeN
   rw [if_pos (by omega)]
   omega
  rw [e5] at h5
  exact h5) (slabs_is hs2 (hsK_len _ _ _ _)) (by unfold sizeN; rw [if_pos (by omega)]; omega) (by omega) hc hc2)
 rw [<- HGM.out] at HNW
 obtain ⟨gy, hgy⟩ : ∃ gy, gy = y.gs := ⟨_, rfl⟩
 unfold fpt
 rw [<- hgy] at HNW ⊢
 have HGY := Lib.hid hgy
 clear hs2 hf2 hb2 HO3 hgy HM1
 go_wp2_with fail
 refine HNW.out.mono ?_
 rintro e w3 ⟨gx, gt, b, rfl, hsx, hka, hgx, hgt, hgb, hb3⟩
 have HKA := Lib.hid (And.intro hka (And.intro hgt hgb))
 have HSX := Lib.hid hsx
 have HB3 := Lib.hid hb3
 have HGX := Lib.hid hgx
 clear hsx hka hgt hgb hb3 hgx HNW
 go_wp2_with fail
 go_ret
 have hm3 := HM2.out.below HB3.out
 refine ⟨gx, ym, y, gt, b, rfl, ?_, HSM.out.below HB3.out, HSF.out, HKA.out.1, by have := HKA.out.2.1; have := HB2.out.size; omega, by have := HKA.out.2.2; have := HB2.out.size; omega, fun hf => by have := HM2.out.lt _ hf; have := HKA.out.2.1; omega, fun hf => by have := HM2.out.lt _ hf; have := HKA.out.2.2; omega, ?_, HF1.out, ?_, ?_, Below.and HB2.out HB3.out⟩
 ·rw [<- HGM.out, <- HGY.out]
  exact HSX.out
 ·rw [show N / 64 = 16 * (n + 1) by have := HNN.out; omega]
  exact hm3
 ·have := HGX.out
  have := HB2.out.size
  omega
 ·intro hf
  have h6 := HM2.out.lt _ hf
  have := HGX.out
  omega
end Go.Proofs.YtkbklooocdfcfaaGreatDoor
namespace Go.Proofs.YtkbklooocdfcfaaGreatDoor
open Go.RowKit
attribute [local go_sem] Oper.semAt_some
theorem lay_none {w : World} {n per lag : Nat} (hp : per <= 8) (hp2 : 2 <= per) (hn1 : 1 <= n) (hn : n <= 16) (hlag : lag <= 20) (ht : bT n [] ≠ 0) (hw : WordsOk (bN n [])) :
  Calls Tryz.prog 6 #[.agg #[.int .i64 (n : Int), .slice none 0 0, .int .i64 (per : Int), .int .i64 (lag : Int)]] w (BuildP w n []) := by
 have mixed : Tryz.prog.follows .mixedOrders = true := by kernel_rfl
 obtain ⟨W1, hW1⟩ : ∃ W1, W1 = w.alloc (.cells #[.int .i64 (n : Int), .slice none 0 0, .int .i64 (per : Int), .int .i64 (lag : Int)] 40) := ⟨_, rfl⟩
 have r1 : Row W1 w.heap.size 40 #[.int .i64 (n : Int), .slice none 0 0, .int .i64 (per : Int), .int .i64 (lag : Int)] := by rw [hW1]; exact Row.new _ _ _
 have b1' : Below w.heap.size w W1 := by rw [hW1]; exact alloc_below _ _
 have k0 : W1.cell? ⟨w.heap.size, 0, none⟩ = some (.int .i64 (n : Int)) := r1.cell 0
 have k1 : W1.cell? ⟨w.heap.size, 1, none⟩ = some (.slice none 0 0) := r1.cell 1
 have k2 : W1.cell? ⟨w.heap.size, 2, none⟩ = some (.int .i64 (per : Int)) := r1.cell 2
 have k3 : W1.cell? ⟨w.heap.size, 3, none⟩ = some (.int .i64 (lag : Int)) := r1.cell 3
 have HRI := Lib.hid fun (W : World) => rising_none W 40
 have HBU := Lib.hid fun (W : World) => build_none (w := W) (n := n) (per := per) (lag := (lag : Int)) (by omega) hp hn ht hw
 have HB1 := Lib.hid b1'
 have HW1 := Lib.hid hW1
 have STAY := Lib.hid fun W' (hb : Below W1.heap.size W1 W') => And.intro ((hb.cell (p := ⟨w.heap.size, 0, none⟩) (W1.block_lt_of_cell? _ k0)).trans k0) (And.intro ((hb.cell (p := ⟨w.heap.size, 1, none⟩) (W1.block_lt_of_cell? _ k1)).trans k1) (And.intro ((hb.cell (p := ⟨w.heap.size, 2, none⟩) (W1.block_lt_of_cell? _ k2)).trans k2) (And.intro ((hb.cell (p := ⟨w.heap.size, 3, none⟩) (W1.block_lt_of_cell? _ k3)).trans k3) hb)))
 have EGR := Lib.hid (enters_of Tryz.func19 (by kernel_rfl) rfl)
 have EGB := Lib.hid (enters_of Tryz.func18 (by kernel_rfl) rfl)
 have d1 : ¬ (n : Int) < 1 := by omega
 have d2 : ¬ (16 : Int) < (n : Int) := by omega
 have d3 : ¬ (per : Int) < 2 := by omega
 have d4 : ¬ (8 : Int) < (per : Int) := by omega
 have d5 : ¬ (lag : Int) < 0 := by omega
 have d6 : ¬ (20 : Int) < (lag : Int) := by omega
 clear ht hw r1 b1' hW1
 go_enter Tryz.func6, Tryz.ntmps6
 go_upto_region 1 with (fail)
 rw [<- HW1.out]
 go_upto_region 3 with (fail)
 clear k0 k1 k2 k3 d1 d2 d3 d4 d5 d6
 refine wp_region_noPanic ?_
 refine wp_region_held_drew (S := fun W' => W'.cell? ⟨w.heap.size, 0, none⟩ = some (.int .i64 (n : Int)) /\ W'.cell? ⟨w.heap.size, 1, none⟩ = some (.slice none 0 0) /\ W'.cell? ⟨w.heap.size, 2, none⟩ = some (.int .i64 (per : Int)) /\ W'.cell? ⟨w.heap.size, 3, none⟩ = some (.int .i64 (lag : Int)) /\ Below W1.heap.size W1 W') (by kernel_rfl) (STAY.out _ (drew_below _)) (fun hHeld => ?_)
 refine tkH (i := 0) (oi := ⟨some 37, _, _, _, _, _⟩) (v := .pointer (some ⟨w.heap.size, 0, none⟩)) rfl (Or.inl ⟨by kernel_rfl, by intro WW hSw; (try dsimp only at hSw); go_simp⟩) (by assumption) ?_
 (try simp only [Act.put, q1, q2, q3])
 refine tkH (i := 1) (oi := ⟨some 38, _, _, _, _, _⟩) (v := .int .i64 (n : Int)) rfl (Or.inl ⟨by kernel_rfl, by intro WW hSw; (try dsimp only at hSw); go_simp⟩) (by assumption) ?_
 (try simp only [Act.put, q1, q2, q3])
 refine tkH (i := 2) (oi := ⟨some 39, _, _, _, _, _⟩) (v := .pointer (some ⟨w.heap.size, 1, none⟩)) rfl (Or.inl ⟨by kernel_rfl, by intro WW hSw; (try dsimp only at hSw); go_simp⟩) (by assumption) ?_
 (try simp only [Act.put, q1, q2, q3])
 refine tkH (i := 3) (oi := ⟨some 40, _, _, _, _, _⟩) (v := .slice none 0 0) rfl (Or.inl ⟨by kernel_rfl, by intro WW hSw; (try dsimp only at hSw); go_simp⟩) (by assumption) ?_
 (try simp only [Act.put, q1, q2, q3])
 refine tkH (i := 5) (oi := ⟨some 42, _, _, _, _, _⟩) (v := .pointer (some ⟨w.heap.size, 2, none⟩)) rfl (Or.inl ⟨by kernel_rfl, by intro WW hSw; (try dsimp only at hSw); go_simp⟩) (by assumption) ?_
 (try simp only [Act.put, q1, q2, q3])
 refine tkH (i := 6) (oi := ⟨some 43, _, _, _, _, _⟩) (v := .int .i64 (per : Int)) rfl (Or.inl ⟨by kernel_rfl, by intro WW hSw; (try dsimp only at hSw); go_simp⟩) (by assumption) ?_
 (try simp only [Act.put, q1, q2, q3])
 refine tkH (i := 7) (oi := ⟨some 44, _, _, _, _, _⟩) (v := .pointer (some ⟨w.heap.size, 3, none⟩)) rfl (Or.inl ⟨by kernel_rfl, by intro WW hSw; (try dsimp only at hSw); go_simp⟩) (by assumption) ?_
 (try simp only [Act.put, q1, q2, q3])
 refine tkH (i := 8) (oi := ⟨some 45, _, _, _, _, _⟩) (v := .int .i64 (lag : Int)) rfl (Or.inl ⟨by kernel_rfl, by intro WW hSw; (try dsimp only at hSw); go_simp⟩) (by assumption) ?_
 (try simp only [Act.put, q1, q2, q3])
 refine wpAnyH_one (i := 4) (oi := ⟨some 41, _, _, _, _, _⟩) rfl (by kernel_rfl) (fun K hK => ?_)
 refine step_calls (by rfl) 19 EGR.out [.tmp 40, .const (.int .i64 40)] _ rfl [.slice none 0 0, .int .i64 40] rfl (HRI.out _) ?_
 rintro e w2 ⟨rfl, hb2⟩
 have L2 : Below W1.heap.size W1 w2 := Below.and (drew_below _) hb2
 have HBW := Lib.hid (HBU.out w2)
 have HB2 := Lib.hid (Below.and HB1.out L2)
 refine ⟨_, rfl, hK _ _ (STAY.out _ L2) (fun hSn => ?_)⟩
 clear hK K
 (try simp only [Act.put, q1, q2, q3])
 refine wpAnyH_one (i := 9) (oi := ⟨some 46, _, _, _, _, _⟩) rfl (by kernel_rfl) (fun K hK => ?_)
 refine step_calls (by rfl) 18 EGB.out [.tmp 38, .tmp 41, .tmp 43, .tmp 45] _ rfl [.int .i64 (n : Int), .slice none 0 0, .int .i64 (per : Int), .int .i64 (lag : Int)] rfl HBW.out ?_
 rintro e w3 hP
 obtain ⟨g, gb, he, hrest⟩ := hP
 have hlow := hrest.2.2.1
 have HP := Lib.hid (show BuildP w n [] e w3 from BuildP.up ⟨g, gb, he, hrest⟩ HB2.out)
 subst he
 refine ⟨_, rfl, hK _ _ (STAY.out _ (Below.and L2 hlow)) (fun hSn2 => ?_)⟩
 clear hK K hrest
 (try simp only [Act.put, q1, q2, q3])
 refine tkH (i := 10) (oi := ⟨some 2, _, _, _, _, _⟩) (v := .pointer (some ⟨g, 0, none⟩)) rfl (Or.inl ⟨by kernel_rfl, by intro WW hSw; (try dsimp only at hSw); go_simp⟩) (by assumption) ?_
 (try simp only [Act.put, q1, q2, q3])
 refine wpAnyH_done (by kernel_rfl) ?_ _
 go_wp2_with fail
 refine (‹∀ (a : Act) (w : World), Code.wp Tryz.prog Code.ret _ a w -> _›) _ _ ?_
 go_wp2_with fail
 go_ret
 exact HP.out
end Go.Proofs.YtkbklooocdfcfaaGreatDoor
namespace Go.Proofs.YtkbklooocdfcfaaGreatDoor
open Go.RowKit
def C0N : Nd := leaf0 1088
theorem c0T : bT 2 [] = 1088 := by decide +kernel
theorem c0N : bN 2 [] = C0N := by
 show mkN (leaf0 (bT 2 [] : Int)) [] 0 = C0N
 rw [c0T]
 rfl
theorem c0Wok : WordsOk C0N := by
 unfold WordsOk
 decide
def C0F : Nat -> Nat := putF (layF (b1 2).newNode.2.f 1088 C0N) 16 1088
theorem c0Zf : (bZ 2 []).f = C0F := by
 unfold bZ
 rw [c0T, c0N]
 rfl
theorem c0Zn : (bZ 2 []).n = 2 := by decide +kernel
theorem c0H : wrdF C0F 1024 = 3 /\ wrdF C0F 1032 = 1 /\ wrdF C0F 2048 = 0 /\ wrdF C0F 2056 = 0 := by decide +kernel
theorem c0_byt : BytF C0F := by
 have h3 := (Ar.newNode_ok (b1_ok (n := 2) (by decide))).1.byt
 exact ((layK_byt h3 1088 C0N 24).put 16 1088)
theorem c0Ok : okHeads ((List.range 3072).map C0F) 2 := by
 intro q hq
 have hl : ((List.range 3072).map C0F).length = 3072 := by simp
 unfold hcW hbW
 rw [hl, pw_range C0F (by omega), pw_range C0F (by omega)]
 obtain ⟨h1, h2, h3, h4⟩ := c0H
 rcases (by omega : q = 0 \/ q = 1) with rfl | rfl
 ·rw [show 8 * (128 * (0 + 1)) = 1024 from rfl, show 8 * (128 * (0 + 1) + 1) = 1032 from rfl, h1, h2]
  decide +kernel
 ·rw [show 8 * (128 * (1 + 1)) = 2048 from rfl, show 8 * (128 * (1 + 1) + 1) = 2056 from rfl, h3, h4]
  decide +kernel
end Go.Proofs.YtkbklooocdfcfaaGreatDoor
