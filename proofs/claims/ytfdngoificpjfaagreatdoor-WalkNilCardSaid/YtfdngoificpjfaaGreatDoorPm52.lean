/- Texts of this claim, packed: WkK, WkNl. -/
import Derived.Test.YtfdngoificpjfaaGreatDoorPm36
import Derived.Test.YtfdngoificpjfaaGreatDoorPm51
import Derived.Test.YtfdngoificpjfaaGreatDoorPm27
/- The chapter's rows, of the law: two walks over a root that is a leaf; conditions: geo.rooms is as laid. -/
namespace Go.Proofs.YtfdngoificpjfaaGreatDoor
open Go.RowKit
set_option linter.unusedVariables false
/-- The chapter's memory. -/
def C14S : St := St.ofBytes (3072 / 64) ((List.range 3072).map C14F)
theorem c14_byt : BytF C14F := by
  have h := (b1_ok (n := 2) (by decide))
  have h2 := (bK_ok h [5, 9] 2).1
  have h3 := (Ar.newNode_ok h2).1.byt
  have e : bK (b1 2) [5, 9] 2 = C14A := c14A
  rw [e] at h3
  exact ((layK_byt h3 2112 C14N 24).put 16 2112)
theorem c14_view {j : Nat} (h : j < 384) : C14S.view.getD j 0 = wrdF C14F (8 * j) := by
  show (wordsK _ 3072 384).getD j 0 = _
  rw [List.getD_eq_getElem?_getD, wordsK_get h, pw_range C14F (by omega)]
  rfl
theorem c14_V {A : Nat} (h : A % 8 = 0) (h2 : A < 3072) : ldV C14S A = (wrdF C14F A : Int) ∧ ldK C14S A = 0 := by
  have hc : A % 8 = 0 ∧ A < 64 * C14S.nl := ⟨h, h2⟩
  unfold ldV ldK
  rw [if_pos hc, if_pos hc, c14_view (by omega), show 8 * (A / 8) = A by omega]
  exact ⟨rfl, rfl⟩
theorem c14Ok : okHeads ((List.range 3072).map C14F) 2 := by
  intro q hq
  have hl : ((List.range 3072).map C14F).length = 3072 := by simp
  unfold hcW hbW
  rw [hl, pw_range C14F (by omega), pw_range C14F (by omega)]
  obtain ⟨h1, h2, h3, h4⟩ := c14H
  rcases (by omega : q = 0 ∨ q = 1) with rfl | rfl
  · rw [show 8 * (128 * (0 + 1)) = 1024 from rfl, show 8 * (128 * (0 + 1) + 1) = 1032 from rfl, h1, h2]
    decide +kernel
  · rw [show 8 * (128 * (1 + 1)) = 2048 from rfl, show 8 * (128 * (1 + 1) + 1) = 2056 from rfl, h3, h4]
    decide +kernel
theorem c14_Lds : Lds C14S.nl 0 C14S := by
  refine ⟨rfl, ofBytes_Ok fun x hx => ?_, by show (List.replicate (3072 / 64) ([] : List (Nat × Nat))).length = 3072 / 64; exact List.length_replicate, fun j => ?_, by show (wordsK _ _ _).length = _; rw [wordsK_len]; rfl, Nat.le_refl _, Nat.le_refl _, Nat.le_refl _, Nat.le_refl _⟩
  · obtain ⟨j, _, rfl⟩ := List.mem_map.1 hx
    exact c14_byt j
  · show ((List.replicate 48 ([] : List (Nat × Nat))).getD j []).length ≤ 0
    rw [List.getD_eq_getElem?_getD, List.getElem?_replicate]
    split <;> simp
/-- What a snapshot of the chapter's leaf comes to. -/
theorem c14Snap : ∃ T S', 1 ≤ T ∧ T ≤ 60 ∧ Goes (ldV C14S) (ldK C14S) (SS.new 2112) T S' ∧ S'.d = true ∧ S'.k = 0 ∧ S'.n = C14N := by
  have hw : ∀ i, i < 24 → ldV C14S (wordAt 2112 i) = wAt (wi C14N) i ∧ ldK C14S (wordAt 2112 i) = 0 := fun i hi => by
    have e : wordAt 2112 i = 2112 + 8 * i := by unfold wordAt; rw [if_pos (by omega)]
    rw [e, ← c14Wrd i hi]
    exact c14_V (by omega) (by omega)
  have hw2 : wAt (wi C14N) 2 = 0 := rfl
  obtain ⟨T, S', t1, t2, hG, hd, hr⟩ := sn_alone (V := ldV C14S) (K := ldK C14S) (ldK_is _) 2112
  refine ⟨T, S', t1, t2, hG, hd, ?_⟩
  rcases hr with ⟨_, _, hb⟩ | ⟨e1, e2, e3, _⟩
  · exfalso
    rcases hb with ⟨k, hk, e⟩ | ⟨e, _⟩
    · rw [(hw k hk).2] at e
      cases e
    · rw [(hw 2 (by omega)).1, hw2] at e
      exact e rfl
  · have hR := ofR_full (x := wi C14N) (W := fun i => ldV C14S (wordAt 2112 i)) (fun i hi => (hw i hi).1)
    have hv : isLv C14N = true := by decide
    rw [(wi_of C14N).2, if_pos hv] at hR
    rw [hR] at e1 e2
    exact ⟨e1, e2⟩
theorem c14Wk {w1 : World} {y1 : Lay} {gw n0 : Nat} {s : St} {lev : Int} {T : Nat} {S' : SS} (hf : ∀ k, y1.fp k → k < w1.heap.size) (hv : s.view = C14S.view ∧ s.nl = C14S.nl) (h0 : 0 ≤ lev) (h1 : lev ≤ 15) (t1 : 1 ≤ T) (hG : Goes (ldV C14S) (ldK C14S) (SS.new 2112) T S') (hd : S'.d = true) (hk : S'.k = 0) (hn : S'.n = C14N) (hnum : n0 + T ≤ 900000) :
    WkOk w1 y1 gw n0 s lev 2112 T C14N S' := by
  have e1 : ldV s = ldV C14S := by funext A; unfold ldV; rw [hv.1, hv.2]
  have e2 : ldK s = ldK C14S := by funext A; unfold ldK; rw [hv.2]
  refine ⟨hf, by rw [hv.2]; decide, h0, h1, ?_, ?_, by decide, fun A => ?_, by rw [e1, e2]; exact hG, hd, hk, hn, rfl, h0, t1, hnum⟩
  · rw [e1, (c14_V (A := 16) (by decide) (by decide)).1, c14Root]
  · rw [e2]; exact (c14_V (A := 16) (by decide) (by decide)).2
  · rw [e1]; exact ldV_in c14_Lds.ok A
/-- What a caller has of an arena's one leaf. -/
structure AL (w : World) (g gl gr cl cr : Nat) (T : Int) (n : Nd) : Prop where
  lv : w.cell? ⟨g, 7, none⟩ = some (.slice (some ⟨gl, 0, none⟩) 1 cl)
  rw_ : w.cell? ⟨gl, 0, none⟩ = some (.slice (some ⟨gr, 0, none⟩) 1 cr)
  at_ : ∀ j u, (atV T n)[j]? = some u → w.cell? ⟨gr, j, none⟩ = some u
theorem AL.but {w w' : World} {g gl gr cl cr : Nat} {T : Int} {n : Nd} {fp : Nat → Prop} (h : AL w g gl gr cl cr T n) (hb : But w w' fp) (h1 : ¬ fp g) (h2 : ¬ fp gl) (h3 : ¬ fp gr) : AL w' g gl gr cl cr T n :=
  ⟨hb.cell h.lv h1, hb.cell h.rw_ h2, fun j u hu => hb.cell (h.at_ j u hu) h3⟩
theorem AL.low {w w' : World} {g gl gr cl cr : Nat} {T : Int} {n : Nd} (h : AL w g gl gr cl cr T n) (hb : Below w.heap.size w w') : AL w' g gl gr cl cr T n :=
  h.but (But.of_below hb fun _ => False) (fun e => e) (fun e => e) (fun e => e)
theorem AL.rng {w : World} {g gl gr cl cr : Nat} {T : Int} {n : Nd} (h : AL w g gl gr cl cr T n) : w.rangeAt gr 1 n.cl := fun j v hv => h.at_ (1 + j) v (by rw [Nat.add_comm]; exact hv)
set_option maxRecDepth 100000 in
set_option maxHeartbeats 3200000 in
theorem known14_any {w : World} (R : Rms w) : Calls Tryz.prog 8 #[] w fun e w' => e = .returned (.bool true) ∧ Below w.heap.size w w' := by
  have mixed : Tryz.prog.follows .mixedOrders = true := by kernel_rfl
  obtain ⟨T, S', t1, t2, hG, hd, hk, hn⟩ := c14Snap
  have HSN := Lib.hid (And.intro hG (And.intro hd (And.intro hk hn)))
  have HR := Lib.hid R
  obtain ⟨W1, hW1⟩ : ∃ W1, W1 = w.alloc (.cells #[.int .u64 5, .int .u64 9] 25) := ⟨_, rfl⟩
  have hb1 : Below w.heap.size w W1 := by rw [hW1]; exact alloc_below _ _
  have hr1 : Row W1 w.heap.size 25 #[.int .u64 5, .int .u64 9] := by rw [hW1]; exact Row.new _ _ _
  have HB1 := Lib.hid hb1
  have HLAY := Lib.hid (show Calls Tryz.prog 7 #[.agg #[.int .i64 2, .slice (some ⟨w.heap.size, 0, none⟩) 2 2, .int .i64 4, .int .i64 0]] W1 (BuildP W1 2 [5, 9]) from
    lay_few (n := 2) (per := 4) (lag := 0) (m := 2) (ks := [5, 9]) (cap := 2) rfl (fun k hk => by
      rcases (by omega : k = 0 ∨ k = 1) with rfl | rfl
      · exact hr1.cell 0
      · exact hr1.cell 1) (fun k => by
      rcases k with _ | _ | k
      · decide
      · decide
      · show (0 : Nat) < _; decide) (fun a b h1 h2 => by
      obtain rfl : a = 0 := by omega
      obtain rfl : b = 1 := by omega
      decide) (by decide) (by decide) (by decide) (by decide) (by decide) (by decide) (by decide) c14Room (by rw [c14T]; decide) (by rw [c14N]; exact c14Wok))
  have HW1 := Lib.hid hW1
  clear hG hd hk hn R hW1 hb1 hr1
  go_enter Tryz.func8, Tryz.ntmps8
  go_wp2_with fail
  rw [← HW1.out]
  refine HLAY.out.mono ?_
  rintro e w2 ⟨g, gb, rfl, hg, hgb, hb2, gl, cl, gr, cr, hA, hl, hc, hgl, hgr⟩
  have HAL := Lib.hid (show AL w2 g gl gr cl cr 2112 C14N from ⟨hA.row.cell 7, hl, fun j u hu => hc j u (by rw [c14T, c14N]; exact hu)⟩)
  have hNz : (bZ 2 [5, 9]).N = 3072 := by unfold Ar.N; rw [c14Zn]
  have hrow0 := hA.row.cell 0
  have hbyt := hA.byt
  rw [hNz] at hrow0 hbyt
  rw [c14Zf] at hbyt
  have c0 : w2.cell? ⟨g, 0, none⟩ = some (.slice (some ⟨gb, 0, none⟩) 3072 3072) := hrow0
  have HON := Lib.hid (show Calls Tryz.prog 9 #[.slice (some ⟨gb, 0, none⟩) 3072 3072, .int .i64 1] w2 (OnP w2 3072 C14F) from
    on_yes (N := 3072) (n := 2) (c := 1) rfl (HR.out.below (Below.and HB1.out hb2)) hbyt c14_byt (by decide) (by decide) (by decide) (by decide) c14Ok)
  have HB2 := Lib.hid (Below.and HB1.out hb2)
  have HGE := Lib.hid (show g < w2.heap.size ∧ gl < w2.heap.size ∧ gr < w2.heap.size from ⟨hA.row.lt, w2.block_lt_of_cell? _ hl, w2.block_lt_of_cell? _ (hc 0 _ rfl)⟩)
  clear hA hl hc hgl hgr hg hgb hb2 hNz hrow0 hbyt HR HLAY
  go_wp2_with fail
  refine HON.out.mono ?_
  rintro e w3 ⟨gx, ym, q, t, rfl, hsite, hm, hf, hgx, hnx, hb3⟩
  have HSITE := Lib.hid hsite
  have HM3 := Lib.hid (show MemAt w3 ym C14S from hm)
  have HF3 := Lib.hid hf
  have HNX := Lib.hid (And.intro hnx hsite.lt)
  have HB3 := Lib.hid hb3
  have HNW := Lib.hid (show ∀ (W : World) (lev : Int), Below w3.heap.size w3 W → Calls Tryz.prog 10 #[.pointer (some ⟨gx, 0, none⟩), .int .i64 0, .int .u64 7, .int .i64 lev] W _ from fun W lev hb => wkNew_any (cl := 0) (key := 7) (lev := lev) (siMem_yes (Row.below hsite hb hsite.lt)))
  have HN1 := Lib.hid (HNW.out w3 0 (Below.refl _ _))
  clear hsite hm hf hgx hnx hb3 HON c0
  go_wp2_with fail
  refine HN1.out.mono ?_
  rintro e w4 ⟨rfl, hk4, hb4⟩
  have HK4 := Lib.hid hk4
  have HB4 := Lib.hid hb4
  have HN2 := Lib.hid (HNW.out w4 1 hb4)
  obtain ⟨g1, hg1⟩ : ∃ g1, g1 = w3.heap.size := ⟨_, rfl⟩
  rw [← hg1] at HK4 ⊢
  have HG1 := Lib.hid hg1
  clear hk4 hb4 HN1 HNW hg1
  go_wp2_with fail
  refine HN2.out.mono ?_
  rintro e w5 ⟨rfl, hk5, hb5⟩
  obtain ⟨g2, hg2⟩ : ∃ g2, g2 = w4.heap.size := ⟨_, rfl⟩
  rw [← hg2] at hk5 ⊢
  have HG2 := Lib.hid hg2
  have hm5 : MemAt w5 ym C14S := (HM3.out.below HB4.out).below hb5
  have hlt3 := HM3.out.lt
  have hsz4 := HB4.out.size
  have hsz5 := hb5.size
  have hk15 : WkAt w5 g1 (F0 ym g1 0 7 0) := HK4.out.below hb5
  have hg1n : ¬ ym.fp g1 := fun hf => by have := hlt3 g1 hf; rw [HG1.out] at this; omega
  have hg2n : ¬ ym.fp g2 := fun hf => by have := hlt3 g2 hf; rw [hg2] at this; omega
  have hg12 : g2 ≠ g1 := by have := HK4.out.lt; omega
  have O1 := c14Wk (w1 := w5) (y1 := ym) (gw := g1) (n0 := 0) (s := C14S) (lev := 0) (T := T) (S' := S') (fun k hk => by have := hm5.lt k hk; exact this) ⟨rfl, rfl⟩ (by decide) (by decide) t1 HSN.out.1 HSN.out.2.1 HSN.out.2.2.1 HSN.out.2.2.2 (by omega)
  have J1 : JW w5 ym g1 0 C14S 0 7 0 2112 T C14N 0 w5 := .inl ⟨rfl, ⟨ym, hm5, rfl, fun k hk => .inl hk, hg1n⟩, hk15, c14_Lds, But.refl _ _⟩
  have hsite5 : SiteAt w5 gx (some ⟨ym.g, 0, none⟩) q t := Row.below (Row.below HSITE.out HB4.out HSITE.out.lt) hb5 (by have := HNX.out.2; omega)
  have HD1 := Lib.hid (show Calls Tryz.prog 11 #[.pointer (some ⟨gx, 0, none⟩), .pointer (some ⟨g1, 0, none⟩), .int .i64 200] w5 _ from l14done_jw (most := 200) O1 (siMem_yes hsite5) J1 (by omega) (by omega))
  have HK25 := Lib.hid (show WkAt w5 g2 (F0 ym g2 0 7 1) from hk5)
  have HS5 := Lib.hid hsite5
  have HN12 := Lib.hid (And.intro hg1n (And.intro hg2n hg12))
  have HAL5 := Lib.hid (((HAL.out.low HB3.out).low HB4.out).low hb5)
  have HB5 := Lib.hid (Below.and (Below.and HB3.out HB4.out) hb5)
  have HG15 := Lib.hid (show g1 < w5.heap.size ∧ g2 < w5.heap.size ∧ gx < w3.heap.size ∧ w3.heap.size ≤ w5.heap.size from ⟨hk15.lt, hk5.lt, HNX.out.2, by omega⟩)
  clear hk5 hb5 hm5 hlt3 hsz4 hsz5 hk15 hg1n hg2n hg12 O1 J1 hsite5 HN2 hg2
  go_wp2_with fail
  refine HD1.out.mono ?_
  rintro e w6 ⟨rfl, hj6⟩
  rcases hj6 with ⟨h0, _⟩ | ⟨_, h0, _⟩ | ⟨_, gs1, hj6⟩
  · omega
  · omega
  obtain ⟨y6, hm6, hg6, hf6, hs6⟩ := hj6.ex
  have hbut6 := hj6.but
  have hf3 := HF3.out
  have hn2 : ¬ (ym.fp g2 ∨ g2 = g1) := fun e => e.elim HN12.out.2.1 HN12.out.2.2
  have hk26 : WkAt w6 g2 (F0 y6 g2 0 7 1) := by
    have := HK25.out.but hbut6 hn2
    unfold F0 at this ⊢
    rw [hg6]
    exact this
  have hnx : ¬ (ym.fp gx ∨ gx = g1) := fun e => e.elim HNX.out.1 (fun e2 => by have := HG1.out; have := HNX.out.2; omega)
  have hsite6 : SiteAt w6 gx (some ⟨y6.g, 0, none⟩) q t := by rw [hg6]; exact hbut6.row HS5.out hnx
  have hlow : ∀ k, k < w2.heap.size → ¬ (ym.fp k ∨ k = g1) := fun k hk e => e.elim (fun h => by have := hf3 k h; omega) (fun h => by have := HG1.out; have := HB3.out.size; omega)
  have HAL6 := Lib.hid (HAL5.out.but hbut6 (hlow _ HGE.out.1) (hlow _ HGE.out.2.1) (hlow _ HGE.out.2.2))
  have hg2n : ¬ y6.fp g2 := fun h => (hf6 g2 h).elim HN12.out.2.1 (fun h2 => by have := HG15.out.2.1; omega)
  have O2 := c14Wk (w1 := w6) (y1 := y6) (gw := g2) (n0 := 0 + (T + 1)) (s := sN C14S 2112 (T + 1)) (lev := 1) (T := T) (S' := S') (fun k hk => hm6.lt k hk) (sN_vw C14S 2112 (T + 1)) (by decide) (by decide) t1 HSN.out.1 HSN.out.2.1 HSN.out.2.2.1 HSN.out.2.2.2 (by omega)
  have J2 : JW w6 y6 g2 (0 + (T + 1)) (sN C14S 2112 (T + 1)) 0 7 1 2112 T C14N 0 w6 := .inl ⟨rfl, ⟨y6, hm6, rfl, fun k hk => .inl hk, hg2n⟩, hk26, hj6.lds, But.refl _ _⟩
  have HD2 := Lib.hid (show Calls Tryz.prog 11 #[.pointer (some ⟨gx, 0, none⟩), .pointer (some ⟨g2, 0, none⟩), .int .i64 200] w6 _ from l14done_jw (most := 200) O2 (siMem_yes hsite6) J2 (by omega) (by omega))
  have HK16 := Lib.hid hj6.wk
  have HSEP := Lib.hid (And.intro hs6 (show ¬ (y6.fp g1 ∨ g1 = g2) from fun e => e.elim hs6 (fun e2 => HN12.out.2.2 e2.symm)))
  have HLOW6 := Lib.hid (show ∀ k, k < w2.heap.size → ¬ (y6.fp k ∨ k = g2) from fun k hk e => e.elim (fun h => (hf6 k h).elim (fun h2 => by have := hf3 k h2; omega) (fun h2 => by have := HG15.out.2.2.2; have := HB3.out.size; omega)) (fun h => by have := HG2.out; have := HB3.out.size; have := HB4.out.size; omega))
  have HFP6 := Lib.hid (show ∀ k, y6.fp k → w2.heap.size ≤ k from fun k h => (hf6 k h).elim (fun h2 => hf3 k h2) (fun h2 => by have := HG15.out.2.2.2; have := HB3.out.size; omega))
  have HBUT6 := Lib.hid hbut6
  clear hj6 hm6 hg6 hf6 hs6 hbut6 hf3 hn2 hk26 hnx hsite6 hlow hg2n O2 J2 HD1 HS5 HK25
  go_wp2_with fail
  refine HD2.out.mono ?_
  rintro e w7 ⟨rfl, hj7⟩
  rcases hj7 with ⟨h0, _⟩ | ⟨_, h0, _⟩ | ⟨_, gs2, hj7⟩
  · omega
  · omega
  have HK17 := Lib.hid (HK16.out.but hj7.but HSEP.out.2)
  have HK27 := Lib.hid hj7.wk
  have HAL7 := Lib.hid (HAL6.out.but hj7.but (HLOW6.out _ HGE.out.1) (HLOW6.out _ HGE.out.2.1) (HLOW6.out _ HGE.out.2.2))
  have HA1 := Lib.hid (show ∀ W, Below w7.heap.size w7 W → Calls Tryz.prog 16 #[.pointer (some ⟨g1, 0, none⟩)] W (fun e w' => e = .returned (.tuple #[.int .u64 2112, C14N.V, .int .i64 0]) ∧ Below W.heap.size W w') from fun W hb => wkAt_of (at_ := 2112) (n := C14N) (hi := 0) (has := false) (k := 0) fun W2 hb2 => told_done (HK17.out.below (hb.trans (hb2.mono hb.size))) rfl rfl (.inl rfl))
  have HA2 := Lib.hid (show ∀ W, Below w7.heap.size w7 W → Calls Tryz.prog 16 #[.pointer (some ⟨g2, 0, none⟩)] W (fun e w' => e = .returned (.tuple #[.int .u64 2112, C14N.V, .int .i64 5]) ∧ Below W.heap.size W w') from fun W hb => wkAt_of (at_ := 2112) (n := C14N) (hi := 0) (has := false) (k := 5) fun W2 hb2 => told_done (HK27.out.below (hb.trans (hb2.mono hb.size))) rfl rfl (.inr rfl))
  have HLOW7 := Lib.hid (show Below w.heap.size w w7 from by
    have h1 := HB2.out.size
    have h2 := HG15.out
    have h3 := HB3.out.size
    have h4 : Below w.heap.size w w5 := Below.and HB2.out HB5.out
    have h5 : Below w.heap.size w5 w6 := HBUT6.out.below h4.size fun k hk => hk.elim (fun h => by have := HF3.out k h; omega) (fun h => by have := HG1.out; omega)
    have h6 : Below w.heap.size w6 w7 := hj7.but.below (h4.trans h5).size fun k hk => hk.elim (fun h => by have := HFP6.out k h; omega) (fun h => by have := HG2.out; have := HB4.out.size; omega)
    exact (h4.trans h5).trans h6)
  obtain ⟨kn, hkn⟩ : ∃ kn, kn = C14N := ⟨_, rfl⟩
  rw [← hkn] at HA1 HA2 HAL7
  have hq := fun W' => eqNd kn W'
  clear hj7 HK17 HK27 HK16 HAL6 HAL5 HAL HD2 hkn
  have HA1w := Lib.hid (HA1.out w7 (Below.refl _ _))
  go_wp2_with fail
  refine HA1w.out.mono ?_
  rintro e w8 ⟨rfl, hb8⟩
  have HB8 := Lib.hid hb8
  clear hb8 HA1w HA1
  go_upto_region 11 with (first
    | ((with_reducible refine show_storeN ?_); refine wpList_store_row rfl _ _ _ rfl w8.heap.size kn.cl rfl rfl (Row.new w8 46 zeroNd.cl.toArray) rfl ndI (cl_one _) ?_))
  obtain ⟨W9, hW9, hn9, hb9⟩ := store_nd w8 kn
  rw [← hW9]
  have HB9 := Lib.hid (Below.and HB8.out hb9)
  have HN9 := Lib.hid hn9
  obtain ⟨ga, hga⟩ : ∃ ga, ga = w8.heap.size := ⟨_, rfl⟩
  rw [← hga] at HN9 ⊢
  have HA2w := Lib.hid (HA2.out W9 HB9.out)
  clear hW9 hn9 hb9 HA2 hga
  go_wp2_with fail
  refine HA2w.out.mono ?_
  rintro e w10 ⟨rfl, hb10⟩
  have HB10 := Lib.hid (Below.and HB9.out hb10)
  have HN10 := Lib.hid (HN9.out.below hb10 HN9.out.lt)
  clear hb10 HA2w
  go_upto_region 12 with (first
    | ((with_reducible refine show_storeN ?_); refine wpList_store_row rfl _ _ _ rfl w10.heap.size kn.cl rfl rfl (Row.new w10 46 zeroNd.cl.toArray) rfl ndI (cl_one _) ?_))
  obtain ⟨W11, hW11, hn11, hb11⟩ := store_nd w10 kn
  rw [← hW11]
  have HB11 := Lib.hid (Below.and HB10.out hb11)
  have HN11 := Lib.hid (HN10.out.below hb11 HN10.out.lt)
  have HAL11 := Lib.hid (HAL7.out.low HB11.out)
  have x7 := fun p : LowBy W11 => LowBy.cell HAL11.out.lv p
  have x0 := fun p : LowBy W11 => LowBy.cell HAL11.out.rw_ p
  have xr := fun p : LowBy W11 => LowBy.cell (HAL11.out.at_ 0 (.int .u64 2112) rfl) p
  have HR1 := Lib.hid (show ∀ W, (∃ p : LowBy W11, W = p.W) → W.rangeAt ga 0 kn.cl from fun W hW => by
    obtain ⟨p, rfl⟩ := hW
    exact ndR (HN11.out.below p.low HN11.out.lt))
  have HR2 := Lib.hid (show ∀ W, (∃ p : LowBy W11, W = p.W) → W.rangeAt gr 1 kn.cl from fun W hW => by
    obtain ⟨p, rfl⟩ := hW
    exact (HAL11.out.low p.low).rng)
  clear hW11 hn11 hb11
  refine wp_region_quiet_low (by assumption) (by kernel_rfl) ?_
  repeat (first | go_big_quiet_skip | (go_big_quiet_want; first | (refine quiet_load_mid 46 _ rfl ga 0 rfl kn.cl _ HR1.out Tryz.underlying46 rfl ndI ?_; simp only [Act.put, List.setIfInBounds_toArray, List.set_cons_succ, List.set_cons_zero]; go_big_quiet_on) | (refine quiet_load_mid 46 _ rfl gr 1 rfl kn.cl _ HR2.out Tryz.underlying46 rfl ndI ?_; simp only [Act.put, List.setIfInBounds_toArray, List.set_cons_succ, List.set_cons_zero]; go_big_quiet_on) | (go_big_quiet_op; go_big_quiet_on)))
  refine wpQuiet_nil ?_
  intro _ hw'
  obtain ⟨p, hw''⟩ := hw'
  subst hw''
  have HP := Lib.hid p.low
  clear x7 x0 xr
  go_wp2_with fail
  go_ret
  exact ⟨rfl, HLOW7.out.trans ((HB11.out.trans (HP.out.mono HB11.out.size)).mono HLOW7.out.size)⟩
end Go.Proofs.YtfdngoificpjfaaGreatDoor
/- WalkNil, walked: what is answered of no walk, of a zero one, of no site; conditions: geo.rooms is as laid. -/
namespace Go.Proofs.YtfdngoificpjfaaGreatDoor
open Go.RowKit
set_option linter.unusedVariables false
/-- A zero walk. -/
def WZ : WF := ⟨none, 0, 0, 0, .nilFunc, .nilIface, .nilFunc, .pointer none, 0, zeroNd, 0, false, 0, 0, false, 0, false, 0⟩
set_option maxRecDepth 100000 in
set_option maxHeartbeats 3200000 in
theorem walkNil_any (w : World) (R : Rms w) : Calls Tryz.prog 6 #[] w fun e w' => e = .returned (.bool true) ∧ Below w.heap.size w w' := by
  have mixed : Tryz.prog.follows .mixedOrders = true := by kernel_rfl
  have HK := Lib.hid fun (W : World) (hb : Below w.heap.size w W) => known14_any (R.below hb)
  obtain ⟨W1, hW1⟩ : ∃ W1, W1 = w.alloc (.cells WZ.cells.toArray 78) := ⟨_, rfl⟩
  have HB1 := Lib.hid (show Below w.heap.size w W1 by rw [hW1]; exact alloc_below _ _)
  have HZ1 := Lib.hid (show WkAt W1 w.heap.size WZ from by rw [hW1]; exact Row.new _ _ _)
  have HW1 := Lib.hid hW1
  clear R hW1
  go_enter Tryz.func6, Tryz.ntmps6
  go_upto_region 3 with (fail)
  have HWW := HW1.out
  unfold WZ WF.cells zeroNd Nd.cl uw at HWW
  simp only [List.cons_append, List.nil_append] at HWW
  rw [← HWW]
  clear HWW
  obtain ⟨gz, hgz⟩ : ∃ gz, gz = w.heap.size := ⟨_, rfl⟩
  rw [← hgz] at HZ1 ⊢
  clear hgz HW1
  go_wp2_with fail
  refine (wkStep_nil _).mono ?_
  rintro e w' ⟨rfl, rfl⟩
  go_wp2_with fail
  refine (wkStep_zero HZ1.out rfl).mono ?_
  rintro e w' ⟨rfl, rfl⟩
  go_wp2_with fail
  refine (wkAt_of (w := W1) (x := none) (at_ := 0) (n := zeroNd) (hi := 0) (has := false) (k := 1) fun W _ => told_nil W).mono ?_
  rintro e w2 ⟨rfl, hb2⟩
  have HB2 := Lib.hid hb2
  clear hb2
  go_upto_region 6 with (first
    | ((with_reducible refine show_storeN ?_); refine wpList_store_row rfl _ _ _ rfl w2.heap.size zeroNd.cl rfl rfl (Row.new w2 46 zeroNd.cl.toArray) rfl ndI (cl_one _) ?_))
  obtain ⟨W3, hW3, hn3, hb3⟩ := store_nd w2 zeroNd
  rw [← hW3]
  have HB3 := Lib.hid (Below.and HB2.out hb3)
  have HZ3 := Lib.hid (HZ1.out.below HB3.out)
  clear hW3 hn3 hb3
  go_wp2_with fail
  refine (wkHigh_of (w := W3) (at_ := 0) (n := zeroNd) (hi := 0) (has := false) (k := 1) (told_zero HZ3.out rfl)).mono ?_
  rintro e w4 ⟨rfl, hb4⟩
  have HB4 := Lib.hid (Below.and HB3.out hb4)
  clear hb4
  go_wp2_with fail
  refine (wkHop_nil _).mono ?_
  rintro e w' ⟨rfl, rfl⟩
  have HN := Lib.hid (wkNew_any (w := w4) (x := none) (m := none) (cl := 0) (key := 1) (lev := 0) (siMem_nil w4))
  go_wp2_with fail
  refine HN.out.mono ?_
  rintro e w5 ⟨rfl, hk5, hb5⟩
  have hz : SizeIs w5 none 0 := fun W hb => size_no (.inl rfl)
  obtain ⟨go, hgo⟩ : ∃ go, go = w4.heap.size := ⟨_, rfl⟩
  rw [← hgo] at hk5 ⊢
  have HS := Lib.hid (wkStep_of (g := go) (f := 26) (s := WF.new none 0 1 0 go) (d' := false) (D := true) (kk := 1) (R := fun w' s' => s' = WF.new none 0 1 0 go ∧ w5 = w') callB hk5 rfl rfl rfl ((wkBegin_wrong hk5 hz (show wrongK 0 0 ≠ 0 by decide)).mono (by
    rintro e w' ⟨rfl, rfl⟩
    exact ⟨rfl, _, hk5, rfl, rfl, rfl⟩)))
  have HB5 := Lib.hid (Below.and HB4.out hb5)
  have HGO := Lib.hid (show w4.heap.size ≤ go from by omega)
  clear hk5 hb5 hz hgo HN
  go_wp2_with fail
  refine HS.out.mono ?_
  rintro e w6 ⟨rfl, w5', s', ⟨rfl, rfl⟩, _, hk6, hb6⟩
  have HT := Lib.hid (wkAt_of (w := w6) (x := some ⟨go, 0, none⟩) (at_ := 0) (n := zeroNd) (hi := 0) (has := false) (k := 1) fun W hb => told_code (hk6.below hb) rfl rfl rfl rfl rfl)
  have HB6 := Lib.hid (show Below w.heap.size w w6 from by
    have h1 := Below.and HB1.out HB5.out
    refine h1.trans (hb6.below h1.size fun k hk => ?_)
    have := HGO.out
    have := HB4.out.size
    have := HB1.out.size
    omega)
  clear hk6 hb6 HS
  go_wp2_with fail
  refine HT.out.mono ?_
  rintro e w7 ⟨rfl, hb7⟩
  have HB7 := Lib.hid (Below.and HB6.out hb7)
  clear hb7 HT
  go_upto_region 11 with (first
    | ((with_reducible refine show_storeN ?_); refine wpList_store_row rfl _ _ _ rfl w7.heap.size zeroNd.cl rfl rfl (Row.new w7 46 zeroNd.cl.toArray) rfl ndI (cl_one _) ?_))
  obtain ⟨W8, hW8, hn8, hb8⟩ := store_nd w7 zeroNd
  rw [← hW8]
  have HB8 := Lib.hid (Below.and HB7.out hb8)
  have HKW := Lib.hid (HK.out W8 HB8.out)
  clear hW8 hn8 hb8 HK
  go_wp2_with fail
  refine HKW.out.mono ?_
  rintro e w9 ⟨rfl, hb9⟩
  have HB9 := Lib.hid (Below.and HB8.out hb9)
  clear hb9
  go_wp2_with fail
  go_ret
  exact ⟨rfl, HB9.out⟩
end Go.Proofs.YtfdngoificpjfaaGreatDoor
