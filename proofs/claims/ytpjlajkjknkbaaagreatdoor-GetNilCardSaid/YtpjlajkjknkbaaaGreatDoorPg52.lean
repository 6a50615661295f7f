/- Texts of this claim, packed: GpO, GpB, WkK, Gd, Gp, GpV, GpS, GpL, GpW, GpK, GpJ, GpZ. -/
import Derived.Test.YtpjlajkjknkbaaaGreatDoorPg37
import Derived.Test.YtpjlajkjknkbaaaGreatDoorPg38
import Derived.Test.YtpjlajkjknkbaaaGreatDoorPg30
import Derived.Test.YtpjlajkjknkbaaaGreatDoorPg12
import Derived.Test.YtpjlajkjknkbaaaGreatDoorPg43
import Derived.Test.YtpjlajkjknkbaaaGreatDoorPg25
import Derived.Test.YtpjlajkjknkbaaaGreatDoorPg49
import Derived.Test.YtpjlajkjknkbaaaGreatDoorPg51
/- The law's site over an image, with spare blocks; conditions: the image is an arena's. -/
namespace Go.Proofs.YtpjlajkjknkbaaaGreatDoor
open Go.RowKit Go.Sort
set_option linter.unusedVariables false
theorem Game.butO {w w' : World} {ym : Lay} {s : St} {y : SLay} {hs : List Hd} {fs : Nat → List Nat} {P : Nat → Prop} (G : Game w ym s y hs fs) (hb : But w w' P) (h1 : ∀ q, P q → ¬ ym.fp q) (h2 : ∀ q, P q → ¬ y.fp q) (h3 : ¬ P 0) : Game w' ym s y hs fs :=
  ⟨G.pm.but hb (fun q hq hp => h1 q hp hq), G.ok, G.mem.keep hb (fun q hq hp => h2 q hp hq), G.ho, G.fo, ⟨G.rs.1.but hb h3, G.rs.2⟩, G.rm, G.size⟩
/-- What stands between two calls. -/
structure OSt (w W : World) (ym : Lay) (s : St) (y : SLay) (hs : List Hd) (fs : Nat → List Nat) (gx gm gs N : Nat) (got : List Nat) (v : Value) : Prop where
  game : Game W ym s y hs fs
  eg : ym.g = gm
  es : y.gs = gs
  site : ∃ t, SiteAt W gx (some ⟨gm, 0, none⟩) (some ⟨gs, 0, none⟩) t
  len : hs.length = N
  ad : Adr W v got
  own : ∀ k, v.ownBlock = some k → w.heap.size ≤ k ∧ ¬ ym.fp k ∧ ¬ y.fp k
  fm : ∀ k, ym.fp k → w.heap.size ≤ k
  fy : ∀ k, y.fp k → w.heap.size ≤ k
  low : Below w.heap.size w W
  rl : 0 < w.heap.size
section
variable {w W W' : World} {ym ym' : Lay} {s s' : St} {y y' : SLay} {hs hs' hs1 : List Hd} {fs fs' : Nat → List Nat} {gx gm gs N gt : Nat} {got : List Nat} {v : Value}
theorem OSt.below (h : OSt w W ym s y hs fs gx gm gs N got v) (hb : Below W.heap.size W W') : OSt w W' ym s y hs fs gx gm gs N got v := by
  obtain ⟨t, hsite⟩ := h.site
  exact ⟨h.game.below hb, h.eg, h.es, ⟨t, Row.below hsite hb hsite.lt⟩, h.len, h.ad.below hb, h.own, h.fm, h.fy, h.low.trans (hb.mono h.low.size), h.rl⟩
theorem OSt.turn (h : OSt w W ym s y hs fs gx gm gs N got v) (G : Game W' ym' s' y' hs' fs') (t : GTurn W W' ym ym' y y' gt) (hg1 : v.ownBlock ≠ some gt) (hg2 : gt ≠ gx) (hg3 : w.heap.size ≤ gt) (hl : hs'.length = hs.length) : OSt w W' ym' s' y' hs' fs' gx gm gs N got v := by
  obtain ⟨tt, hsite⟩ := h.site
  have hlow := h.low.size
  have htag : Tag W gx 98 := Row.tag hsite
  refine ⟨G, t.g.trans h.eg, t.gs.trans h.es, ⟨tt, t.but.row hsite ?_⟩, hl.trans h.len, h.ad.keep t.but ?_, ?_, ?_, ?_, ?_, h.rl⟩
  · rintro (h1 | h1 | h1)
    · exact absurd h1 (h.game.pm.apart_tag htag (by decide) (by decide) (by decide) (by decide))
    · rcases h.game.mem.tag h1 with h' | h' | h' | h' | h' <;> exact absurd (htag.same h') (by decide)
    · exact hg2 h1.symm
  · rintro k hk (h1 | h1 | h1)
    · exact (h.own k hk).2.1 h1
    · exact (h.own k hk).2.2 h1
    · subst h1; exact hg1 hk
  · intro k hk
    have h1 := h.own k hk
    have h2 := h.ad.lt hk
    refine ⟨h1.1, fun hf => ?_, fun hf => ?_⟩
    · rcases t.fm k hf with h3 | h3
      · exact h1.2.1 h3
      · omega
    · rcases t.fy k hf with h3 | h3
      · exact h1.2.2 h3
      · omega
  · intro k hk
    rcases t.fm k hk with h1 | h1
    · exact h.fm k h1
    · omega
  · intro k hk
    rcases t.fy k hk with h1 | h1
    · exact h.fy k h1
    · omega
  · refine h.low.trans (t.but.below hlow fun k hk => ?_)
    rcases hk with h1 | h1 | h1
    · exact h.fm k h1
    · exact h.fy k h1
    · omega
theorem OSt.fresh (h : OSt w W ym s y hs fs gx gm gs N got v) (hg : W.heap.size ≤ gt) : v.ownBlock ≠ some gt ∧ gt ≠ gx ∧ w.heap.size ≤ gt := by
  obtain ⟨t, hsite⟩ := h.site
  have h1 := hsite.lt
  have h2 := h.low.size
  exact ⟨fun e => by have := h.ad.lt e; omega, by omega, by omega⟩
theorem OSt.slab (h : OSt w W ym s y hs fs gx gm gs N got v) (hm : SlabMem W' y' hs' fs') (ho : HsOk hs') (fo : FsOk hs' fs') (t : STurn W W' y y') (hl : hs'.length = hs.length) : OSt w W' ym s y' hs' fs' gx gm gs N got v := by
  obtain ⟨h1, h2, h3⟩ := h.fresh (Nat.le_refl _)
  exact h.turn (gt := W.heap.size) (h.game.onSlab hm ho fo hl t) (GTurn.of_slab ym _ t) h1 h2 h3 hl
theorem OSt.push (h : OSt w W ym s y hs fs gx gm gs N got v) {g off n cap p : Nat} (hA : Adr W' (.slice (some ⟨g, off, none⟩) n cap) (got ++ [p])) (hgr : W.grownBy W' v.ownBlock) (hb : v.ownBlock = some g ∨ W.heap.size ≤ g) :
    OSt w W' ym s y hs fs gx gm gs N (got ++ [p]) (.slice (some ⟨g, off, none⟩) n cap) := by
  obtain ⟨tt, hsite⟩ := h.site
  have hlow := h.low.size
  have htag : Tag W gx 98 := Row.tag hsite
  have hbut : But W W' (fun k => v.ownBlock = some k) := ⟨hgr.os, hgr.tape, hgr.output, hgr.size, fun k hk hn => hgr.block k hk (fun e => hn e.symm)⟩
  refine ⟨h.game.butO hbut (fun q hq => (h.own q hq).2.1) (fun q hq => (h.own q hq).2.2) (fun hq => by have := (h.own _ hq).1; have := h.rl; omega), h.eg, h.es, ⟨tt, hbut.row hsite fun hk => ?_⟩, h.len, hA, fun k hk => ?_, h.fm, h.fy, h.low.trans (hbut.below hlow fun k hk => (h.own k hk).1), h.rl⟩
  · exact absurd (htag.same (h.ad.tag hk)) (by decide)
  · cases hk
    rcases hb with h1 | h1
    · exact h.own g h1
    · exact ⟨Nat.le_trans hlow h1, fun hf => Nat.lt_irrefl _ (Nat.lt_of_lt_of_le (h.game.pm.lt _ hf) h1), fun hf => Nat.lt_irrefl _ (Nat.lt_of_lt_of_le (h.game.mem.lt hf) h1)⟩
end
theorem und1549 : Tryz.prog.underlying 49 = some (.slice 30) := by kernel_rfl
theorem rsv_g {w W : World} {ym : Lay} {s : St} {y : SLay} {hs : List Hd} {fs : Nat → List Nat} {gx gm gs N : Nat} {got : List Nat} {v : Value} (h : OSt w W ym s y hs fs gx gm gs N got v) {c : Nat} (h1 : 1 ≤ c) (h3 : c ≤ 3) :
    Calls Tryz.prog 56 #[.pointer (some ⟨gs, 0, none⟩), .int .i64 (c : Int)] W fun e W' => ∃ (A : Nat) (E : Int), e = .returned (.tuple #[.int .u64 (A : Int), .int .i64 E]) ∧ (E = 0 ∨ E = 4) ∧ ∃ y' hs' fs', OSt w W' ym s y' hs' fs' gx gm gs N got v ∧ STurn W W' y y' := by
  have H : Calls Tryz.prog 56 #[fpt y.gs, jv c] W (ResPost W y hs c) := reserve_any h.game.mem h.game.ho h.game.fo h.game.rs h1 h3
  unfold fpt jv at H
  rw [h.es] at H
  refine H.mono ?_
  rintro e W' ⟨hs1, hs', y', fs', hcl, ht, hm, ho, fo, t⟩
  have hl1 : hs1.length = hs.length := by
    rcases hcl with ⟨_, rfl⟩ | ⟨_, ⟨i, x, _, _, rfl⟩ | ⟨_, rfl⟩⟩
    · rfl
    · exact List.length_set
    · rfl
  rcases ht with ⟨i, j, x, hx, hc, hb, _, rfl, rfl⟩ | ⟨hno, rfl, rfl⟩
  · exact ⟨adr x.no c j, 0, rfl, .inl rfl, y', _, fs', h.slab hm ho fo t (by rw [List.length_set]; exact hl1), t⟩
  · exact ⟨0, 4, rfl, .inr rfl, y', _, fs', h.slab hm ho fo t hl1, t⟩
theorem OSt.cell {w W W' : World} {ym : Lay} {s : St} {y : SLay} {hs : List Hd} {fs : Nat → List Nat} {gx gm gs N g0 : Nat} {got : List Nat} {v : Value} {cs : Array Value} (h : OSt w W ym s y hs fs gx gm gs N got v) (hr : Row W g0 51 cs) (hg : w.heap.size ≤ g0) (hx : g0 ≠ gx) (hb : But W W' (fun q => q = g0)) : OSt w W' ym s y hs fs gx gm gs N got v := by
  obtain ⟨tt, hsite⟩ := h.site
  have htag : Tag W g0 51 := Row.tag hr
  refine ⟨h.game.butO hb (fun q e => by rw [e]; exact h.game.pm.apart_tag htag (by decide) (by decide) (by decide) (by decide)) (fun q e hf => ?_) (fun e => by have := h.rl; omega), h.eg, h.es, ⟨tt, hb.row hsite fun e => hx e.symm⟩, h.len, h.ad.keep hb fun k hk e => ?_, h.own, h.fm, h.fy, h.low.trans (hb.below h.low.size fun k hk => by omega), h.rl⟩
  · rw [e] at hf
    rcases h.game.mem.tag hf with h' | h' | h' | h' | h' <;> exact absurd (htag.same h') (by decide)
  · rw [e] at hk
    exact absurd (htag.same (h.ad.tag hk)) (by decide)
/-- A world over an image. -/
def OverP (w : World) (N : Nat) (f : Nat → Nat) (e : Ending) (w' : World) : Prop :=
  ∃ g0 gx ym q t V, e = .returned (.pointer (some ⟨g0, 0, none⟩)) ∧ Row w' g0 51 #[.pointer none, .pointer (some ⟨gx, 0, none⟩), .pointer (some ⟨ym.g, 0, none⟩), V] ∧ SiteAt w' gx (some ⟨ym.g, 0, none⟩) q t ∧ MemAt w' ym (St.ofBytes (N / 64) ((List.range N).map f)) ∧ (∀ k, ym.fp k → w.heap.size ≤ k) ∧ w.heap.size ≤ gx ∧ ¬ ym.fp gx ∧ w.heap.size ≤ g0 ∧ ¬ ym.fp g0 ∧ g0 ≠ gx ∧ Below w.heap.size w w'
set_option maxRecDepth 100000 in
set_option maxHeartbeats 3200000 in
theorem over_yes {w : World} {gb n N : Nat} {f : Nat → Nat} (hN : N = 1024 * (n + 1)) (R : Rms w) (hr : Row w gb 5 (cfB N f)) (hB : BytF f) (h1 : 1 ≤ n) (h2 : n ≤ 64) (hok : okHeads ((List.range N).map f) n) :
    Calls Tryz.prog 32 #[.slice (some ⟨gb, 0, none⟩) N N] w (OverP w N f) := by
  have mixed : Tryz.prog.follows .mixedOrders = true := by kernel_rfl
  obtain ⟨l, hl⟩ : ∃ l, l = (List.range N).map f := ⟨_, rfl⟩
  have hll : l.length = 1024 * (n + 1) := by rw [hl, ← hN]; simp
  have hlb : ∀ x ∈ l, x < 256 := by
    rw [hl]
    intro x hx
    obtain ⟨j, _, rfl⟩ := List.mem_map.1 hx
    exact hB j
  have hs : Sl w (some ⟨gb, 0, none⟩) (l.map bv) := by
    refine row_sl (t := 5) ?_
    have e : (l.map bv).toArray = cfB N f := by
      rw [hl]
      apply Array.ext_getElem?
      intro i
      rw [List.getElem?_toArray, List.map_map, List.getElem?_map]
      by_cases hi : i < N
      · rw [List.getElem?_range hi, cfB_get hi]
        rfl
      · rw [List.getElem?_eq_none (by simp; omega), Array.getElem?_eq_none (by rw [cfB_size]; omega)]
        rfl
    rw [e]
    exact hr
  rw [← hl] at hok
  have hgb := hr.lt
  have hrl : 0 < w.heap.size := by obtain ⟨t, ht⟩ := R; exact heap_lt ht
  have HRL := Lib.hid hrl
  have HRR := Lib.hid R
  have HO1 := Lib.hid (show Calls Tryz.prog 53 #[.slice (some ⟨gb, 0, none⟩) N N] w (MadeMem w (St.ofBytes (16 * (n + 1)) l)) from by
    have := pOf_yes (cap := N) (nl := 16 * (n + 1)) (by omega) hs hlb (by omega) (by omega)
    rw [show 64 * (16 * (n + 1)) = N by omega] at this
    exact this)
  have HO2 := Lib.hid (show ∀ W, Below w.heap.size w W → Calls Tryz.prog 54 #[.slice (some ⟨gb, 0, none⟩) N N] W (OfPost W l n) from fun W hb => by
    have := slabOf_yes (cap := N) hll (hs.below hb) hlb (by omega) h2 (R.below hb)
    rw [← hN] at this
    exact this)
  have HOK := Lib.hid hok
  have HOKM := Lib.hid (show (St.ofBytes (16 * (n + 1)) l).Ok from ofBytes_Ok hlb)
  have HLL := Lib.hid hl
  have HNN := Lib.hid hN
  unfold OverP
  rw [← hl]
  clear R hr hB hok hs hlb hl hll hgb hN hrl
  go_enter Tryz.func32, Tryz.ntmps32
  go_wp2_with fail
  refine HO1.out.mono ?_
  rintro e w1 ⟨ym, rfl, hm1, hf1, hb1⟩
  have HM1 := Lib.hid hm1
  have HF1 := Lib.hid hf1
  have HB1 := Lib.hid hb1
  have HO3 := Lib.hid (HO2.out w1 hb1)
  obtain ⟨gm, hgm⟩ : ∃ gm, gm = ym.g := ⟨_, rfl⟩
  rw [← hgm]
  have HGM := Lib.hid hgm
  clear hm1 hf1 hb1 HO1 HO2 hgm
  go_wp2_with fail
  refine HO3.out.mono ?_
  intro e w2 hp
  rcases hp with ⟨_, y, he, hs2, hf2, hb2⟩ | ⟨hno, _⟩
  case inr => exact absurd HOK.out hno
  subst he
  have HB2 := Lib.hid (Below.and HB1.out hb2)
  have HM2 := Lib.hid (HM1.out.below hb2)
  have HS2 := Lib.hid hs2
  have HF2 := Lib.hid (show ∀ k, y.fp k → w.heap.size ≤ k from fun k hk => Nat.le_trans HB1.out.size (hf2 k hk))
  have HNW := Lib.hid (siNew_ok (N := 3) (n := n) (p := some ⟨ym.g, 0, none⟩) (q := some ⟨y.gs, 0, none⟩) (w := w2) (by
    have h5 := size_is HM2.out
    have e5 : ((64 * (St.ofBytes (16 * (n + 1)) l).nl : Nat) : Int) = sizeN (n : Int) := by
      show ((64 * (16 * (n + 1)) : Nat) : Int) = _
      unfold sizeN
      rw [if_pos (by omega)]
      omega
    rw [e5] at h5
    exact h5) (slabs_is hs2 (hsK_len _ _ _ _)) (by unfold sizeN; rw [if_pos (by omega)]; omega) (by omega) (by decide) (by decide))
  rw [← HGM.out] at HNW
  obtain ⟨gy, hgy⟩ : ∃ gy, gy = y.gs := ⟨_, rfl⟩
  have HGY := Lib.hid hgy
  unfold fpt
  rw [← hgy] at HNW ⊢
  clear hs2 hf2 hb2 HO3 hgy HM1
  go_wp2_with fail
  refine HNW.out.mono ?_
  rintro e w3 ⟨gx, gt, b, rfl, hsx, _, hgx, _, _, hb3⟩
  have HSX := Lib.hid hsx
  have HB3 := Lib.hid hb3
  have HGX := Lib.hid hgx
  clear hsx hb3 hgx HNW
  go_wp2_with fail
  obtain ⟨W4, hW4⟩ : ∃ W4, W4 = w3.alloc (.cells #[.pointer none, .pointer (some ⟨gx, 0, none⟩), .pointer (some ⟨gm, 0, none⟩), .slice none 0 0] 51) := ⟨_, rfl⟩
  rw [← hW4]
  have hb4 : Below w3.heap.size w3 W4 := by rw [hW4]; exact alloc_below _ _
  have hr4 : Row W4 w3.heap.size 51 #[.pointer none, .pointer (some ⟨gx, 0, none⟩), .pointer (some ⟨gm, 0, none⟩), .slice none 0 0] := by rw [hW4]; exact Row.new _ _ _
  obtain ⟨g0, hg0⟩ : ∃ g, g = w3.heap.size := ⟨_, rfl⟩
  rw [← hg0] at hr4 ⊢
  have HB34 := Lib.hid (Below.and HB3.out hb4)
  have HLW := Lib.hid (Below.and HB2.out HB34.out)
  have HP := Lib.hid (show OSt w W4 ym (St.ofBytes (16 * (n + 1)) l) y (hsK (hcW l) (hbW l) n n) (fsK (hcW l) (hbW l) n) gx gm gy n [] (.slice none 0 0) from
    ⟨⟨HM2.out.below HB34.out, HOKM.out, HS2.out.below HB34.out, hsK_ok _ _ _, fsK_ok _ _ _, ⟨HRR.out.below HLW.out, fun h => by have := HF2.out _ h; have := HRL.out; omega⟩, fun h => by have := HF1.out _ h; have := HRL.out; omega, by show 64 * (16 * (n + 1)) = _; rw [hsK_len]; omega⟩, HGM.out.symm, HGY.out.symm, ⟨_, Row.below HSX.out hb4 HSX.out.lt⟩, hsK_len _ _ _ _, .inl ⟨rfl, rfl⟩, (fun k hk => by cases hk), HF1.out, HF2.out, HLW.out, HRL.out⟩)
  have HG0 := Lib.hid (show w.heap.size ≤ g0 ∧ g0 ≠ gx ∧ w.heap.size ≤ gx from by
    have h5 := HSX.out.lt
    have h6 := HB2.out.size
    have h7 := HB3.out.size
    have h8 := HGX.out
    omega)
  have HR4 := Lib.hid hr4
  clear hW4 hb4 hr4 hg0
  go_loopw [10] (fun i wr => ∃ k : Nat, k ≤ 4 ∧ i = .int .i64 (k : Int) ∧ ∃ y hs fs got V, OSt w wr ym (St.ofBytes (16 * (n + 1)) l) y hs fs gx gm gy n got V ∧ got.length ≤ k ∧ Row wr g0 51 #[.pointer none, .pointer (some ⟨gx, 0, none⟩), .pointer (some ⟨gm, 0, none⟩), V]) (fun i _ => 4 - (intOf i).toNat)
  case atStart => exact ⟨0, by omega, rfl, y, _, _, [], _, HP.out, Nat.le_refl _, HR4.out⟩
  case round =>
    rename World => wr
    obtain ⟨k, hk, rfl, y2, hs2, fs2, got, V, hP2, hgl2, hr2⟩ := hrel
    have HP2 := Lib.hid hP2
    have HGL := Lib.hid hgl2
    have HR2 := Lib.hid hr2
    clear hP2 hgl2 hr2 HP HR4
    by_cases hlt : k < 4
    · have e4 : (k : Int) < 4 := by omega
      have HRV := Lib.hid (rsv_g HP2.out (c := 1) (by decide) (by decide))
      go_wp2_with fail
      refine HRV.out.mono ?_
      rintro e w5 ⟨Ad, E, rfl, hE, y5, hs5, fs5, hP5, ht5⟩
      have HP5 := Lib.hid hP5
      have HR5 := Lib.hid (show Row w5 g0 51 #[.pointer none, .pointer (some ⟨gx, 0, none⟩), .pointer (some ⟨gm, 0, none⟩), V] from ht5.but.row HR2.out fun h => by
        have htag : Tag wr g0 51 := Row.tag HR2.out
        rcases HP2.out.game.mem.tag h with h' | h' | h' | h' | h' <;> exact absurd (htag.same h') (by decide))
      clear hP5 ht5 HRV
      rcases hE with rfl | rfl
      · have c3 : w5.cell? ⟨g0, 3, none⟩ = some V := HR5.out.cell 3
        have f3 := HR5.out.free 3
        have HAL := Lib.hid (HP5.out.ad)
        go_wp2_with (at_builtin; refine wpList_append_adr und1549 (hgd := ?g1) (s := .tmp 68) (x := .tmp 70) (ho := ?g2) (v := V) (l := got) (p := Ad) (hs := ?g3) (ht := ?g4) (hn := ?g5) (ad := ⟨w5.heap.size, 0, none⟩) (c := 1) (hx := ?g6) (hnews := ?g7) ?g8)
        case g1 => rfl
        case g2 => rfl
        case g3 => rfl
        case g4 => exact HAL.out.below (alloc_below _ _)
        case g5 => have := HGL.out; omega
        case g6 => rfl
        case g7 => simp [wv]
        intro h9 off9 cap9 w9 hadr hgr hblk
        have hbb : Below w5.heap.size w5 (w5.alloc (.cells #[.int .u64 (Ad : Int)] 30)) := alloc_below _ _
        have hP9 := (HP5.out.below hbb).push hadr hgr (by rcases hblk with h | h; exact .inl h; exact .inr (by simpa using h))
        have hbut : But (w5.alloc (.cells #[.int .u64 (Ad : Int)] 30)) w9 (fun k => V.ownBlock = some k) := ⟨hgr.os, hgr.tape, hgr.output, hgr.size, fun k hk hn => hgr.block k hk (fun e => hn e.symm)⟩
        have hr9 : Row w9 g0 51 #[.pointer none, .pointer (some ⟨gx, 0, none⟩), .pointer (some ⟨gm, 0, none⟩), V] := hbut.row (HR5.out.below hbb HR5.out.lt) fun hk => absurd ((Row.tag HR5.out).same (HAL.out.tag hk)) (by decide)
        have d3 : w9.cell? ⟨g0, 3, none⟩ = some V := hr9.cell 3
        have e3 := hr9.free 3
        have HE := Lib.hid (show ∀ u, OSt w (w9.setCell ⟨g0, 3, none⟩ u) ym (St.ofBytes (16 * (n + 1)) l) y5 hs5 fs5 gx gm gy n (got ++ [Ad]) (.slice (some ⟨h9, off9, none⟩) (got.length + 1) cap9) ∧ Row (w9.setCell ⟨g0, 3, none⟩ u) g0 51 #[.pointer none, .pointer (some ⟨gx, 0, none⟩), .pointer (some ⟨gm, 0, none⟩), u] from fun u => ⟨hP9.cell hr9 HG0.out.1 HG0.out.2.1 ((But.refl w9 (fun q => q = g0)).set (p := ⟨g0, 3, none⟩) rfl u), hr9.set 3 u⟩)
        clear hP9 hbut hr9 hgr hblk hadr hbb c3 f3
        go_wp2_with fail
        refine ⟨⟨k + 1, by omega, by go_num, y5, hs5, fs5, got ++ [Ad], _, (HE.out _).1, by rw [List.length_append]; have := HGL.out; simp; omega, (HE.out _).2⟩, by simp [intOf]; omega⟩
      · go_wp2_with fail
        refine ⟨⟨k + 1, by omega, by go_num, y5, hs5, fs5, got, V, HP5.out, by have := HGL.out; omega, HR5.out⟩, by simp [intOf]; omega⟩
    · obtain rfl : k = 4 := by omega
      clear hk hlt
      go_wp2_with fail
      go_ret
      obtain ⟨tt, hsite⟩ := HP2.out.site
      have hm := HP2.out.game.pm
      refine ⟨g0, gx, ym, _, _, V, rfl, by rw [← HGM.out]; exact HR2.out, by rw [← HGM.out]; exact hsite, by rw [show N / 64 = 16 * (n + 1) by have := HNN.out; omega]; exact hm, HP2.out.fm, HG0.out.2.2, hm.apart_tag (Row.tag hsite) (by decide) (by decide) (by decide) (by decide), HG0.out.1, hm.apart_tag (Row.tag HR2.out) (by decide) (by decide) (by decide) (by decide), HG0.out.2.1, HP2.out.low⟩
end Go.Proofs.YtpjlajkjknkbaaaGreatDoor
/- The law's worlds: an arena laid, a site over it; conditions: as Build. -/
namespace Go.Proofs.YtpjlajkjknkbaaaGreatDoor
open Go.RowKit
set_option linter.unusedVariables false
/-- A world over an arena. -/
def BegP15 (w : World) (N : Nat) (f : Nat → Nat) (e : Ending) (w' : World) : Prop :=
  ∃ g0 ga gx ym q t V, e = .returned (.pointer (some ⟨g0, 0, none⟩)) ∧ Row w' g0 51 #[.pointer (some ⟨ga, 0, none⟩), .pointer (some ⟨gx, 0, none⟩), .pointer (some ⟨ym.g, 0, none⟩), V] ∧ SiteAt w' gx (some ⟨ym.g, 0, none⟩) q t ∧ MemAt w' ym (St.ofBytes (N / 64) ((List.range N).map f)) ∧ (∀ k, ym.fp k → w.heap.size ≤ k) ∧ w.heap.size ≤ gx ∧ ¬ ym.fp gx ∧ w.heap.size ≤ g0 ∧ ¬ ym.fp g0 ∧ g0 ≠ gx ∧ Below w.heap.size w w'
set_option maxRecDepth 100000 in
set_option maxHeartbeats 3200000 in
theorem begin_few {w : World} {n per gk cap lag m : Nat} {ks : List Nat} (hm : ks.length = m) (hK : ∀ k, k < m → w.cell? ⟨gk, k, none⟩ = some (.int .u64 ((ks.getD k 0 : Nat) : Int))) (hk : ∀ k, ks.getD k 0 < 18446744073709551616) (hr : ∀ a b, a < b → b < m → ks.getD a 0 < ks.getD b 0)
    (h0 : 0 < m) (hmp : m ≤ per) (hp : per ≤ 8) (hp2 : 2 ≤ per) (hn1 : 1 ≤ n) (hn : n ≤ 16) (hlag : lag ≤ 20) (hroom : ∀ k, k < ks.length → (bK (b1 n) ks k).newValue.1 ≠ 0) (ht : bT n ks ≠ 0) (hw : WordsOk (bN n ks)) (R : Rms w) (hBy : BytF (bZ n ks).f) (hZn : (bZ n ks).n = n) (hok : okHeads ((List.range (1024 * (n + 1))).map (bZ n ks).f) n) :
    Calls Tryz.prog 17 #[.agg #[.int .i64 (n : Int), .slice (some ⟨gk, 0, none⟩) m cap, .int .i64 (per : Int), .int .i64 (lag : Int)]] w (BegP15 w (1024 * (n + 1)) (bZ n ks).f) := by
  have mixed : Tryz.prog.follows .mixedOrders = true := by kernel_rfl
  have hgk : gk < w.heap.size := w.block_lt_of_cell? _ (hK 0 h0)
  obtain ⟨W1, hW1⟩ : ∃ W1, W1 = w.alloc (.cells #[.int .i64 (n : Int), .slice (some ⟨gk, 0, none⟩) m cap, .int .i64 (per : Int), .int .i64 (lag : Int)] 59) := ⟨_, rfl⟩
  have r1 : Row W1 w.heap.size 59 #[.int .i64 (n : Int), .slice (some ⟨gk, 0, none⟩) m cap, .int .i64 (per : Int), .int .i64 (lag : Int)] := by rw [hW1]; exact Row.new _ _ _
  have b1' : Below w.heap.size w W1 := by rw [hW1]; exact alloc_below _ _
  have k0 : W1.cell? ⟨w.heap.size, 0, none⟩ = some (.int .i64 (n : Int)) := r1.cell 0
  have k1 : W1.cell? ⟨w.heap.size, 1, none⟩ = some (.slice (some ⟨gk, 0, none⟩) m cap) := r1.cell 1
  have k2 : W1.cell? ⟨w.heap.size, 2, none⟩ = some (.int .i64 (per : Int)) := r1.cell 2
  have k3 : W1.cell? ⟨w.heap.size, 3, none⟩ = some (.int .i64 (lag : Int)) := r1.cell 3
  have HRI := Lib.hid fun (W : World) (hb : Below w.heap.size w W) => rising_any (most := 40) (cap := cap) hm (fun k hk => (hb.cell (p := ⟨gk, k, none⟩) hgk).trans (hK k hk)) hr (by omega) h0 (by omega)
  have HBU := Lib.hid fun (W : World) (g c : Nat) (hc : ∀ k, k < ks.length → W.cell? ⟨g, k, none⟩ = some (.int .u64 ((ks.getD k 0 : Nat) : Int))) => build_few (w := W) (gk := g) (cap := c) (lag := (lag : Int)) hc hk (by omega) (by omega) hp hn hroom ht hw
  rw [hm] at HBU
  have HM := Lib.hid hm
  have HB1 := Lib.hid b1'
  have HW1 := Lib.hid hW1
  have STAY := Lib.hid fun W' (hb : Below W1.heap.size W1 W') => And.intro ((hb.cell (p := ⟨w.heap.size, 0, none⟩) (W1.block_lt_of_cell? _ k0)).trans k0) (And.intro ((hb.cell (p := ⟨w.heap.size, 1, none⟩) (W1.block_lt_of_cell? _ k1)).trans k1) (And.intro ((hb.cell (p := ⟨w.heap.size, 2, none⟩) (W1.block_lt_of_cell? _ k2)).trans k2) (And.intro ((hb.cell (p := ⟨w.heap.size, 3, none⟩) (W1.block_lt_of_cell? _ k3)).trans k3) hb)))
  have EGR := Lib.hid (enters_of Tryz.func31 (by kernel_rfl) rfl)
  have EGB := Lib.hid (enters_of Tryz.func30 (by kernel_rfl) rfl)
  have d1 : ¬ (n : Int) < 1 := by omega
  have d2 : ¬ (16 : Int) < (n : Int) := by omega
  have d3 : ¬ (per : Int) < 2 := by omega
  have d4 : ¬ (8 : Int) < (per : Int) := by omega
  have d5 : ¬ (lag : Int) < 0 := by omega
  have d6 : ¬ (20 : Int) < (lag : Int) := by omega
  have d7 : ¬ (40 : Int) < (m : Int) := by omega
  have HRR := Lib.hid R
  have HOV := Lib.hid (show ∀ (W : World) (gb : Nat), Rms W → Row W gb 5 (cfB (1024 * (n + 1)) (bZ n ks).f) → Calls Tryz.prog 32 #[.slice (some ⟨gb, 0, none⟩) (1024 * (n + 1)) (1024 * (n + 1))] W (OverP W (1024 * (n + 1)) (bZ n ks).f) from fun W gb RW hrow => over_yes rfl RW hrow hBy hn1 (by omega) hok)
  have hNz : (bZ n ks).N = 1024 * (n + 1) := by unfold Ar.N; rw [hZn]
  obtain ⟨N, hN⟩ : ∃ N, N = 1024 * (n + 1) := ⟨_, rfl⟩
  obtain ⟨f, hf⟩ : ∃ f, f = (bZ n ks).f := ⟨_, rfl⟩
  rw [← hN, ← hf] at HOV
  rw [← hN] at hNz
  rw [← hN, ← hf]
  have HZN := Lib.hid (And.intro hNz hf)
  clear hNz hN hf
  clear hK hk hr hroom ht hw hm hgk R hBy hZn hok r1 b1' hW1
  go_enter Tryz.func17, Tryz.ntmps17
  go_upto_region 1 with (fail)
  rw [← HW1.out]
  go_upto_region 3 with (fail)
  clear k0 k1 k2 k3 d1 d2 d3 d4 d5 d6 d7
  refine wp_region_noPanic ?_
  refine wp_region_held_drew (S := fun W' => W'.cell? ⟨w.heap.size, 0, none⟩ = some (.int .i64 (n : Int)) ∧ W'.cell? ⟨w.heap.size, 1, none⟩ = some (.slice (some ⟨gk, 0, none⟩) m cap) ∧ W'.cell? ⟨w.heap.size, 2, none⟩ = some (.int .i64 (per : Int)) ∧ W'.cell? ⟨w.heap.size, 3, none⟩ = some (.int .i64 (lag : Int)) ∧ Below W1.heap.size W1 W') (by kernel_rfl) (STAY.out _ (drew_below _)) (fun hHeld => ?_)
  refine wpAnyH_take (i := 0) (oi := ⟨some 39, _, _, _, _, _⟩) (v := .pointer (some ⟨w.heap.size, 0, none⟩)) rfl (by kernel_rfl) (by kernel_rfl) (by kernel_rfl) (fun _ _ _ h => h) (Or.inl ⟨by kernel_rfl, by intro WW hSw; (try dsimp only at hSw); go_simp⟩) (by assumption) ?_
  (try simp only [Act.put, List.setIfInBounds_toArray, List.set_cons_zero, List.set_cons_succ])
  refine wpAnyH_take (i := 1) (oi := ⟨some 40, _, _, _, _, _⟩) (v := .int .i64 (n : Int)) rfl (by kernel_rfl) (by kernel_rfl) (by kernel_rfl) (fun _ _ _ h => h) (Or.inl ⟨by kernel_rfl, by intro WW hSw; (try dsimp only at hSw); go_simp⟩) (by assumption) ?_
  (try simp only [Act.put, List.setIfInBounds_toArray, List.set_cons_zero, List.set_cons_succ])
  refine wpAnyH_take (i := 2) (oi := ⟨some 41, _, _, _, _, _⟩) (v := .pointer (some ⟨w.heap.size, 1, none⟩)) rfl (by kernel_rfl) (by kernel_rfl) (by kernel_rfl) (fun _ _ _ h => h) (Or.inl ⟨by kernel_rfl, by intro WW hSw; (try dsimp only at hSw); go_simp⟩) (by assumption) ?_
  (try simp only [Act.put, List.setIfInBounds_toArray, List.set_cons_zero, List.set_cons_succ])
  refine wpAnyH_take (i := 3) (oi := ⟨some 42, _, _, _, _, _⟩) (v := .slice (some ⟨gk, 0, none⟩) m cap) rfl (by kernel_rfl) (by kernel_rfl) (by kernel_rfl) (fun _ _ _ h => h) (Or.inl ⟨by kernel_rfl, by intro WW hSw; (try dsimp only at hSw); go_simp⟩) (by assumption) ?_
  (try simp only [Act.put, List.setIfInBounds_toArray, List.set_cons_zero, List.set_cons_succ])
  refine wpAnyH_take (i := 5) (oi := ⟨some 44, _, _, _, _, _⟩) (v := .pointer (some ⟨w.heap.size, 2, none⟩)) rfl (by kernel_rfl) (by kernel_rfl) (by kernel_rfl) (fun _ _ _ h => h) (Or.inl ⟨by kernel_rfl, by intro WW hSw; (try dsimp only at hSw); go_simp⟩) (by assumption) ?_
  (try simp only [Act.put, List.setIfInBounds_toArray, List.set_cons_zero, List.set_cons_succ])
  refine wpAnyH_take (i := 6) (oi := ⟨some 45, _, _, _, _, _⟩) (v := .int .i64 (per : Int)) rfl (by kernel_rfl) (by kernel_rfl) (by kernel_rfl) (fun _ _ _ h => h) (Or.inl ⟨by kernel_rfl, by intro WW hSw; (try dsimp only at hSw); go_simp⟩) (by assumption) ?_
  (try simp only [Act.put, List.setIfInBounds_toArray, List.set_cons_zero, List.set_cons_succ])
  refine wpAnyH_take (i := 7) (oi := ⟨some 46, _, _, _, _, _⟩) (v := .pointer (some ⟨w.heap.size, 3, none⟩)) rfl (by kernel_rfl) (by kernel_rfl) (by kernel_rfl) (fun _ _ _ h => h) (Or.inl ⟨by kernel_rfl, by intro WW hSw; (try dsimp only at hSw); go_simp⟩) (by assumption) ?_
  (try simp only [Act.put, List.setIfInBounds_toArray, List.set_cons_zero, List.set_cons_succ])
  refine wpAnyH_take (i := 8) (oi := ⟨some 47, _, _, _, _, _⟩) (v := .int .i64 (lag : Int)) rfl (by kernel_rfl) (by kernel_rfl) (by kernel_rfl) (fun _ _ _ h => h) (Or.inl ⟨by kernel_rfl, by intro WW hSw; (try dsimp only at hSw); go_simp⟩) (by assumption) ?_
  (try simp only [Act.put, List.setIfInBounds_toArray, List.set_cons_zero, List.set_cons_succ])
  refine wpAnyH_one (i := 4) (oi := ⟨some 43, _, _, _, _, _⟩) rfl (by kernel_rfl) (fun K hK => ?_)
  refine step_calls (by rfl) 31 EGR.out [.tmp 42, .const (.int .i64 40)] _ rfl [.slice (some ⟨gk, 0, none⟩) m cap, .int .i64 40] rfl (HRI.out _ (Below.and HB1.out (drew_below _))) ?_
  rintro e w2 ⟨V, rfl, ho, hb2⟩
  have L2 : Below W1.heap.size W1 w2 := Below.and (drew_below _) hb2
  obtain ⟨g2, c2, hV, hc2, hc3, hcs⟩ := own_some ho h0
  subst hV
  have HBW := Lib.hid (HBU.out w2 g2 c2 (fun k hk => by
    obtain ⟨a, ha, hc⟩ := hcs k _ (wvs_at ks (Nat.le_of_eq HM.out.symm) hk)
    cases ha
    rwa [add_lit] at hc))
  have HB2 := Lib.hid (Below.and HB1.out L2)
  refine ⟨_, rfl, hK _ _ (STAY.out _ L2) (fun hSn => ?_)⟩
  clear hK K ho hcs hc2 hc3
  (try simp only [Act.put, List.setIfInBounds_toArray, List.set_cons_zero, List.set_cons_succ])
  refine wpAnyH_one (i := 9) (oi := ⟨some 48, _, _, _, _, _⟩) rfl (by kernel_rfl) (fun K hK => ?_)
  refine step_calls (by rfl) 30 EGB.out [.tmp 40, .tmp 43, .tmp 45, .tmp 47] _ rfl [.int .i64 (n : Int), .slice (some ⟨g2, 0, none⟩) m c2, .int .i64 (per : Int), .int .i64 (lag : Int)] rfl HBW.out ?_
  rintro e w3 hP
  obtain ⟨g, gb, he, hrest⟩ := hP
  have hlow := hrest.2.2.1
  obtain ⟨_, _, _, gl, cl, gr, cr, hA, _⟩ := hrest
  have hrow0 := hA.row.cell 0
  have hbyt := hA.byt
  rw [HZN.out.1] at hrow0 hbyt
  rw [← HZN.out.2] at hbyt
  have hB3 := Below.and HB2.out hlow
  have HC0 := Lib.hid (show w3.cell? ⟨g, 0, none⟩ = some (.slice (some ⟨gb, 0, none⟩) N N) from hrow0)
  have HOC := Lib.hid (HOV.out w3 gb (HRR.out.below hB3) hbyt)
  have HB3 := Lib.hid hB3
  clear hrow0 hbyt hB3 hA
  subst he
  refine ⟨_, rfl, hK _ _ (STAY.out _ (Below.and L2 hlow)) (fun hSn2 => ?_)⟩
  clear hK K
  (try simp only [Act.put, List.setIfInBounds_toArray, List.set_cons_zero, List.set_cons_succ])
  refine wpAnyH_take (i := 10) (oi := ⟨some 3, _, _, _, _, _⟩) (v := .pointer (some ⟨g, 0, none⟩)) rfl (by kernel_rfl) (by kernel_rfl) (by kernel_rfl) (fun _ _ _ h => h) (Or.inl ⟨by kernel_rfl, by intro WW hSw; (try dsimp only at hSw); go_simp⟩) (by assumption) ?_
  (try simp only [Act.put, List.setIfInBounds_toArray, List.set_cons_zero, List.set_cons_succ])
  refine wpAnyH_done (by kernel_rfl) ?_ _
  clear hHeld hSn hSn2 STAY HRI HBU hlow HW1 EGR EGB HOV HZN HRR HM HB1 HBW HB2 L2 hb2
  go_wp2_with fail
  refine (‹∀ (a : Act) (w : World), Code.wp Tryz.prog _ _ a w → _›) _ _ ?_
  have c0 := HC0.out
  go_wp2_with fail
  refine HOC.out.mono ?_
  rintro e w4 ⟨g0, gx, ym, q, t, V, rfl, hrow, hsite, hm, hfp, hgx, hnx, hg0, hng0, hne, hb4⟩
  have k0 : w4.cell? ⟨g0, 0, none⟩ = some (.pointer none) := hrow.cell 0
  have f0 := hrow.free 0
  have HR := Lib.hid hrow
  have HS := Lib.hid hsite
  have HM := Lib.hid hm
  have HF := Lib.hid hfp
  have HX := Lib.hid (And.intro hgx (And.intro hnx (And.intro hg0 (And.intro hng0 hne))))
  have HB4 := Lib.hid hb4
  clear hrow hsite hm hfp hgx hnx hg0 hng0 hne hb4 c0 HOC
  go_wp2_with fail
  go_ret
  obtain ⟨x1, x2, x3, x4, x5⟩ := HX.out
  have hsz := HB3.out.size
  have hbt : But w4 (w4.setCell ⟨g0, 0, none⟩ (.pointer (some ⟨g, 0, none⟩))) (fun q => q = g0) := (But.refl w4 (fun q => q = g0)).set (p := ⟨g0, 0, none⟩) rfl _
  exact ⟨g0, g, gx, ym, q, t, V, rfl, HR.out.set 0 _, hbt.row HS.out (fun e => x5 e.symm), HM.out.but hbt (fun k hk e => x4 (e ▸ hk)), fun k hk => Nat.le_trans hsz (HF.out k hk), by omega, x2, by omega, x4, x5, (Below.and HB3.out HB4.out).trans (hbt.below (by have := HB4.out.size; omega) fun k hk => by omega)⟩
end Go.Proofs.YtpjlajkjknkbaaaGreatDoor
/- The chapter's rows, of the law: two walks over a root that is a leaf; conditions: geo.rooms is as laid. -/
namespace Go.Proofs.YtpjlajkjknkbaaaGreatDoor
open Go.RowKit
set_option linter.unusedVariables false
/-- What a caller has of an arena's one leaf. -/
structure AL (w : World) (g gl gr cl cr : Nat) (T : Int) (n : Nd) : Prop where
  lv : w.cell? ⟨g, 7, none⟩ = some (.slice (some ⟨gl, 0, none⟩) 1 cl)
  rw_ : w.cell? ⟨gl, 0, none⟩ = some (.slice (some ⟨gr, 0, none⟩) 1 cr)
  at_ : ∀ j u, (atV T n)[j]? = some u → w.cell? ⟨gr, j, none⟩ = some u
theorem AL.but {w w' : World} {g gl gr cl cr : Nat} {T : Int} {n : Nd} {fp : Nat → Prop} (h : AL w g gl gr cl cr T n) (hb : But w w' fp) (h1 : ¬ fp g) (h2 : ¬ fp gl) (h3 : ¬ fp gr) : AL w' g gl gr cl cr T n :=
  ⟨hb.cell h.lv h1, hb.cell h.rw_ h2, fun j u hu => hb.cell (h.at_ j u hu) h3⟩
theorem AL.low {w w' : World} {g gl gr cl cr : Nat} {T : Int} {n : Nd} (h : AL w g gl gr cl cr T n) (hb : Below w.heap.size w w') : AL w' g gl gr cl cr T n :=
  h.but (But.of_below hb fun _ => False) (fun e => e) (fun e => e) (fun e => e)
end Go.Proofs.YtpjlajkjknkbaaaGreatDoor
/- The arena of {5} as a memory: its words, a snapshot of its leaf, its value read; plain facts. -/
namespace Go.Proofs.YtpjlajkjknkbaaaGreatDoor
open Go.RowKit
set_option linter.unusedVariables false
/-- The memory of the arena of {5}. -/
def C15S : St := St.ofBytes (3072 / 64) ((List.range 3072).map C15F)
theorem c15_byt : BytF C15F := by
  have h := (b1_ok (n := 2) (by decide))
  have h2 := (bK_ok h [5] 1).1
  have h3 := (Ar.newNode_ok h2).1.byt
  have e : bK (b1 2) [5] 1 = C15A := c15A
  rw [e] at h3
  exact ((layK_byt h3 2112 C15N 24).put 16 2112)
theorem c15_view {j : Nat} (h : j < 384) : C15S.view.getD j 0 = wrdF C15F (8 * j) := by
  show (wordsK _ 3072 384).getD j 0 = _
  rw [List.getD_eq_getElem?_getD, wordsK_get h, pw_range C15F (by omega)]
  rfl
theorem c15_V {A : Nat} (h : A % 8 = 0) (h2 : A < 3072) : ldV C15S A = (wrdF C15F A : Int) ∧ ldK C15S A = 0 := by
  have hc : A % 8 = 0 ∧ A < 64 * C15S.nl := ⟨h, h2⟩
  unfold ldV ldK
  rw [if_pos hc, if_pos hc, c15_view (by omega), show 8 * (A / 8) = A by omega]
  exact ⟨rfl, rfl⟩
theorem c15Ok : okHeads ((List.range 3072).map C15F) 2 := by
  intro q hq
  have hl : ((List.range 3072).map C15F).length = 3072 := by simp
  unfold hcW hbW
  rw [hl, pw_range C15F (by omega), pw_range C15F (by omega)]
  obtain ⟨h1, h2, h3, h4⟩ := c15H
  rcases (by omega : q = 0 ∨ q = 1) with rfl | rfl
  · rw [show 8 * (128 * (0 + 1)) = 1024 from rfl, show 8 * (128 * (0 + 1) + 1) = 1032 from rfl, h1, h2]
    decide +kernel
  · rw [show 8 * (128 * (1 + 1)) = 2048 from rfl, show 8 * (128 * (1 + 1) + 1) = 2056 from rfl, h3, h4]
    decide +kernel
theorem c15_Lds : Lds C15S.nl 0 C15S := by
  refine ⟨rfl, ofBytes_Ok fun x hx => ?_, by show (List.replicate (3072 / 64) ([] : List (Nat × Nat))).length = 3072 / 64; exact List.length_replicate, fun j => ?_, by show (wordsK _ _ _).length = _; rw [wordsK_len]; rfl, Nat.le_refl _, Nat.le_refl _, Nat.le_refl _, Nat.le_refl _⟩
  · obtain ⟨j, _, rfl⟩ := List.mem_map.1 hx
    exact c15_byt j
  · show ((List.replicate 48 ([] : List (Nat × Nat))).getD j []).length ≤ 0
    rw [List.getD_eq_getElem?_getD, List.getElem?_replicate]
    split <;> simp
/-- What a snapshot of its leaf comes to. -/
theorem c15Snap : ∃ T S', 1 ≤ T ∧ T ≤ 60 ∧ Goes (ldV C15S) (ldK C15S) (SS.new 2112) T S' ∧ S'.d = true ∧ S'.k = 0 ∧ S'.n = C15N := by
  have hw : ∀ i, i < 24 → ldV C15S (snWordAt 2112 i) = wAt (wi C15N) i ∧ ldK C15S (snWordAt 2112 i) = 0 := fun i hi => by
    have e : snWordAt 2112 i = 2112 + 8 * i := by unfold snWordAt; rw [if_pos (by omega)]
    rw [e, ← c15Wrd i hi]
    exact c15_V (by omega) (by omega)
  have hw2 : wAt (wi C15N) 2 = 0 := rfl
  obtain ⟨T, S', t1, t2, hG, hd, hr⟩ := sn_alone (V := ldV C15S) (K := ldK C15S) (ldK_is _) 2112
  refine ⟨T, S', t1, t2, hG, hd, ?_⟩
  rcases hr with ⟨_, _, hb⟩ | ⟨e1, e2, e3, _⟩
  · exfalso
    rcases hb with ⟨k, hk, e⟩ | ⟨e, _⟩
    · rw [(hw k hk).2] at e
      cases e
    · rw [(hw 2 (by omega)).1, hw2] at e
      exact e rfl
  · have hR := ofR_full (x := wi C15N) (W := fun i => ldV C15S (snWordAt 2112 i)) (fun i hi => (hw i hi).1)
    have hv : isLv C15N = true := by decide
    rw [(wi_of C15N).2, if_pos hv] at hR
    rw [hR] at e1 e2
    exact ⟨e1, e2⟩
theorem c15Wk {w1 : World} {y1 : Lay} {gw n0 : Nat} {s : St} {lev : Int} {T : Nat} {S' : SS} (hf : ∀ k, y1.fp k → k < w1.heap.size) (hv : s.view = C15S.view ∧ s.nl = C15S.nl) (h0 : 0 ≤ lev) (h1 : lev ≤ 15) (t1 : 1 ≤ T) (hG : Goes (ldV C15S) (ldK C15S) (SS.new 2112) T S') (hd : S'.d = true) (hk : S'.k = 0) (hn : S'.n = C15N) (hnum : n0 + T ≤ 900000) :
    WkOk w1 y1 gw n0 s lev 2112 T C15N S' := by
  have e1 : ldV s = ldV C15S := by funext A; unfold ldV; rw [hv.1, hv.2]
  have e2 : ldK s = ldK C15S := by funext A; unfold ldK; rw [hv.2]
  refine ⟨hf, by rw [hv.2]; decide, h0, h1, ?_, ?_, by decide, fun A => ?_, by rw [e1, e2]; exact hG, hd, hk, hn, rfl, h0, t1, hnum⟩
  · rw [e1, (c15_V (A := 16) (by decide) (by decide)).1, c15Root]
  · rw [e2]; exact (c15_V (A := 16) (by decide) (by decide)).2
  · rw [e1]; exact ldV_in c15_Lds.ok A
theorem c15_get {j : Nat} (h : j < 384) : C15S.view.getD j 0 = wrdF C15F (8 * j) := c15_view h
theorem c15_vl : C15S.view.length = 8 * C15S.nl := by show (wordsK _ _ _).length = _; rw [wordsK_len]; rfl
theorem c15_nx0 : nxt C15S.view 1088 [] = ⟨[1], ⟨#[]⟩, false, 0⟩ := by
  have hv : C15S.view.getD (1088 / 8) 0 = 1 := by rw [c15_get (by decide)]; exact c15Val.1
  have hl : ldW C15S.view (1088 + 8 * ([] : List Nat).length) = some 1 := by
    unfold ldW
    rw [if_pos ⟨by decide, by rw [c15_vl]; decide⟩]
    exact congrArg some hv
  unfold nxt
  rw [hl]
  first
    | rfl
    | (show (_ : Nx) = _; kernel_rfl)
theorem c15_nx1 : nxt C15S.view 1088 [1] = ⟨[1, 53], ⟨#[53]⟩, true, 0⟩ := by
  have hv : C15S.view.getD (1096 / 8) 0 = 53 := by rw [c15_get (by decide)]; exact c15Val.2
  have hl : ldW C15S.view (1088 + 8 * [1].length) = some 53 := by
    unfold ldW
    rw [if_pos ⟨by decide, by rw [c15_vl]; decide⟩]
    exact congrArg some hv
  unfold nxt
  rw [hl]
  first
    | rfl
    | (show (_ : Nx) = _; kernel_rfl)
theorem c15_find5 : C15N.find 5 = some 0 := by decide +kernel
theorem c15_find6 : C15N.find 6 = none := by decide +kernel
end Go.Proofs.YtpjlajkjknkbaaaGreatDoor
/- A get's phases behind its walk: what stays of the memory under it; a get's step from a step of what is under way; who tells the answer; no conditions. -/
namespace Go.Proofs.YtpjlajkjknkbaaaGreatDoor
open Go.RowKit
set_option linter.unusedVariables false
/-- The memory under a get; K are the blocks that the get holds. -/
structure GB (w1 W : World) (y1 y : Lay) (g gw n : Nat) (K : Nat → Prop) (s : St) : Prop where
  mem : MemAt W y s
  yg : y.g = y1.g
  yf : ∀ k, y.fp k → y1.fp k ∨ w1.heap.size ≤ k
  kp : ∀ q, K q → ¬ y.fp q ∧ q < W.heap.size
  but : But w1 W (fun q => y1.fp q ∨ q = g ∨ q = gw)
  lds : Lds s.nl n s
/-- One primitive more at most, none of them a store. -/
structure OneS (s s' : St) : Prop where
  vw : s'.view = s.view
  nl : s'.nl = s.nl
  st : s'.st = s.st
  up : totS s ≤ totS s'
  one : totS s' ≤ totS s + 1
section
variable {w1 W W' : World} {y1 y y' : Lay} {g gw n n' : Nat} {K K' : Nat → Prop} {s s' : St}
theorem GB.below (h : GB w1 W y1 y g gw n K s) (hb : Below W.heap.size W W') : GB w1 W' y1 y g gw n K s :=
  ⟨h.mem.below hb, h.yg, h.yf, fun q hq => ⟨(h.kp q hq).1, Nat.lt_of_lt_of_le (h.kp q hq).2 hb.size⟩, h.but.trans (But.of_below hb (fun q => y1.fp q ∨ q = g ∨ q = gw)) fun q hq => .inl hq, h.lds⟩
theorem GB.turn (h : GB w1 W y1 y g gw n K s) (hm : MemAt W' y' s') (eg : y'.g = y.g) (ef : ∀ k, y'.fp k → y.fp k ∨ W.heap.size ≤ k) {fp : Nat → Prop} (hb : But W W' fp) (hfp : ∀ q, fp q → y.fp q ∨ q = g ∨ w1.heap.size ≤ q) (hl : Lds s'.nl n' s') : GB w1 W' y1 y' g gw n' K s' := by
  refine ⟨hm, eg.trans h.yg, fun k hk => ?_, fun q hq => ⟨fun hf => ?_, Nat.lt_of_lt_of_le (h.kp q hq).2 hb.size⟩, h.but.trans hb fun q hq => ?_, hl⟩
  · rcases ef k hk with h2 | h2
    · exact h.yf k h2
    · exact .inr (Nat.le_trans h.but.size h2)
  · rcases ef q hf with h2 | h2
    · exact (h.kp q hq).1 h2
    · have := (h.kp q hq).2
      omega
  · rcases hfp q hq with h2 | h2 | h2
    · rcases h.yf q h2 with h3 | h3
      · exact .inl (.inl h3)
      · exact .inr h3
    · exact .inl (.inr (.inl h2))
    · exact .inr h2
theorem GB.hold (h : GB w1 W y1 y g gw n K s) (hk : ∀ q, K' q → K q ∨ (¬ y.fp q ∧ q < W.heap.size)) : GB w1 W y1 y g gw n K' s :=
  ⟨h.mem, h.yg, h.yf, fun q hq => (hk q hq).elim (h.kp q) id, h.but, h.lds⟩
theorem GB.still (h : GB w1 W y1 y g gw n K s) {fp : Nat → Prop} (hb : But W W' fp) (hn : ∀ q, fp q → ¬ y.fp q) (hfp : ∀ q, fp q → q = g ∨ w1.heap.size ≤ q) : GB w1 W' y1 y g gw n K s :=
  h.turn (h.mem.but hb fun k hk hf => hn k hf hk) rfl (fun k hk => .inl hk) hb (fun q hq => .inr (hfp q hq)) h.lds
theorem GB.stats (h : GB w1 W y1 y g gw n K s) : StatsIs W y1.g s := by
  have := stats_yes h.mem
  rw [h.yg] at this
  exact this
theorem GB.fresh (h : GB w1 W y1 y g gw n K s) {q : Nat} (hq : W.heap.size ≤ q) : ¬ y.fp q := fun hf => by
  have := h.mem.lt q hf
  omega
theorem Lds.ldTo {nl : Nat} (h : Lds nl n s) (hn : n ≤ 1000000) {l : Nat} (hl : l ≤ s.ld + 1) : Lds nl (n + 1) { s with ld := l } :=
  ⟨h.nls, h.ok.ldTo (by have := h.num; omega), h.pl, fun j => Nat.le_succ_of_le (h.few j), h.vl, by have := h.num; show l ≤ _; omega, by have := h.num; show s.st ≤ _; omega, by have := h.num; show s.fl ≤ _; omega, by have := h.num; show s.fe ≤ _; omega⟩
theorem oneS_ld {l : Nat} (h1 : s.ld ≤ l) (h2 : l ≤ s.ld + 1) : OneS s { s with ld := l } :=
  ⟨rfl, rfl, rfl, by show s.ld + s.st + s.fl + s.fe ≤ l + s.st + s.fl + s.fe; omega, by show l + s.st + s.fl + s.fe ≤ s.ld + s.st + s.fl + s.fe + 1; omega⟩
theorem oneS_ldS (s : St) (A : Nat) : OneS s (ldS s A) := by
  obtain ⟨h1, h2, h3, h4, h5⟩ := ldS_num s A
  refine ⟨(ldS_vw s A).1, (ldS_vw s A).2, h1, ?_, ?_⟩
  · unfold totS; omega
  · unfold totS; omega
theorem oneS_flush (s : St) (c a : Nat) : OneS s (s.flush c a) :=
  ⟨rfl, rfl, rfl, by show s.ld + s.st + s.fl + s.fe ≤ s.ld + s.st + (s.fl + 1) + s.fe; omega, by show s.ld + s.st + (s.fl + 1) + s.fe ≤ s.ld + s.st + s.fl + s.fe + 1; omega⟩
theorem oneS_fence (s : St) (c : Nat) : OneS s (s.fence c) :=
  ⟨rfl, rfl, rfl, by show s.ld + s.st + s.fl + s.fe ≤ s.ld + s.st + s.fl + (s.fe + 1); omega, by show s.ld + s.st + s.fl + (s.fe + 1) ≤ s.ld + s.st + s.fl + s.fe + 1; omega⟩
end
theorem gt_more {w : World} {g gu t fS : Nat} {s : GF} {P : World → Prop} (h : GtAt w g s) (hun : s.un = .iface t (.pointer (some ⟨gu, 0, none⟩))) (hd : s.d = false) (hk : s.k = 0)
    (M1 : (method 382 t (.pointer (some ⟨gu, 0, none⟩)) "Step").run Tryz.prog w = .ok (fS, .pointer (some ⟨gu, 0, none⟩)) w)
    (hcall : ∀ (w : World) (v : Value), (callFunc fS #[v]).run Tryz.prog w = .ok (.enter fS #[v]) w)
    (HS : Calls Tryz.prog fS #[.pointer (some ⟨gu, 0, none⟩)] w fun e w' => e = .returned (.tuple #[.bool false, .int .i64 0]) ∧ P w')
    (hP : ∀ w', P w' → GtAt w' g s) (hb : ∀ W W', P W → Below W.heap.size W W' → P W') :
    Calls Tryz.prog 5 #[.pointer (some ⟨g, 0, none⟩)] w fun e w' => e = .returned (.tuple #[.bool false, .int .i64 0]) ∧ P w' := by
  refine (gtStep_of (R := fun w' _ => P w') (D := false) (k := 0) h hun hd ((gtGoOn_more h hun M1 hcall HS).mono (by
    rintro e w' ⟨rfl, hp⟩
    exact ⟨rfl, s, hP _ hp, hd, hk, hp⟩))).mono ?_
  rintro e w' ⟨rfl, w1, s', hp, _, hbl⟩
  exact ⟨rfl, hb _ _ hp hbl⟩
theorem gt_then {w : World} {g gu t fS fT : Nat} {s : GF} {D : Bool} {Q P : World → Prop} (h : GtAt w g s) (hun : s.un = .iface t (.pointer (some ⟨gu, 0, none⟩))) (hd : s.d = false) (hth : s.th = nextV fT g)
    (M1 : (method 382 t (.pointer (some ⟨gu, 0, none⟩)) "Step").run Tryz.prog w = .ok (fS, .pointer (some ⟨gu, 0, none⟩)) w)
    (hcall : ∀ (w : World) (v : Value), (callFunc fS #[v]).run Tryz.prog w = .ok (.enter fS #[v]) w)
    (hcallT : ∀ (w : World) (v u : Value), (callFunc fT #[v, u]).run Tryz.prog w = .ok (.enter fT #[v, u]) w)
    (HS : Calls Tryz.prog fS #[.pointer (some ⟨gu, 0, none⟩)] w fun e w' => e = .returned (.tuple #[.bool true, .int .i64 0]) ∧ Q w')
    (hQ : ∀ w', Q w' → GtAt w' g s)
    (HT : ∀ w', Q w' → Calls Tryz.prog fT #[.pointer (some ⟨g, 0, none⟩), .int .i64 0] w' fun e w' => e = .returned (.int .i64 0) ∧ P w')
    (hP : ∀ w', P w' → ∃ s', GtAt w' g s' ∧ s'.d = D ∧ s'.k = 0) (hb : ∀ W W', P W → Below W.heap.size W W' → P W') :
    Calls Tryz.prog 5 #[.pointer (some ⟨g, 0, none⟩)] w fun e w' => e = .returned (.tuple #[.bool D, .int .i64 0]) ∧ P w' := by
  refine (gtStep_of (R := fun w' _ => P w') (D := D) (k := 0) h hun hd ((gtGoOn_then h hun M1 hcall hcallT HS (fun w' hq => by
    have h4 : w'.cell? ⟨g, 4, none⟩ = some s.th := Row.cell (hQ w' hq) 4
    rw [hth] at h4
    exact h4) HT).mono (by
    rintro e w' ⟨rfl, hp⟩
    obtain ⟨s', h1, h2, h3⟩ := hP _ hp
    exact ⟨rfl, s', h1, h2, h3, hp⟩))).mono ?_
  rintro e w' ⟨rfl, w1, s', hp, _, hbl⟩
  exact ⟨rfl, hb _ _ hp hbl⟩
/-- What is told behind all: of the blocks KT, in which TK holds. -/
structure Teller (g : Nat) (tl : Value) (KT : Nat → Prop) (TK : World → Prop) (rc : Int) (rv : ByteArray) : Prop where
  but : ∀ W W' fp, TK W → But W W' fp → (∀ q, KT q → ¬ fp q) → TK W'
  lt : ∀ W q, TK W → KT q → q < W.heap.size
  does : ∀ W s, TK W → GtAt W g s → s.tl = tl → Calls Tryz.prog 44 #[.pointer (some ⟨g, 0, none⟩), .int .i64 0] W fun e w' => e = .returned (.int .i64 0) ∧ GtAt w' g { s with d := true, rc := rc, rv := rv, rp := .slice none 0 0 } ∧ But W w' (fun q => q = g)
theorem teller_none (g : Nat) : Teller g (.func (.func 24) #[] #[]) (fun _ => False) (fun _ => True) 5 ⟨#[]⟩ :=
  ⟨fun _ _ _ _ _ _ => trivial, fun _ _ _ h => h.elim, fun W s _ h ht => gtLasted_N (gb := 0) h ht (gtNone_any W)⟩
/-- A read that is done, and the block that names it. -/
structure TellAt (m : Option Addr) (gb gr b f : Nat) (V : Value) (ws : List Nat) (S : ByteArray) (W : World) : Prop where
  rb : Row W gb 81 #[.pointer (some ⟨gr, 0, none⟩)]
  rd : RdAt W gr gr b m f ws S true 0 V
theorem teller_found {g gb gr b f : Nat} {m : Option Addr} {V : Value} {ws : List Nat} {S : ByteArray} :
    Teller g (.func (.func 27) #[] #[.pointer (some ⟨gb, 0, none⟩)]) (fun q => q = gb ∨ q = gr ∨ V.ownBlock = some q) (TellAt m gb gr b f V ws S) 0 S := by
  refine ⟨fun W W' fp h hb hn => ⟨hb.row h.rb (hn _ (.inl rfl)), hb.row h.rd.row (hn _ (.inr (.inl rfl))), ownS_below h.rd.own fun q hq => hb.block q (h.rd.own.lt q hq).2 (hn q (.inr (.inr hq))), h.rd.gB⟩, fun W q h hq => ?_, fun W s h hg ht => gtLasted_T (gb := gb) hg ht (gtTell_any (Row.cell h.rb 0) fun W2 hb2 => vValue_done (h.rd.below hb2))⟩
  rcases hq with rfl | rfl | hq
  · exact h.rb.lt
  · exact h.rd.row.lt
  · exact (h.rd.own.lt q hq).2
end Go.Proofs.YtpjlajkjknkbaaaGreatDoor
/- A get that reads a value: its steps, and the one behind which the look begins; conditions: nobody stores. -/
namespace Go.Proofs.YtpjlajkjknkbaaaGreatDoor
open Go.RowKit
set_option linter.unusedVariables false
def gfV (si : Option Addr) (cl key : Int) (g gw a gb gr gq : Nat) : GF := { GF.new si cl key g gw with at_ := (a : Int), st := .pointer (some ⟨gq, 0, none⟩), tl := .func (.func 27) #[] #[.pointer (some ⟨gb, 0, none⟩)], un := .iface 81 (.pointer (some ⟨gr, 0, none⟩)), th := nextV 29 g }
def gfS (si : Option Addr) (cl key : Int) (g gw a gb gr gq : Nat) : GF := { gfV si cl key g gw a gb gr gq with un := .iface 29 (.pointer (some ⟨gq, 0, none⟩)), th := nextV 48 g }
/-- A value is read. -/
structure PV (w1 W : World) (y1 y : Lay) (g gw n a b : Nat) (N : Nd) (gf : GF) (gb gr gq f : Nat) (V : Value) (ws : List Nat) (s : St) : Prop where
  me : GB w1 W y1 y g gw n (fun q => q = g ∨ q = gb ∨ q = gr ∨ q = gq) s
  gt : GtAt W g gf
  rd : RdAt W gr gr b (some ⟨y1.g, 0, none⟩) f ws ⟨#[]⟩ false 0 V
  fok : FOk f ws
  rb : Row W gb 81 #[.pointer (some ⟨gr, 0, none⟩)]
  rq : Row W gq 118 (stC (some ⟨y1.g, 0, none⟩) (nextV 46 gq) false 0 a N.nx N.ct 0 0)
  sep : Sep y gr
  ne : gb ≠ gr ∧ gq ≠ gb ∧ gq ≠ gr ∧ g < gb ∧ g < gr ∧ g < gq
  new : w1.heap.size ≤ gb ∧ w1.heap.size ≤ gr ∧ w1.heap.size ≤ gq
/-- A value was read. -/
structure PSb (w1 W : World) (y1 y : Lay) (g gw n a b : Nat) (gf : GF) (gb gr gq f : Nat) (V : Value) (ws : List Nat) (S : ByteArray) (s : St) : Prop where
  me : GB w1 W y1 y g gw n (fun q => q = g ∨ q = gb ∨ q = gr ∨ q = gq ∨ V.ownBlock = some q) s
  gt : GtAt W g gf
  tk : TellAt (some ⟨y1.g, 0, none⟩) gb gr b f V ws S W
  ne : gb ≠ gr ∧ gq ≠ gb ∧ gq ≠ gr ∧ g < gb ∧ g < gr ∧ g < gq
  new : w1.heap.size ≤ gb ∧ w1.heap.size ≤ gr ∧ w1.heap.size ≤ gq
  vq : V.ownBlock ≠ some gq
section
variable {w1 W W' : World} {y1 y : Lay} {g gw n a b gb gr gq f : Nat} {N : Nd} {gf : GF} {V : Value} {ws : List Nat} {S : ByteArray} {s : St}
theorem PV.below (h : PV w1 W y1 y g gw n a b N gf gb gr gq f V ws s) (hb : Below W.heap.size W W') : PV w1 W' y1 y g gw n a b N gf gb gr gq f V ws s :=
  ⟨h.me.below hb, h.gt.below hb, h.rd.below hb, h.fok, h.rb.below hb h.rb.lt, h.rq.below hb h.rq.lt, h.sep, h.ne, h.new⟩
theorem PV.out (h : PV w1 W y1 y g gw n a b N gf gb gr gq f V ws s) : (∀ q, vrF y gr V q → y.fp q ∨ q = g ∨ w1.heap.size ≤ q) ∧ ¬ vrF y gr V g ∧ ¬ vrF y gr V gb ∧ ¬ vrF y gr V gq := by
  obtain ⟨n1, n2, n3, n4, n5, n6⟩ := h.ne
  refine ⟨fun q hq => ?_, fun hq => ?_, fun hq => ?_, fun hq => ?_⟩
  · rcases hq with h1 | rfl | h1
    · exact .inl h1
    · exact .inr (.inr h.new.2.1)
    · exact .inr (.inr (Nat.le_trans h.new.2.1 (h.rd.own.lt q h1).1))
  · rcases hq with h1 | h1 | h1
    · exact (h.me.kp _ (.inl rfl)).1 h1
    · omega
    · have := (h.rd.own.lt g h1).1
      omega
  · rcases hq with h1 | h1 | h1
    · exact (h.me.kp _ (.inr (.inl rfl))).1 h1
    · exact n1 h1
    · exact own_ne h.rd.own h.rb (by decide) h1.symm
  · rcases hq with h1 | h1 | h1
    · exact (h.me.kp _ (.inr (.inr (.inr rfl)))).1 h1
    · exact n3 h1
    · exact own_ne h.rd.own h.rq (by decide) h1.symm
theorem PV.step (h : PV w1 W y1 y g gw n a b N gf gb gr gq f V ws s) (hR : RdOk s.view b ws) (hb : b < 18446744073709551616) (hn : n ≤ 1000000) {r : Nx} (hr : nxt s.view b ws = r) (hS : r.S = ⟨#[]⟩) (hd : r.d = false) (hk : r.k = 0) (hne : r.ws ≠ []) :
    Calls Tryz.prog 194 #[.pointer (some ⟨gr, 0, none⟩)] W fun e w' => e = .returned (.tuple #[.bool false, .int .i64 0]) ∧ ∃ f' V' s', OneS s s' ∧ PV w1 w' y1 y g gw (n + 1) a b N gf gb gr gq f' V' r.ws s' := by
  have hrd := h.rd
  rw [← h.me.yg] at hrd
  obtain ⟨o1, o2, o3, o4⟩ := h.out
  refine (vstep_any h.me.mem h.me.lds.ok hrd h.fok h.sep hR h.me.lds.vl hb).mono ?_
  rintro e w' ⟨he, f', V', l, h1, h2, h3, h4, h5, h6, h7⟩
  rw [hr] at he h4 h5
  rw [hd, hk] at he
  rw [hS, hd, hk, h.me.yg] at h5
  exact ⟨he, f', V', _, oneS_ld h1 h2, h.me.turn h6 rfl (fun k hk => .inl hk) h7 o1 (h.me.lds.ldTo hn h2), h.gt.but h7 o2, h5, .inr ⟨hne, h4 hd⟩, h7.row h.rb o3, h7.row h.rq o4, h.sep, h.ne, h.new⟩
theorem PV.last (h : PV w1 W y1 y g gw n a b N gf gb gr gq f V ws s) (hR : RdOk s.view b ws) (hb : b < 18446744073709551616) (hn : n ≤ 1000000) {r : Nx} (hr : nxt s.view b ws = r) (hd : r.d = true) (hk : r.k = 0) :
    Calls Tryz.prog 194 #[.pointer (some ⟨gr, 0, none⟩)] W fun e w' => e = .returned (.tuple #[.bool true, .int .i64 0]) ∧ ∃ f' V' s', OneS s s' ∧ PSb w1 w' y1 y g gw (n + 1) a b gf gb gr gq f' V' r.ws r.S s' ∧ Row w' gq 118 (stC (some ⟨y1.g, 0, none⟩) (nextV 46 gq) false 0 a N.nx N.ct 0 0) := by
  have hrd := h.rd
  rw [← h.me.yg] at hrd
  obtain ⟨o1, o2, o3, o4⟩ := h.out
  refine (vstep_any h.me.mem h.me.lds.ok hrd h.fok h.sep hR h.me.lds.vl hb).mono ?_
  rintro e w' ⟨he, f', V', l, h1, h2, h3, h4, h5, h6, h7⟩
  rw [hr] at he h5
  rw [hd, hk] at he
  rw [hd, hk, h.me.yg] at h5
  have hrq := h7.row h.rq o4
  have hB := h.me.turn h6 rfl (fun k hk => .inl hk) h7 o1 (h.me.lds.ldTo hn h2)
  refine ⟨he, f', V', _, oneS_ld h1 h2, ⟨hB.hold fun q hq => ?_, h.gt.but h7 o2, ⟨h7.row h.rb o3, h5⟩, h.ne, h.new, fun e => own_ne h5.own hrq (by decide) e.symm⟩, hrq⟩
  rcases hq with hq | hq | hq | hq | hq
  · exact .inl (.inl hq)
  · exact .inl (.inr (.inl hq))
  · exact .inl (.inr (.inr (.inl hq)))
  · exact .inl (.inr (.inr (.inr hq)))
  · refine .inr ⟨fun hf => ?_, (h5.own.lt q hq).2⟩
    have h8 := h.sep q hf
    have h9 := (h5.own.lt q hq).1
    omega
theorem PSb.below (h : PSb w1 W y1 y g gw n a b gf gb gr gq f V ws S s) (hb : Below W.heap.size W W') : PSb w1 W' y1 y g gw n a b gf gb gr gq f V ws S s :=
  ⟨h.me.below hb, h.gt.below hb, ⟨h.tk.rb.below hb h.tk.rb.lt, h.tk.rd.below hb⟩, h.ne, h.new, h.vq⟩
/-- The get's own row is turned. -/
theorem PSb.own (h : PSb w1 W y1 y g gw n a b gf gb gr gq f V ws S s) {gf' : GF} (hg : GtAt W' g gf') (hb : But W W' (fun q => q = g)) : PSb w1 W' y1 y g gw n a b gf' gb gr gq f V ws S s := by
  obtain ⟨n1, n2, n3, n4, n5, n6⟩ := h.ne
  refine ⟨h.me.still hb (fun q e => by rw [e]; exact (h.me.kp _ (.inl rfl)).1) fun q e => .inl e, hg, teller_found (g := g).but _ _ _ h.tk hb fun q hq e => ?_, h.ne, h.new, h.vq⟩
  subst e
  rcases hq with hq | hq | hq
  · omega
  · omega
  · have := (h.tk.rd.own.lt _ hq).1
    omega
/-- The look's row is turned. -/
theorem PSb.look (h : PSb w1 W y1 y g gw n a b gf gb gr gq f V ws S s) (hb : But W W' (fun q => q = gq)) : PSb w1 W' y1 y g gw n a b gf gb gr gq f V ws S s := by
  obtain ⟨n1, n2, n3, n4, n5, n6⟩ := h.ne
  refine ⟨h.me.still hb (fun q e => by rw [e]; exact (h.me.kp _ (.inr (.inr (.inr (.inl rfl))))).1) (fun q e => .inr (by rw [e]; exact h.new.2.2)), h.gt.but hb (fun e => by omega), teller_found (g := g).but _ _ _ h.tk hb fun q hq e => ?_, h.ne, h.new, h.vq⟩
  subst e
  rcases hq with hq | hq | hq
  · exact n2 hq
  · exact n3 hq
  · exact h.vq hq
theorem PSb.load (h : PSb w1 W y1 y g gw n a b gf gb gr gq f V ws S s) (hn : n ≤ 1000000) {cs : Array Value} (hq : Row W gq 118 cs) (A : Nat) :
    Calls Tryz.prog 35 #[.pointer (some ⟨y1.g, 0, none⟩), .int .u64 (A : Int)] W fun e w' => e = .returned (.tuple #[.int .u64 (ldV s A), .int .i64 (ldK s A)]) ∧ LQt gq 118 cs (fun w' => ∃ y' s', OneS s s' ∧ s' = ldS s A ∧ PSb w1 w' y1 y' g gw (n + 1) a b gf gb gr gq f V ws S s') w' := by
  have hl := load_any h.me.mem h.me.lds.ok A
  rw [h.me.yg] at hl
  refine hl.mono ?_
  rintro e w' ⟨he, y', hm, ht⟩
  have hk := h.me.kp
  have hlds : Lds (ldS s A).nl (n + 1) (ldS s A) := by
    rw [(ldS_vw s A).2]
    exact h.me.lds.load hn A
  refine ⟨he, ht.but.row hq (hk _ (.inr (.inr (.inr (.inl rfl))))).1, y', _, oneS_ldS s A, rfl, ⟨h.me.turn hm ht.g ht.fp ht.but (fun q hq => .inl hq) hlds, h.gt.but ht.but (hk _ (.inl rfl)).1, teller_found (g := g).but _ _ _ h.tk ht.but fun q hq => ?_, h.ne, h.new, h.vq⟩⟩
  rcases hq with hq | hq | hq
  · exact (hk _ (.inr (.inl hq))).1
  · exact (hk _ (.inr (.inr (.inl hq)))).1
  · exact (hk _ (.inr (.inr (.inr (.inr hq))))).1
end
end Go.Proofs.YtpjlajkjknkbaaaGreatDoor
/- A get that looks whether the leaf is as it was: its two steps, and what stands behind; conditions: nobody stores. -/
namespace Go.Proofs.YtpjlajkjknkbaaaGreatDoor
open Go.RowKit
set_option linter.unusedVariables false
theorem callStNext : ∀ (w : World) (v : Value), (callFunc 46 #[v]).run Tryz.prog w = .ok (.enter 46 #[v]) w := fun w v => enters_of Tryz.func46 (by kernel_rfl) rfl #[v] w
theorem callStCount : ∀ (w : World) (v : Value), (callFunc 72 #[v]).run Tryz.prog w = .ok (.enter 72 #[v]) w := fun w v => enters_of Tryz.func72 (by kernel_rfl) rfl #[v] w
section
variable {w1 W W' : World} {y1 y : Lay} {g gw n a b gb gr gq f : Nat} {gf : GF} {V : Value} {ws : List Nat} {S : ByteArray} {s : St} {nx ct : Int}
theorem still_next (h : PSb w1 W y1 y g gw n a b gf gb gr gq f V ws S s) (hn : n ≤ 1000000) (ha : a < 18446744073709551616)
    (hq : Row W gq 118 (stC (some ⟨y1.g, 0, none⟩) (nextV 46 gq) false 0 a nx ct 0 0)) (hv : ldV s (snWordAt a 2) = nx) (hk : ldK s (snWordAt a 2) = 0) :
    Calls Tryz.prog 190 #[.pointer (some ⟨gq, 0, none⟩)] W fun e w' => e = .returned (.tuple #[.bool false, .int .i64 0]) ∧ ∃ y' s', (OneS s s' ∧ s' = ldS s (snWordAt a 2) ∧ PSb w1 w' y1 y' g gw (n + 1) a b gf gb gr gq f V ws S s') ∧ Row w' gq 118 (stC (some ⟨y1.g, 0, none⟩) (nextV 72 gq) false 0 a nx ct nx 0) := by
  have hm := mac_of (g := gq) (f := 46) (t := 118) (d' := false) (D := false) (kk := 0) callStNext hq rfl rfl rfl (stNext_any (P := fun w' => ∃ y' s', OneS s s' ∧ s' = ldS s (snWordAt a 2) ∧ PSb w1 w' y1 y' g gw (n + 1) a b gf gb gr gq f V ws S s') (v := nx) (kk := 0) hq ha (fun W2 hb2 => by
    have hl := (h.below hb2).load hn (hq.below hb2 hq.lt) (snWordAt a 2)
    rw [hv, hk] at hl
    exact hl))
  refine stStep_of (hm.mono ?_)
  rintro e w' ⟨rfl, w2, cs1, ⟨rfl, w3, ⟨y', s', h1, h2, h3⟩, hb3⟩, hrow, hb2⟩
  exact ⟨rfl, y', s', ⟨h1, h2, (h3.look hb3).look hb2⟩, hrow⟩
theorem still_count (h : PSb w1 W y1 y g gw n a b gf gb gr gq f V ws S s) (hn : n ≤ 1000000) (ha : a < 18446744073709551616)
    (hq : Row W gq 118 (stC (some ⟨y1.g, 0, none⟩) (nextV 72 gq) false 0 a nx ct nx 0)) (hv : ldV s (snWordAt a 3) = ct) (hk : ldK s (snWordAt a 3) = 0) :
    Calls Tryz.prog 190 #[.pointer (some ⟨gq, 0, none⟩)] W fun e w' => e = .returned (.tuple #[.bool true, .int .i64 0]) ∧ ∃ y' s', (OneS s s' ∧ s' = ldS s (snWordAt a 3) ∧ PSb w1 w' y1 y' g gw (n + 1) a b gf gb gr gq f V ws S s') ∧ Row w' gq 118 (stC (some ⟨y1.g, 0, none⟩) (nextV 72 gq) true 0 a nx ct nx ct) := by
  have hm := mac_of (g := gq) (f := 72) (t := 118) (d' := true) (D := true) (kk := 0) callStCount hq rfl rfl rfl (stCount_any (P := fun w' => ∃ y' s', OneS s s' ∧ s' = ldS s (snWordAt a 3) ∧ PSb w1 w' y1 y' g gw (n + 1) a b gf gb gr gq f V ws S s') (v := ct) (kk := 0) hq ha (fun W2 hb2 => by
    have hl := (h.below hb2).load hn (hq.below hb2 hq.lt) (snWordAt a 3)
    rw [hv, hk] at hl
    exact hl))
  refine stStep_of (hm.mono ?_)
  rintro e w' ⟨rfl, w2, cs1, ⟨rfl, w3, ⟨y', s', h1, h2, h3⟩, hb3⟩, hrow, hb2⟩
  exact ⟨rfl, y', s', ⟨h1, h2, (h3.look hb3).look hb2⟩, hrow⟩
/-- The look's answer. -/
theorem still_same (hq : Row W gq 118 (stC (some ⟨y1.g, 0, none⟩) (nextV 72 gq) true 0 a nx ct nx ct)) (hb : PSb w1 W y1 y g gw n a b gf gb gr gq f V ws S s) :
    Calls Tryz.prog 74 #[.pointer (some ⟨gq, 0, none⟩)] W fun e w' => e = .returned (.bool true) ∧ Below W.heap.size W w' :=
  stSame_yes hq fun W2 hb2 => by
    have hz := size_is (hb.me.mem.below hb2)
    rw [hb.me.yg] at hz
    exact snRefusal_any (hq.below hb2 hq.lt) rfl rfl rfl rfl (hz _ (Below.refl _ _))
end
end Go.Proofs.YtpjlajkjknkbaaaGreatDoor
/- A get that lets the leaf's lines last: its steps, and what stands behind; conditions: nobody stores. -/
namespace Go.Proofs.YtpjlajkjknkbaaaGreatDoor
open Go.RowKit
set_option linter.unusedVariables false
theorem callLaFlush : ∀ (w : World) (v : Value), (callFunc 101 #[v]).run Tryz.prog w = .ok (.enter 101 #[v]) w := fun w v => enters_of Tryz.func101 (by kernel_rfl) rfl #[v] w
theorem callLaFence : ∀ (w : World) (v : Value), (callFunc 102 #[v]).run Tryz.prog w = .ok (.enter 102 #[v]) w := fun w v => enters_of Tryz.func102 (by kernel_rfl) rfl #[v] w
/-- Lines are made to last. -/
structure PL (w1 W : World) (y1 y : Lay) (g gw n c : Nat) (gf : GF) (gl : Nat) (V : Value) (l : List Nat) (KT : Nat → Prop) (TK : World → Prop) (s : St) : Prop where
  me : GB w1 W y1 y g gw n (fun q => q = g ∨ q = gl ∨ KT q ∨ (l ≠ [] ∧ V.ownBlock = some q)) s
  gt : GtAt W g gf
  rl : Row W gl 150 (laC (some ⟨y1.g, 0, none⟩) (laF l gl) false 0 (c : Int) V)
  ah : AhA W V l
  tk : TK W
  ne : g ≠ gl ∧ ¬ KT g ∧ ¬ KT gl
  vn : l ≠ [] → ∀ q, V.ownBlock = some q → q ≠ gl
  new : w1.heap.size ≤ gl
/-- Lines that have lasted. -/
structure PD (w1 W : World) (y1 y : Lay) (g gw n : Nat) (gf : GF) (KT : Nat → Prop) (TK : World → Prop) (s : St) : Prop where
  me : GB w1 W y1 y g gw n (fun q => q = g ∨ KT q) s
  gt : GtAt W g gf
  tk : TK W
  ne : ¬ KT g
section
variable {w1 W W' : World} {y1 y : Lay} {g gw n c gl : Nat} {gf : GF} {V tl : Value} {l t : List Nat} {KT : Nat → Prop} {TK : World → Prop} {s : St} {rc : Int} {rv : ByteArray}
theorem PL.below (T : Teller g tl KT TK rc rv) (h : PL w1 W y1 y g gw n c gf gl V l KT TK s) (hb : Below W.heap.size W W') : PL w1 W' y1 y g gw n c gf gl V l KT TK s :=
  ⟨h.me.below hb, h.gt.below hb, h.rl.below hb h.rl.lt, h.ah.below hb, T.but _ _ _ h.tk (But.of_below hb fun _ => False) (fun _ _ e => e), h.ne, h.vn, h.new⟩
theorem PD.below (T : Teller g tl KT TK rc rv) (h : PD w1 W y1 y g gw n gf KT TK s) (hb : Below W.heap.size W W') : PD w1 W' y1 y g gw n gf KT TK s :=
  ⟨h.me.below hb, h.gt.below hb, T.but _ _ _ h.tk (But.of_below hb fun _ => False) (fun _ _ e => e), h.ne⟩
/-- Its own row is turned. -/
theorem PL.last (T : Teller g tl KT TK rc rv) (h : PL w1 W y1 y g gw n c gf gl V l KT TK s) (hb : But W W' (fun q => q = gl)) (hr : Row W' gl 150 (laC (some ⟨y1.g, 0, none⟩) (laF l gl) false 0 (c : Int) V)) : PL w1 W' y1 y g gw n c gf gl V l KT TK s := by
  refine ⟨h.me.still hb (fun q e => by rw [e]; exact (h.me.kp _ (.inr (.inl rfl))).1) (fun q e => .inr (by rw [e]; exact h.new)), h.gt.but hb h.ne.1, hr, ?_, T.but _ _ _ h.tk hb (fun q hq e => h.ne.2.2 (e ▸ hq)), h.ne, h.vn, h.new⟩
  by_cases h0 : l = []
  · rcases h.ah with h1 | ⟨h1, _⟩
    · exact .inl h1
    · exact absurd h0 h1
  · exact h.ah.same fun k hk => hb.block k (h.ah.lt h0 hk) (h.vn h0 k hk)
theorem last_flush (T : Teller g tl KT TK rc rv) {x : Nat} (h : PL w1 W y1 y g gw n c gf gl V (x :: t) KT TK s) (hn : n ≤ 1000000) (hc : c ≤ 64) (h8 : x % 8 = 0) (h64 : x < 64 * s.nl) :
    Calls Tryz.prog 196 #[.pointer (some ⟨gl, 0, none⟩)] W fun e w' => e = .returned (.tuple #[.bool false, .int .i64 0]) ∧ ∃ y' V' s', OneS s s' ∧ s' = s.flush c x ∧ PL w1 w' y1 y' g gw (n + 1) c gf gl V' t KT TK s' := by
  have hF : laF (x :: t) gl = nextV 101 gl := by unfold laF; rw [if_neg (by simp)]
  have hrl := h.rl
  rw [hF] at hrl
  have hrl2 := hrl
  rw [← h.me.yg] at hrl2
  have hkp := h.me.kp
  have hfl := laFlush_any h.me.mem h.me.lds.ok hrl2 h.ah (hkp _ (.inr (.inl rfl))).1 (fun q hq => ⟨(hkp q (.inr (.inr (.inr ⟨by simp, hq⟩)))).1, h.vn (by simp) q hq⟩) hc h8 h64
  have hm := mac_of (g := gl) (f := 101) (t := 150) (d' := false) (D := false) (kk := 0) (R := fun w2 cs1 => ∃ y' V' s', OneS s s' ∧ s' = s.flush c x ∧ PL w1 w2 y1 y' g gw (n + 1) c gf gl V' t KT TK s' ∧ cs1 = laC (some ⟨y1.g, 0, none⟩) (laF t gl) false 0 (c : Int) V') callLaFlush hrl rfl rfl rfl (hfl.mono (by
    rintro e w2 ⟨he, y', V', hm2, hr2, ha2, hv2, ht2⟩
    rw [h.me.yg] at hr2
    refine ⟨he, _, 0, hr2, rfl, rfl, y', V', _, oneS_flush s c x, rfl, ⟨(h.me.turn (n' := n + 1) hm2 ht2.g ht2.fp ht2.but (fun q hq => hq.imp id fun e => .inr (by rw [e]; exact h.new)) (h.me.lds.flush hn c x)).hold fun q hq => ?_, h.gt.but ht2.but (fun e => e.elim (hkp _ (.inl rfl)).1 h.ne.1), hr2, ha2, T.but _ _ _ h.tk ht2.but fun q hq e => e.elim (hkp q (.inr (.inr (.inl hq)))).1 fun e => h.ne.2.2 (e ▸ hq), h.ne, fun h0 q hq => ?_, h.new⟩, rfl⟩
    · rcases hq with hq | hq | hq | ⟨h0, hq⟩
      · exact .inl (.inl hq)
      · exact .inl (.inr (.inl hq))
      · exact .inl (.inr (.inr (.inl hq)))
      · rw [hv2 h0] at hq
        exact .inl (.inr (.inr (.inr ⟨by simp, hq⟩)))
    · rw [hv2 h0] at hq
      exact h.vn (by simp) q hq))
  refine laStep_of (hm.mono ?_)
  rintro e w' ⟨rfl, w2, cs1, ⟨y', V', s', h1, h2, h3, rfl⟩, hrow, hb2⟩
  exact ⟨rfl, y', V', s', h1, h2, h3.last T hb2 hrow⟩
theorem last_fence (T : Teller g tl KT TK rc rv) (h : PL w1 W y1 y g gw n c gf gl V [] KT TK s) (hn : n ≤ 1000000) (hc : c ≤ 64) :
    Calls Tryz.prog 196 #[.pointer (some ⟨gl, 0, none⟩)] W fun e w' => e = .returned (.tuple #[.bool true, .int .i64 0]) ∧ ∃ y' s', OneS s s' ∧ s' = s.fence c ∧ PD w1 w' y1 y' g gw (n + 1) gf KT TK s' := by
  have hrl := h.rl
  have hF : laF [] gl = nextV 102 gl := by unfold laF; rw [if_pos rfl]
  rw [hF] at hrl
  have hrl2 := hrl
  rw [← h.me.yg] at hrl2
  have hkp := h.me.kp
  have hfl := laFence_any h.me.mem h.me.lds.ok hrl2 (hkp _ (.inr (.inl rfl))).1 hc (by have := h.me.lds.num; omega)
  have hm := mac_of (g := gl) (f := 102) (t := 150) (d' := true) (D := true) (kk := 0) (R := fun w2 cs1 => ∃ y' s', OneS s s' ∧ s' = s.fence c ∧ PD w1 w2 y1 y' g gw (n + 1) gf KT TK s' ∧ ¬ y'.fp gl) callLaFence hrl rfl rfl rfl (hfl.mono (by
    rintro e w2 ⟨he, y', hm2, hr2, ht2⟩
    have hB := h.me.turn (n' := n + 1) hm2 ht2.g ht2.fp ht2.but (fun q hq => hq.imp id fun e => .inr (by rw [e]; exact h.new)) (h.me.lds.fence hn c)
    refine ⟨he, _, 0, hr2, rfl, rfl, y', _, oneS_fence s c, rfl, ⟨hB.hold fun q hq => .inl (hq.imp id fun e => .inr (.inl e)), h.gt.but ht2.but (fun e => e.elim (hkp _ (.inl rfl)).1 h.ne.1), T.but _ _ _ h.tk ht2.but fun q hq e => e.elim (hkp q (.inr (.inr (.inl hq)))).1 fun e => h.ne.2.2 (e ▸ hq), h.ne.2.1⟩, (hB.kp _ (.inr (.inl rfl))).1⟩))
  refine laStep_of (hm.mono ?_)
  rintro e w' ⟨rfl, w2, cs1, ⟨y', s', h1, h2, h3, h4⟩, hrow, hb2⟩
  exact ⟨rfl, y', s', h1, h2, ⟨h3.me.still hb2 (fun q e => by rw [e]; exact h4) (fun q e => .inr (by rw [e]; exact h.new)), h3.gt.but hb2 h.ne.1, T.but _ _ _ h3.tk hb2 (fun q hq e => h.ne.2.2 (e ▸ hq)), h3.ne⟩⟩
/-- The answer is told. -/
theorem last_told (T : Teller g tl KT TK rc rv) (h : PD w1 W y1 y g gw n gf KT TK s) (ht : gf.tl = tl) :
    Calls Tryz.prog 44 #[.pointer (some ⟨g, 0, none⟩), .int .i64 0] W fun e w' => e = .returned (.int .i64 0) ∧ PD w1 w' y1 y g gw n { gf with d := true, rc := rc, rv := rv, rp := .slice none 0 0 } KT TK s := by
  refine (T.does W gf h.tk h.gt ht).mono ?_
  rintro e w' ⟨rfl, hg, hb⟩
  exact ⟨rfl, h.me.still hb (fun q e => by rw [e]; exact (h.me.kp _ (.inl rfl)).1) (fun q e => .inl e), hg, T.but _ _ _ h.tk hb (fun q hq e => h.ne (e ▸ hq)), h.ne⟩
end
end Go.Proofs.YtpjlajkjknkbaaaGreatDoor
/- A get's whole: of whatever leads to its end in so many steps; no conditions. -/
namespace Go.Proofs.YtpjlajkjknkbaaaGreatDoor
open Go.RowKit
set_option linter.unusedVariables false
attribute [local go_sem] Oper.semAt_some
set_option maxRecDepth 100000 in
set_option maxHeartbeats 3200000 in
theorem stepE_any {w : World} {gm gg : Nat} {s : St} {D : Bool} {Q : St → World → Prop} (h : StatsIs w gm s) (hs : totS s < 1000000000)
    (HS : ∀ W, Below w.heap.size w W → Calls Tryz.prog 5 #[.pointer (some ⟨gg, 0, none⟩)] W fun e w' => e = .returned (.tuple #[.bool D, .int .i64 0]) ∧ ∃ s', OneS s s' ∧ Q s' w')
    (HQ : ∀ W s', Q s' W → StatsIs W gm s') (HB : ∀ W W' s', Q s' W → Below W.heap.size W W' → Q s' W') :
    Calls Tryz.prog 18 #[.pointer (some ⟨gm, 0, none⟩), .pointer (some ⟨gg, 0, none⟩)] w fun e w' => e = .returned (.tuple #[.bool D, .bool true]) ∧ ∃ s', Q s' w' := by
  have H1 := Lib.hid (did15_any h (by omega))
  have H2 := Lib.hid fun W s' (h1 : OneS s s') (hq : Q s' W) => did15_any (HQ W s' hq) (by have := h1.one; omega)
  have HTOT := Lib.hid (show ∀ s', OneS s s' → ∃ t' x : Nat, t' = totS s' ∧ x ≤ 1 ∧ t' = totS s + x ∧ s'.st = s.st from fun s' h1 => ⟨totS s', totS s' - totS s, rfl, by have := h1.one; omega, by have := h1.up; omega, h1.st⟩)
  obtain ⟨t, ht⟩ : ∃ t, t = totS s := ⟨_, rfl⟩
  obtain ⟨n, hn⟩ : ∃ n, n = s.st := ⟨_, rfl⟩
  rw [← ht, ← hn] at H1
  rw [← ht, ← hn] at HTOT
  rw [← ht] at hs
  have HS9 := Lib.hid hs
  have HSS := Lib.hid HS
  have HBB := Lib.hid HB
  clear h hs HS HQ HB ht hn
  go_enter Tryz.func18, Tryz.ntmps18
  go_wp2_with fail
  refine H1.out.mono ?_
  rintro e w1 ⟨rfl, hb1⟩
  have HS1 := Lib.hid (HSS.out w1 hb1)
  clear hb1 H1 HSS
  go_wp2_with fail
  refine HS1.out.mono ?_
  rintro e w2 ⟨rfl, s', ho, hq2⟩
  obtain ⟨t', x, ht', hx, htx, hst⟩ := HTOT.out s' ho
  have H3 := Lib.hid (H2.out w2 s' ho hq2)
  rw [← ht', hst] at H3
  have e1 : IntKind.u64.wrap ((t' : Int) - (t : Int)) = (x : Int) := by rw [IntKind.wrap_u64]; have := HS9.out; omega
  have e2 : decide ((x : Int) ≤ 1) = true := by simp; omega
  have HQ2 := Lib.hid hq2
  clear hq2 HS1 H2 ht' hx htx hst ho HTOT
  go_wp2_with fail
  refine H3.out.mono ?_
  rintro e w3 ⟨rfl, hb3⟩
  have HQ3 := Lib.hid (HBB.out _ _ _ HQ2.out hb3)
  clear hb3 H3 HQ2 HBB
  go_wp2
  go_ret2
  exact ⟨rfl, s', HQ3.out⟩
/-- So many steps lead from there to the end. -/
def Goes15 (g gm : Nat) (E : St → World → Prop) : Nat → St → World → Prop
  | 0, s, W => (∀ Wl, Below W.heap.size W Wl → StatsIs Wl gm s) ∧ totS s < 1000000000 ∧ E s W
  | n + 1, s, W => (∀ Wl, Below W.heap.size W Wl → StatsIs Wl gm s) ∧ totS s < 1000000000 ∧ ∀ Wl, Below W.heap.size W Wl → Calls Tryz.prog 5 #[.pointer (some ⟨g, 0, none⟩)] Wl fun e w' => e = .returned (.tuple #[.bool (decide (n = 0)), .int .i64 0]) ∧ ∃ s', OneS s s' ∧ Goes15 g gm E n s' w'
theorem Goes15.stats {g gm : Nat} {E : St → World → Prop} : ∀ {n : Nat} {s : St} {W : World}, Goes15 g gm E n s W → StatsIs W gm s
  | 0, s, W, h => h.1 W (Below.refl _ _)
  | n + 1, s, W, h => h.1 W (Below.refl _ _)
theorem Goes15.below {g gm : Nat} {E : St → World → Prop} (hE : ∀ s W W', E s W → Below W.heap.size W W' → E s W') : ∀ {n : Nat} {s : St} {W W' : World}, Goes15 g gm E n s W → Below W.heap.size W W' → Goes15 g gm E n s W'
  | 0, s, W, W', h, hb => ⟨fun Wl hl => h.1 Wl (Below.and hb hl), h.2.1, hE s W W' h.2.2 hb⟩
  | n + 1, s, W, W', h, hb => ⟨fun Wl hl => h.1 Wl (Below.and hb hl), h.2.1, fun Wl hl => h.2.2 Wl (Below.and hb hl)⟩
/-- The law's whole of such a get. -/
theorem whole_goes {w : World} {gm g N most : Nat} {s : St} {E : St → World → Prop} (hE : ∀ s W W', E s W → Below W.heap.size W W' → E s W') (h : Goes15 g gm E N s w) (hN : 1 ≤ N) (hm : N ≤ most) (hm2 : most ≤ 1000000) :
    Calls Tryz.prog 14 #[.pointer (some ⟨gm, 0, none⟩), .pointer (some ⟨g, 0, none⟩), .int .i64 (most : Int)] w fun e w' => e = .returned (.int .i64 (N : Int)) ∧ ∃ s', E s' w' := by
  refine (whole15_any (fun i W => ∃ s, Goes15 g gm E (N - i) s W) hN hm hm2 ⟨s, by rw [Nat.sub_zero]; exact h⟩ fun i W hi hI => ?_).mono ?_
  · obtain ⟨s, hs⟩ := hI
    obtain ⟨n, hn⟩ : ∃ n, N - i = n + 1 := ⟨N - i - 1, by omega⟩
    rw [hn] at hs
    obtain ⟨h1, h2, h3⟩ := hs
    rw [show N - (i + 1) = n by omega, show decide (i + 1 = N) = decide (n = 0) from by
      by_cases h0 : n = 0
      · rw [decide_eq_true h0, decide_eq_true (by omega)]
      · rw [decide_eq_false h0, decide_eq_false (by omega)]]
    exact stepE_any (h1 W (Below.refl _ _)) h2 h3 (fun W' s' hg => hg.stats) (fun W W' s' hg hb => hg.below hE hb)
  · rintro e w' ⟨rfl, s', hs⟩
    rw [Nat.sub_self] at hs
    exact ⟨rfl, s', hs.2.2⟩
end Go.Proofs.YtpjlajkjknkbaaaGreatDoor
/- A get in an arena whose root is the leaf, in which nobody stores: with the key, and without; conditions: what the leaf reads as. -/
namespace Go.Proofs.YtpjlajkjknkbaaaGreatDoor
open Go.RowKit
set_option linter.unusedVariables false
/-- What it comes to. -/
def EndG (w1 : World) (y1 : Lay) (g gw M : Nat) (s0 : St) (rc : Int) (rv : ByteArray) (s : St) (W : World) : Prop :=
  s.view = s0.view ∧ s.nl = s0.nl ∧ ∃ y gf, GB w1 W y1 y g gw M (fun q => q = g) s ∧ GtAt W g gf ∧ gf.d = true ∧ gf.k = 0 ∧ gf.rc = rc ∧ gf.rv = rv ∧ gf.rp = .slice none 0 0
section
variable {w1 W W' : World} {y1 y : Lay} {g gw n M c gl : Nat} {gf : GF} {V tl : Value} {l t : List Nat} {KT : Nat → Prop} {TK : World → Prop} {s s0 : St} {rc : Int} {rv : ByteArray}
theorem EndG.below (h : EndG w1 y1 g gw M s0 rc rv s W) (hb : Below W.heap.size W W') : EndG w1 y1 g gw M s0 rc rv s W' := by
  obtain ⟨h1, h2, y, gf, h3, h4, h5⟩ := h
  exact ⟨h1, h2, y, gf, h3.below hb, h4.below hb, h5⟩
theorem GB.tot {K : Nat → Prop} (h : GB w1 W y1 y g gw n K s) (hn : n ≤ 1000000) : totS s < 1000000000 := by
  have := h.lds.num
  unfold totS
  omega
theorem GB.statsL {K : Nat → Prop} (h : GB w1 W y1 y g gw n K s) : ∀ Wl, Below W.heap.size W Wl → StatsIs Wl y1.g s := fun Wl hb => (h.below hb).stats
theorem GB.upto {K : Nat → Prop} (h : GB w1 W y1 y g gw n K s) (hm : n ≤ M) : GB w1 W y1 y g gw M K s := ⟨h.mem, h.yg, h.yf, h.kp, h.but, h.lds.mono hm⟩
/-- What stays of a get while its lines are made to last. -/
structure GfL (gf : GF) (g gl : Nat) (tl : Value) : Prop where
  un : gf.un = .iface 109 (.pointer (some ⟨gl, 0, none⟩))
  th : gf.th = nextV 44 g
  tl : gf.tl = tl
  d : gf.d = false
  k : gf.k = 0
theorem goes_fence (T : Teller g tl KT TK rc rv) (G : GfL gf g gl tl) (h : PL w1 W y1 y g gw n c gf gl V [] KT TK s) (hn : n + 1 ≤ M) (hM : M ≤ 1000000) (hc : c ≤ 64) (hv : s.view = s0.view ∧ s.nl = s0.nl) :
    Goes15 g y1.g (EndG w1 y1 g gw M s0 rc rv) 1 s W := by
  refine ⟨h.me.statsL, h.me.tot (by omega), fun Wl hb => ?_⟩
  have hl := h.below T hb
  have hF := last_fence T hl (by omega) hc
  refine (gt_then (D := true) (Q := fun w' => ∃ y' s', OneS s s' ∧ s' = s.fence c ∧ PD w1 w' y1 y' g gw (n + 1) gf KT TK s') (P := fun w' => ∃ y' s', OneS s s' ∧ PD w1 w' y1 y' g gw (n + 1) { gf with d := true, rc := rc, rv := rv, rp := .slice none 0 0 } KT TK s') hl.gt G.un G.d G.th (M15_last gl Wl) call15_last call15_gtLasted hF
    (fun w' ⟨_, _, _, _, h3⟩ => h3.gt) (fun w' ⟨y', s', h1, h2, h3⟩ => (last_told T h3 G.tl).mono fun e w2 ⟨he, h4⟩ => ⟨he, y', s', h1, h4⟩) (fun w' ⟨y', s', _, h3⟩ => ⟨_, h3.gt, rfl, G.k⟩) (fun W W' ⟨y', s', h1, h3⟩ hb => ⟨y', s', h1, h3.below T hb⟩)).mono ?_
  rintro e w' ⟨he, y', s', h1, h3⟩
  exact ⟨he, s', h1, h3.me.statsL, h3.me.tot (by omega), h1.vw.trans hv.1, h1.nl.trans hv.2, y', _, (h3.me.hold fun q hq => .inl (.inl hq)).upto hn, h3.gt, rfl, G.k, rfl, rfl, rfl⟩
theorem goes_last (T : Teller g tl KT TK rc rv) (G : GfL gf g gl tl) (hM : M ≤ 1000000) (hc : c ≤ 64) : ∀ {l : List Nat} {n : Nat} {W : World} {y : Lay} {V : Value} {s : St}, (∀ x ∈ l, x % 8 = 0 ∧ x < 64 * s0.nl) → PL w1 W y1 y g gw n c gf gl V l KT TK s → n + l.length + 1 ≤ M → s.view = s0.view ∧ s.nl = s0.nl →
    Goes15 g y1.g (EndG w1 y1 g gw M s0 rc rv) (l.length + 1) s W
  | [], n, W, y, V, s, hl, h, hn, hv => goes_fence T G h hn hM hc hv
  | x :: t, n, W, y, V, s, hl, h, hn, hv => by
    have hln : (x :: t).length = t.length + 1 := rfl
    rw [hln] at hn
    refine ⟨h.me.statsL, h.me.tot (by omega), fun Wl hb => ?_⟩
    have hL := h.below T hb
    obtain ⟨h8, h64⟩ := hl x (List.mem_cons_self ..)
    have hF := last_flush T hL (by omega) hc h8 (by rw [hv.2]; exact h64)
    refine (gt_more hL.gt G.un G.d G.k (M15_last gl Wl) call15_last hF (fun w' ⟨_, _, _, _, _, h3⟩ => h3.gt) (fun W W' ⟨y', V', s', h1, h2, h3⟩ hb => ⟨y', V', s', h1, h2, h3.below T hb⟩)).mono ?_
    rintro e w' ⟨he, y', V', s', h1, h2, h3⟩
    refine ⟨by rw [he, hln, decide_eq_false (by omega)], s', h1, ?_⟩
    exact goes_last T G hM hc (fun z hz => hl z (List.mem_cons_of_mem _ hz)) h3 (by omega) ⟨h1.vw.trans hv.1, h1.nl.trans hv.2⟩
end
/-- A get's site. -/
structure GSite (w1 : World) (y1 : Lay) (g gw gx : Nat) (q t : Option Addr) : Prop where
  site : SiteAt w1 gx (some ⟨y1.g, 0, none⟩) q t
  nx : ¬ y1.fp gx ∧ gx ≠ g ∧ gx ≠ gw
  ng : ¬ y1.fp g ∧ g ≠ gw
section
variable {w1 W W' : World} {y1 y : Lay} {g gw gx n M a b gb gr gq f T : Nat} {q t : Option Addr} {N : Nd} {gf : GF} {V : Value} {ws : List Nat} {S : ByteArray} {s s0 : St} {S' : SS} {key : Int}
theorem GSite.mem (h : GSite w1 y1 g gw gx q t) (hb : But w1 W (fun q => y1.fp q ∨ q = g ∨ q = gw)) : Calls Tryz.prog 19 #[.pointer (some ⟨gx, 0, none⟩)] W fun e w' => e = .returned (.pointer (some ⟨y1.g, 0, none⟩)) ∧ W = w' :=
  siMem_yes (hb.row h.site fun e => e.elim h.nx.1 fun e => e.elim h.nx.2.1 h.nx.2.2)
theorem GSite.memG (h : GSite w1 y1 g gw gx q t) (hb : But w1 W (fun q => y1.fp q ∨ q = g ∨ q = gw)) : ∀ W', But W W' (fun q => q = g) → Calls Tryz.prog 19 #[.pointer (some ⟨gx, 0, none⟩)] W' fun e w' => e = .returned (.pointer (some ⟨y1.g, 0, none⟩)) ∧ W' = w' :=
  fun W' hb2 => h.mem (hb.trans hb2 fun q hq => .inl (.inr (.inl hq)))
/-- What its lines are let last from. -/
theorem PL.of {KT : Nat → Prop} {TK : World → Prop} {tl : Value} {rc : Int} {rv : ByteArray} {K : Nat → Prop} {e : Ending} (T : Teller g tl KT TK rc rv) (hB : GB w1 W y1 y g gw n K s) (hg : K g) (hK : ∀ q, KT q → K q) (hne : ¬ KT g) (tk : TK W) (h1 : w1.heap.size ≤ W.heap.size)
    (hc : gf.cl = ((0 : Nat) : Int)) (hl : LastP W g gf (some ⟨y1.g, 0, none⟩) a tl e W') :
    ∃ gl V, PL w1 W' y1 y g gw n 0 { gf with tl := tl, un := .iface 109 (.pointer (some ⟨gl, 0, none⟩)), th := nextV 44 g } gl V (lns a) KT TK s := by
  obtain ⟨_, gl, V, h2, h3, h4, h5, h6, h7⟩ := hl
  rw [hc] at h3
  have hkg : ∀ q, K q → q < W.heap.size := fun q hq => (hB.kp q hq).2
  have hB2 := hB.still h7 (fun q e => by rw [e]; exact (hB.kp _ hg).1) (fun q e => .inl e)
  refine ⟨gl, V, ⟨hB2.hold fun q hq => ?_, h2, h3, h4, T.but _ _ _ tk h7 (fun q hq e => hne (e ▸ hq)), ⟨fun e => ?_, hne, fun e => ?_⟩, fun _ q hq => (h5 q hq).2, by omega⟩⟩
  · rcases hq with rfl | rfl | hq | ⟨h0, hq⟩
    · exact .inl hg
    · exact .inr ⟨hB.fresh h6, h3.lt⟩
    · exact .inl (hK q hq)
    · exact .inr ⟨hB.fresh (h5 q hq).1, h4.lt h0 hq⟩
  · have := hkg _ hg
    omega
  · have := hkg _ (hK _ e)
    omega
theorem goes_asked (U : GSite w1 y1 g gw gx q t) (h : PSb w1 W y1 y g gw n a b (gfS (some ⟨gx, 0, none⟩) 0 key g gw a gb gr gq) gb gr gq f V ws S s)
    (hq : Row W gq 118 (stC (some ⟨y1.g, 0, none⟩) (nextV 72 gq) false 0 a N.nx N.ct N.nx 0)) (hv : s.view = s0.view ∧ s.nl = s0.nl) (hct : ldV s0 (snWordAt a 3) = N.ct) (hk : ldK s0 (snWordAt a 3) = 0)
    (ha : a % 64 = 0) (ha2 : a + 128 < 64 * s0.nl) (ha3 : a + 128 < 18446744073709551616) (hn : n + 5 ≤ M) (hM : M ≤ 1000000) :
    Goes15 g y1.g (EndG w1 y1 g gw M s0 0 S) 5 s W := by
  refine ⟨h.me.statsL, h.me.tot (by omega), fun Wl hb => ?_⟩
  have hl := h.below hb
  have hql := hq.below hb hq.lt
  have e1 : ldV s = ldV s0 := by funext A; unfold ldV; rw [hv.1, hv.2]
  have e2 : ldK s = ldK s0 := by funext A; unfold ldK; rw [hv.2]
  have hC := still_count hl (by omega) (by omega) hql (by rw [e1]; exact hct) (by rw [e2]; exact hk)
  obtain ⟨n1, n2, n3, n4, n5, n6⟩ := h.ne
  refine (gt_then (D := false) (P := fun w' => ∃ y' s', OneS s s' ∧ ∃ f V, ∃ gl V', PL w1 w' y1 y' g gw (n + 1) 0 { gfS (some ⟨gx, 0, none⟩) 0 key g gw a gb gr gq with un := .iface 109 (.pointer (some ⟨gl, 0, none⟩)), th := nextV 44 g } gl V' (lns a) (fun q => q = gb ∨ q = gr ∨ V.ownBlock = some q) (TellAt (some ⟨y1.g, 0, none⟩) gb gr b f V ws S) s') hl.gt rfl rfl rfl (M15_still gq Wl) call15_still call15_gtAsked hC
    (fun w' ⟨_, _, ⟨_, _, h3⟩, _⟩ => h3.gt) (fun w' ⟨y', s', ⟨h1, h2, h3⟩, h4⟩ => ?_) (fun w' ⟨y', s', _, _, _, gl, V', h3⟩ => ⟨_, h3.gt, rfl, rfl⟩) (fun W W' ⟨y', s', h1, f, V, gl, V', h3⟩ hb => ⟨y', s', h1, f, V, gl, V', h3.below (teller_found (g := g)) hb⟩)).mono ?_
  · refine (gtAsked_yes (m := some ⟨y1.g, 0, none⟩) (rv := S) h3.gt rfl rfl (still_same h4 h3) (fun W2 hb2 => gtTell_any (Row.cell (h3.tk.rb.below hb2 h3.tk.rb.lt) 0) fun W3 hb3 => vValue_done ((h3.tk.rd.below hb2).below hb3)) (U.memG h3.me.but) rfl ha3).mono ?_
    rintro e w2 ⟨he, hp⟩
    refine ⟨he, y', s', h1, f, V, ?_⟩
    exact PL.of (teller_found (g := g)) h3.me (.inl rfl) (fun q hq => hq.elim (fun e => .inr (.inl e)) fun hq => hq.elim (fun e => .inr (.inr (.inl e))) fun e => .inr (.inr (.inr (.inr e)))) (fun e => e.elim (by omega) fun e => e.elim (by omega) fun e => by have := (h3.tk.rd.own.lt _ e).1; omega) h3.tk h3.me.but.size rfl hp
  · rintro e w' ⟨he, y', s', h1, f, V, gl, V', h3⟩
    refine ⟨he, s', h1, ?_⟩
    exact goes_last (l := lns a) (teller_found (g := g)) ⟨rfl, rfl, rfl, rfl, rfl⟩ hM (by omega) (fun x hx => by
      simp only [lns, List.mem_cons, List.not_mem_nil, or_false] at hx
      omega) h3 (by show n + 1 + 3 + 1 ≤ M; omega) ⟨h1.vw.trans hv.1, h1.nl.trans hv.2⟩
theorem goes_still (U : GSite w1 y1 g gw gx q t) (h : PSb w1 W y1 y g gw n a b (gfS (some ⟨gx, 0, none⟩) 0 key g gw a gb gr gq) gb gr gq f V ws S s)
    (hq : Row W gq 118 (stC (some ⟨y1.g, 0, none⟩) (nextV 46 gq) false 0 a N.nx N.ct 0 0)) (hv : s.view = s0.view ∧ s.nl = s0.nl) (hnx : ldV s0 (snWordAt a 2) = N.nx) (hk2 : ldK s0 (snWordAt a 2) = 0) (hct : ldV s0 (snWordAt a 3) = N.ct) (hk : ldK s0 (snWordAt a 3) = 0)
    (ha : a % 64 = 0) (ha2 : a + 128 < 64 * s0.nl) (ha3 : a + 128 < 18446744073709551616) (hn : n + 6 ≤ M) (hM : M ≤ 1000000) :
    Goes15 g y1.g (EndG w1 y1 g gw M s0 0 S) 6 s W := by
  refine ⟨h.me.statsL, h.me.tot (by omega), fun Wl hb => ?_⟩
  have hl := h.below hb
  have e1 : ldV s = ldV s0 := by funext A; unfold ldV; rw [hv.1, hv.2]
  have e2 : ldK s = ldK s0 := by funext A; unfold ldK; rw [hv.2]
  have hC := still_next hl (by omega) (by omega) (hq.below hb hq.lt) (by rw [e1]; exact hnx) (by rw [e2]; exact hk2)
  refine (gt_more hl.gt rfl rfl rfl (M15_still gq Wl) call15_still hC (fun w' ⟨_, _, ⟨_, _, h3⟩, _⟩ => h3.gt) (fun W W' ⟨y', s', ⟨h1, h2, h3⟩, h4⟩ hb => ⟨y', s', ⟨h1, h2, h3.below hb⟩, h4.below hb h4.lt⟩)).mono ?_
  rintro e w' ⟨he, y', s', ⟨h1, h2, h3⟩, h4⟩
  exact ⟨he, s', h1, goes_asked U h3 h4 ⟨h1.vw.trans hv.1, h1.nl.trans hv.2⟩ hct hk ha ha2 ha3 (by omega) hM⟩
end
end Go.Proofs.YtpjlajkjknkbaaaGreatDoor
/- A get in an arena whose root is the leaf, in which nobody stores, from its walk on; conditions: what the leaf reads as. -/
namespace Go.Proofs.YtpjlajkjknkbaaaGreatDoor
open Go.RowKit
set_option linter.unusedVariables false
section
variable {w1 W W' : World} {y1 y : Lay} {g gw gx n n0 M a b gb gr gq f T x z : Nat} {q t : Option Addr} {N : Nd} {gf : GF} {V : Value} {ws : List Nat} {S : ByteArray} {s s0 : St} {S' : SS} {key : Int}
/-- What a leaf, and its value, read as. -/
structure LeafIs (s0 : St) (a : Nat) (N : Nd) : Prop where
  nx : ldV s0 (snWordAt a 2) = N.nx
  k2 : ldK s0 (snWordAt a 2) = 0
  ct : ldV s0 (snWordAt a 3) = N.ct
  k3 : ldK s0 (snWordAt a 3) = 0
  a64 : a % 64 = 0
  most : a + 128 < 64 * s0.nl
  big : a + 128 < 18446744073709551616
theorem goes_read1 (U : GSite w1 y1 g gw gx q t) (L : LeafIs s0 a N) (h : PV w1 W y1 y g gw n a b N (gfV (some ⟨gx, 0, none⟩) 0 key g gw a gb gr gq) gb gr gq f V ws s) (hv : s.view = s0.view ∧ s.nl = s0.nl) (hb : b < 18446744073709551616)
    (hR : RdOk s0.view b ws) {r : Nx} (hr : nxt s0.view b ws = r) (hd : r.d = true) (hk : r.k = 0) (hS : r.S = S) (hn : n + 7 ≤ M) (hM : M ≤ 1000000) :
    Goes15 g y1.g (EndG w1 y1 g gw M s0 0 S) 7 s W := by
  refine ⟨h.me.statsL, h.me.tot (by omega), fun Wl hbl => ?_⟩
  have hl := h.below hbl
  have hP := hl.last (by rw [hv.1]; exact hR) hb (by omega) (by rw [hv.1]; exact hr) hd hk
  rw [hS] at hP
  refine (gt_then (D := false) (P := fun w' => ∃ f' V' s', OneS s s' ∧ PSb w1 w' y1 y g gw (n + 1) a b (gfS (some ⟨gx, 0, none⟩) 0 key g gw a gb gr gq) gb gr gq f' V' r.ws S s' ∧ Row w' gq 118 (stC (some ⟨y1.g, 0, none⟩) (nextV 46 gq) false 0 a N.nx N.ct 0 0)) hl.gt rfl rfl rfl (M15_read gr Wl) call15_read call15_gtRead hP
    (fun w' ⟨_, _, _, _, h3, _⟩ => h3.gt) (fun w' ⟨f', V', s', h1, h3, h4⟩ => ?_) (fun w' ⟨f', V', s', _, h3, _⟩ => ⟨_, h3.gt, rfl, rfl⟩) (fun W W' ⟨f', V', s', h1, h3, h4⟩ hb => ⟨f', V', s', h1, h3.below hb, h4.below hb h4.lt⟩)).mono ?_
  · refine (gtRead_any (k := 0) (q := some ⟨gq, 0, none⟩) h3.gt rfl).mono ?_
    rintro e w2 ⟨he, hg2, hb2⟩
    exact ⟨he, f', V', s', h1, h3.own hg2 hb2, hb2.row h4 (fun e => by have := h3.ne; omega)⟩
  · rintro e w' ⟨he, f', V', s', h1, h3, h4⟩
    exact ⟨he, s', h1, goes_still U h3 h4 ⟨h1.vw.trans hv.1, h1.nl.trans hv.2⟩ L.nx L.k2 L.ct L.k3 L.a64 L.most L.big (by omega) hM⟩
theorem goes_read0 (U : GSite w1 y1 g gw gx q t) (L : LeafIs s0 a N) (h : PV w1 W y1 y g gw n a b N (gfV (some ⟨gx, 0, none⟩) 0 key g gw a gb gr gq) gb gr gq f V [] s) (hv : s.view = s0.view ∧ s.nl = s0.nl) (hb : b < 18446744073709551616)
    (h0 : nxt s0.view b [] = ⟨[x], ⟨#[]⟩, false, 0⟩) (h1 : nxt s0.view b [x] = ⟨[x, z], S, true, 0⟩) (hn : n + 8 ≤ M) (hM : M ≤ 1000000) :
    Goes15 g y1.g (EndG w1 y1 g gw M s0 0 S) 8 s W := by
  refine ⟨h.me.statsL, h.me.tot (by omega), fun Wl hbl => ?_⟩
  have hl := h.below hbl
  have hR0 : RdOk s0.view b [] := .inl rfl
  have hR1 : RdOk s0.view b [x] := by
    have := (nxt_spec hR0).2.1
    rw [h0] at this
    exact (this rfl).2.2.1
  have hP := hl.step (r := ⟨[x], ⟨#[]⟩, false, 0⟩) (by rw [hv.1]; exact hR0) hb (by omega) (by rw [hv.1]; exact h0) rfl rfl rfl (by simp)
  refine (gt_more hl.gt rfl rfl rfl (M15_read gr Wl) call15_read hP (fun w' ⟨_, _, _, _, h3⟩ => h3.gt) (fun W W' ⟨f', V', s', h1, h3⟩ hb => ⟨f', V', s', h1, h3.below hb⟩)).mono ?_
  rintro e w' ⟨he, f', V', s', h2, h3⟩
  exact ⟨he, s', h2, goes_read1 U L h3 ⟨h2.vw.trans hv.1, h2.nl.trans hv.2⟩ hb hR1 h1 rfl rfl rfl (by omega) hM⟩
theorem JB.toGB {F : WF} (h : JB w1 W y1 gw n s F) (U : GSite w1 y1 g gw gx q t) (hg : g < w1.heap.size) : ∃ y, GB w1 W y1 y g gw n (fun q => q = g) s := by
  obtain ⟨y, a, b, c, d⟩ := h.ex
  refine ⟨y, a, b, c, fun q e => ⟨fun hf => ?_, ?_⟩, h.but.mono fun q hq => hq.imp id .inr, h.lds⟩
  · subst e
    rcases c _ hf with h2 | h2
    · exact U.ng.1 h2
    · omega
  · subst e
    have := h.but.size
    omega
theorem JB.gt {F : WF} (h : JB w1 W y1 gw n s F) (U : GSite w1 y1 g gw gx q t) (hg : GtAt w1 g gf) : GtAt W g gf := hg.but h.but fun e => e.elim U.ng.1 U.ng.2
theorem goes_found (U : GSite w1 y1 g gw gx q t) (L : LeafIs s0 a N) (O : WkOk w1 y1 gw n0 s0 0 a T N S') (hl : N.l = 0) (hg : GtAt w1 g (GF.new (some ⟨gx, 0, none⟩) 0 key g gw)) (hf : N.find key = some 0) (hp : N.cl[13]? = some (.int .u64 (b : Int))) (hb : b < 18446744073709551616)
    (h0 : nxt s0.view b [] = ⟨[x], ⟨#[]⟩, false, 0⟩) (h1 : nxt s0.view b [x] = ⟨[x, z], S, true, 0⟩) (hn : n0 + T + 9 ≤ M) (hM : M ≤ 1000000) (h : JW w1 y1 gw n0 s0 0 key 0 a T N T W) :
    Goes15 g y1.g (EndG w1 y1 g gw M s0 0 S) 9 (sN s0 a T) W := by
  obtain ⟨F, hj⟩ := h.jb
  obtain ⟨y, hB⟩ := hj.toGB U hg.lt
  refine ⟨hB.statsL, hB.tot (by omega), fun Wl hbl => ?_⟩
  have hk : kE N 0 = 0 := by unfold kE; rw [hl, if_neg (by omega)]
  have hS := jw_stepK O (h.below hbl) (Nat.le_refl T) (Below.refl _ _)
  rw [decide_eq_true rfl, if_pos rfl, hk] at hS
  have hone : OneS (sN s0 a T) (sN s0 a (T + 1)) := oneS_ldS _ _
  refine (gt_then (D := false) (P := fun w' => ∃ y gb gr gq, PV w1 w' y1 y g gw (n0 + (T + 1)) a b N (gfV (some ⟨gx, 0, none⟩) 0 key g gw a gb gr gq) gb gr gq 45 (.slice none 0 0) [] (sN s0 a (T + 1))) ((hj.below hbl).gt U hg) rfl rfl rfl (M15_walk gw Wl) call15_walk call15_gtCame hS
    (fun w' ⟨h3, _⟩ => by obtain ⟨F2, hj2⟩ := h3.jb; exact hj2.gt U hg) (fun w' ⟨h3, _⟩ => ?_) (fun w' ⟨_, _, _, _, h3⟩ => ⟨_, h3.gt, rfl, rfl⟩) (fun W W' ⟨y, gb, gr, gq, h3⟩ hb => ⟨y, gb, gr, gq, h3.below hb⟩)).mono ?_
  · rcases h3 with ⟨h4, _⟩ | ⟨_, h4, _⟩ | ⟨_, gs, hj2⟩
    · omega
    · omega
    obtain ⟨y2, hB2⟩ := hj2.toGB U hg.lt
    have hA : Calls Tryz.prog 21 #[.pointer (some ⟨gw, 0, none⟩)] w' fun e w2 => e = .returned (.tuple #[.int .u64 (a : Int), N.V, .int .i64 0]) ∧ Below w'.heap.size w' w2 :=
      wkAt_of (at_ := (a : Int)) (n := N) (hi := 0) (has := false) (k := 0) fun W2 hb2 => by
        have := told_done (hj2.wk.below hb2) rfl rfl (.inl hk)
        rw [show (F2 y1 gw gs 0 key 0 a N).k = 0 from hk] at this
        exact this
    refine (gtCame_found (m := some ⟨y1.g, 0, none⟩) (hj2.gt U hg) rfl hA hf hp (U.memG hB2.but)).mono ?_
    rintro e w2 ⟨he, gb, gr, gq, f1, f2, f3, f4, f5, f6, f7, f8, f9, f10, f11⟩
    have hgl : g < w'.heap.size := (hB2.kp _ rfl).2
    have hs1 := hB2.but.size
    refine ⟨he, y2, gb, gr, gq, (hB2.still f11 (fun q e => by rw [e]; exact (hB2.kp _ rfl).1) (fun q e => .inl e)).hold fun q hq => ?_, f1, f2, .inl ⟨rfl, rfl⟩, f3, f4, fun q hq => ?_, ⟨f8, f9, f10, by omega, by omega, by omega⟩, by omega, by omega, by omega⟩
    · rcases hq with hq | rfl | rfl | rfl
      · exact .inl hq
      · exact .inr ⟨hB2.fresh f5, f3.lt⟩
      · exact .inr ⟨hB2.fresh f6, f2.row.lt⟩
      · exact .inr ⟨hB2.fresh f7, f4.lt⟩
    · have := hB2.mem.lt q hq
      omega
  · rintro e w' ⟨he, y2, gb, gr, gq, h3⟩
    exact ⟨he, _, hone, goes_read0 U L h3 (sN_vw s0 a (T + 1)) hb h0 h1 (by omega) hM⟩
theorem goes_none (U : GSite w1 y1 g gw gx q t) (L : LeafIs s0 a N) (O : WkOk w1 y1 gw n0 s0 0 a T N S') (hl : N.l = 0) (hg : GtAt w1 g (GF.new (some ⟨gx, 0, none⟩) 0 key g gw)) (hf : N.find key = none) (hn : n0 + T + 5 ≤ M) (hM : M ≤ 1000000) (h : JW w1 y1 gw n0 s0 0 key 0 a T N T W) :
    Goes15 g y1.g (EndG w1 y1 g gw M s0 5 ⟨#[]⟩) 5 (sN s0 a T) W := by
  obtain ⟨F, hj⟩ := h.jb
  obtain ⟨y, hB⟩ := hj.toGB U hg.lt
  refine ⟨hB.statsL, hB.tot (by omega), fun Wl hbl => ?_⟩
  have hk : kE N 0 = 0 := by unfold kE; rw [hl, if_neg (by omega)]
  have hS := jw_stepK O (h.below hbl) (Nat.le_refl T) (Below.refl _ _)
  rw [decide_eq_true rfl, if_pos rfl, hk] at hS
  have hone : OneS (sN s0 a T) (sN s0 a (T + 1)) := oneS_ldS _ _
  refine (gt_then (D := false) (P := fun w' => ∃ y gl V, PL w1 w' y1 y g gw (n0 + (T + 1)) 0 { ({ GF.new (some ⟨gx, 0, none⟩) 0 key g gw with at_ := (a : Int) } : GF) with tl := .func (.func 24) #[] #[], un := .iface 109 (.pointer (some ⟨gl, 0, none⟩)), th := nextV 44 g } gl V (lns a) (fun _ => False) (fun _ => True) (sN s0 a (T + 1))) ((hj.below hbl).gt U hg) rfl rfl rfl (M15_walk gw Wl) call15_walk call15_gtCame hS
    (fun w' ⟨h3, _⟩ => by obtain ⟨F2, hj2⟩ := h3.jb; exact hj2.gt U hg) (fun w' ⟨h3, _⟩ => ?_) (fun w' ⟨_, _, _, h3⟩ => ⟨_, h3.gt, rfl, rfl⟩) (fun W W' ⟨y, gl, V, h3⟩ hb => ⟨y, gl, V, h3.below (teller_none g) hb⟩)).mono ?_
  · rcases h3 with ⟨h4, _⟩ | ⟨_, h4, _⟩ | ⟨_, gs, hj2⟩
    · omega
    · omega
    obtain ⟨y2, hB2⟩ := hj2.toGB U hg.lt
    have hA : Calls Tryz.prog 21 #[.pointer (some ⟨gw, 0, none⟩)] w' fun e w2 => e = .returned (.tuple #[.int .u64 (a : Int), N.V, .int .i64 0]) ∧ Below w'.heap.size w' w2 :=
      wkAt_of (at_ := (a : Int)) (n := N) (hi := 0) (has := false) (k := 0) fun W2 hb2 => by
        have := told_done (hj2.wk.below hb2) rfl rfl (.inl hk)
        rw [show (F2 y1 gw gs 0 key 0 a N).k = 0 from hk] at this
        exact this
    refine (gtCame_none (m := some ⟨y1.g, 0, none⟩) (hj2.gt U hg) rfl hA hf (U.memG hB2.but) L.big).mono ?_
    rintro e w2 ⟨he, hp⟩
    exact ⟨he, y2, PL.of (gf := { GF.new (some ⟨gx, 0, none⟩) 0 key g gw with at_ := (a : Int) }) (teller_none g) hB2 rfl (fun q e => e.elim) (fun e => e) trivial hB2.but.size rfl hp⟩
  · rintro e w' ⟨he, y2, gl, V, h3⟩
    refine ⟨he, _, hone, ?_⟩
    exact goes_last (l := lns a) (teller_none g) ⟨rfl, rfl, rfl, rfl, rfl⟩ hM (by omega) (fun x hx => by
      have := L.a64
      have := L.most
      simp only [lns, List.mem_cons, List.not_mem_nil, or_false] at hx
      omega) h3 (by show n0 + (T + 1) + 3 + 1 ≤ M; omega) (sN_vw s0 a (T + 1))
theorem goes_walk {E : St → World → Prop} {R : Nat} (U : GSite w1 y1 g gw gx q t) (O : WkOk w1 y1 gw n0 s0 0 a T N S') (hg : GtAt w1 g (GF.new (some ⟨gx, 0, none⟩) 0 key g gw))
    (hH : ∀ W, JW w1 y1 gw n0 s0 0 key 0 a T N T W → Goes15 g y1.g E (R + 1) (sN s0 a T) W) : ∀ (j i : Nat) (W : World), i + j = T → JW w1 y1 gw n0 s0 0 key 0 a T N i W → Goes15 g y1.g E (R + 1 + j) (sN s0 a i) W
  | 0, i, W, hi, h => by
    obtain rfl : i = T := by omega
    exact hH W h
  | j + 1, i, W, hi, h => by
    obtain ⟨F, hj⟩ := h.jb
    obtain ⟨y, hB⟩ := hj.toGB U hg.lt
    have hfew := O.few
    refine ⟨hB.statsL, hB.tot (by omega), fun Wl hbl => ?_⟩
    have hS := jw_stepK O (h.below hbl) (by omega) (Below.refl _ _)
    rw [decide_eq_false (by omega), if_neg (by omega)] at hS
    refine (gt_more ((hj.below hbl).gt U hg) rfl rfl rfl (M15_walk gw Wl) call15_walk (P := fun w' => JW w1 y1 gw n0 s0 0 key 0 a T N (i + 1) w') (hS.mono fun e w' ⟨he, h2, _⟩ => ⟨he, h2⟩) (fun w' h3 => by obtain ⟨F2, hj2⟩ := h3.jb; exact hj2.gt U hg) (fun W W' h3 hb => h3.below hb)).mono ?_
    rintro e w' ⟨he, h3⟩
    exact ⟨by show e = .returned (.tuple #[.bool (decide (R + 1 + j = 0)), .int .i64 0]); rw [he, decide_eq_false (show ¬ (R + 1 + j = 0) by omega)], _, oneS_ldS _ _, goes_walk U O hg hH j (i + 1) w' (by omega) h3⟩
end
end Go.Proofs.YtpjlajkjknkbaaaGreatDoor
/- GetNil, walked: the chapter's rows, and the law; conditions: geo.rooms is as laid. -/
namespace Go.Proofs.YtpjlajkjknkbaaaGreatDoor
open Go.RowKit
set_option linter.unusedVariables false
theorem BegP15.up {w W : World} {N : Nat} {f : Nat → Nat} {e : Ending} {w' : World} (h : BegP15 W N f e w') (hb : Below w.heap.size w W) : BegP15 w N f e w' := by
  obtain ⟨g0, ga, gx, ym, q, t, V, he, h1, h2, h3, h4, h5, h6, h7, h8, h9, h10⟩ := h
  have hs := hb.size
  exact ⟨g0, ga, gx, ym, q, t, V, he, h1, h2, h3, fun k hk => Nat.le_trans hs (h4 k hk), by omega, h6, by omega, h8, h9, Below.and hb h10⟩
set_option maxRecDepth 100000 in
set_option maxHeartbeats 3200000 in
theorem small_yes {w : World} (R : Rms w) : Calls Tryz.prog 13 #[] w (BegP15 w 3072 C15F) := by
  obtain ⟨W1, hW1⟩ : ∃ W1, W1 = w.alloc (.cells #[.int .u64 5] 24) := ⟨_, rfl⟩
  have hb1 : Below w.heap.size w W1 := by rw [hW1]; exact alloc_below _ _
  have hr1 : Row W1 w.heap.size 24 #[.int .u64 5] := by rw [hW1]; exact Row.new _ _ _
  have HBG := Lib.hid (show Calls Tryz.prog 17 #[.agg #[.int .i64 2, .slice (some ⟨w.heap.size, 0, none⟩) 1 1, .int .i64 4, .int .i64 0]] W1 (BegP15 w 3072 C15F) from by
    have := begin_few (w := W1) (gk := w.heap.size) (n := 2) (per := 4) (lag := 0) (m := 1) (ks := [5]) (cap := 1) rfl (fun k hk => by
      obtain rfl : k = 0 := by omega
      exact hr1.cell 0) (fun k => by
      rcases k with _ | k
      · decide
      · show (0 : Nat) < _; decide) (fun a b h1 h2 => by omega) (by decide) (by decide) (by decide) (by decide) (by decide) (by decide) (by decide) c15Room (by rw [c15T]; decide) (by rw [c15N]; exact c15Wok) (R.below hb1) (by rw [c15Zf]; exact c15_byt) c15Zn (by rw [c15Zf]; exact c15Ok)
    rw [c15Zf] at this
    exact this.mono fun e w' h => h.up hb1)
  have HW1 := Lib.hid hW1
  clear R hW1 hb1 hr1
  go_enter Tryz.func13, Tryz.ntmps13
  go_wp2_with fail
  rw [← HW1.out]
  refine HBG.out.mono ?_
  intro e w2 h2
  obtain ⟨g0, ga, gx, ym, q, t, V, he, hrest⟩ := h2
  subst he
  have HR := Lib.hid hrest
  clear hrest HBG HW1
  go_wp2
  go_ret
  exact ⟨g0, ga, gx, ym, q, t, V, rfl, HR.out⟩
theorem c15Leaf {s : St} (hv : s.view = C15S.view ∧ s.nl = C15S.nl) : LeafIs s 2112 C15N := by
  have e1 : ldV s = ldV C15S := by funext A; unfold ldV; rw [hv.1, hv.2]
  have e2 : ldK s = ldK C15S := by funext A; unfold ldK; rw [hv.2]
  have hw : ∀ i, i < 24 → ldV C15S (snWordAt 2112 i) = wAt (wi C15N) i ∧ ldK C15S (snWordAt 2112 i) = 0 := fun i hi => by
    have e : snWordAt 2112 i = 2112 + 8 * i := by unfold snWordAt; rw [if_pos (by omega)]
    rw [e, ← c15Wrd i hi]
    exact c15_V (by omega) (by omega)
  refine ⟨by rw [e1]; exact (hw 2 (by decide)).1, by rw [e2]; exact (hw 2 (by decide)).2, by rw [e1]; exact (hw 3 (by decide)).1, by rw [e2]; exact (hw 3 (by decide)).2, by decide, by rw [hv.2]; decide, by decide⟩
set_option maxRecDepth 100000 in
set_option maxHeartbeats 3200000 in
theorem known15_any {w : World} (R : Rms w) : Calls Tryz.prog 9 #[] w fun e w' => e = .returned (.bool true) ∧ Below w.heap.size w w' := by
  have mixed : Tryz.prog.follows .mixedOrders = true := by kernel_rfl
  obtain ⟨T, S', t1, t2, hG, hd, hk, hn⟩ := c15Snap
  have HSN := Lib.hid (And.intro hG (And.intro hd (And.intro hk hn)))
  have HSM := Lib.hid (small_yes R)
  have HT := Lib.hid (And.intro t1 t2)
  have EN := Lib.hid (enters_of Tryz.func4 (by kernel_rfl) rfl)
  clear hG hd hk hn R t1 t2
  go_enter Tryz.func9, Tryz.ntmps9
  go_wp2_with fail
  refine HSM.out.mono ?_
  intro e w2 h2
  obtain ⟨g0, ga, gx, ym, q, t, V, he, hrow, hsite, hm, hfp, hgx, hnx, hg0, hng0, hne, hb2⟩ := h2
  subst he
  obtain ⟨gm, hgm⟩ : ∃ g, g = ym.g := ⟨_, rfl⟩
  rw [← hgm] at hrow
  have HGM := Lib.hid hgm
  have HROW := Lib.hid hrow
  have HSITE := Lib.hid hsite
  have HM := Lib.hid (show MemAt w2 ym C15S from hm)
  have HF := Lib.hid hfp
  have HX := Lib.hid (And.intro hgx (And.intro hnx (And.intro hg0 (And.intro hng0 hne))))
  have HB2 := Lib.hid hb2
  have HNEW := Lib.hid (show ∀ (W : World) (key : Int), Below w2.heap.size w2 W → Calls Tryz.prog 4 #[.pointer (some ⟨gx, 0, none⟩), .int .i64 0, .int .u64 key] W _ from fun W key hb => gtNew_any (cl := 0) (key := key) fun W2 hb2 => siMem_yes (Row.below (Row.below hsite hb hsite.lt) hb2 (by have := hsite.lt; have := hb.size; omega)))
  have HSS := Lib.hid (show ∀ W, Below w2.heap.size w2 W → W.cell? ⟨g0, 1, none⟩ = some (.pointer (some ⟨gx, 0, none⟩)) from fun W hb => Row.cell (hrow.below hb hrow.lt) 1)
  clear hrow hsite hm hfp hgx hnx hg0 hng0 hne hb2 HSM hgm
  go_wp2_with fail
  refine wp_region_noPanic ?_
  refine wp_region_held_drew (S := fun W => W.cell? ⟨g0, 1, none⟩ = some (.pointer (some ⟨gx, 0, none⟩))) (by kernel_rfl) (HSS.out _ (drew_below _)) (fun hHeld => ?_)
  refine wpAnyH_take (i := 0) (oi := ⟨some 7, _, _, _, _, _⟩) (v := .pointer (some ⟨g0, 0, none⟩)) rfl (by kernel_rfl) (by kernel_rfl) (by kernel_rfl) (fun _ _ _ h => h) (Or.inl ⟨by kernel_rfl, by intro WW hSw; (try dsimp only at hSw); go_simp⟩) (by assumption) ?_
  (try simp only [Act.put, List.setIfInBounds_toArray, List.set_cons_zero, List.set_cons_succ])
  refine wpAnyH_take (i := 1) (oi := ⟨some 8, _, _, _, _, _⟩) (v := .pointer (some ⟨g0, 0, none⟩)) rfl (by kernel_rfl) (by kernel_rfl) (by kernel_rfl) (fun _ _ _ h => h) (Or.inl ⟨by kernel_rfl, by intro WW hSw; (try dsimp only at hSw); go_simp⟩) (by assumption) ?_
  (try simp only [Act.put, List.setIfInBounds_toArray, List.set_cons_zero, List.set_cons_succ])
  refine wpAnyH_take (i := 2) (oi := ⟨some 9, _, _, _, _, _⟩) (v := .pointer (some ⟨g0, 1, none⟩)) rfl (by kernel_rfl) (by kernel_rfl) (by kernel_rfl) (fun _ _ _ h => h) (Or.inl ⟨by kernel_rfl, by intro WW hSw; (try dsimp only at hSw); go_simp⟩) (by assumption) ?_
  (try simp only [Act.put, List.setIfInBounds_toArray, List.set_cons_zero, List.set_cons_succ])
  refine wpAnyH_take (i := 3) (oi := ⟨some 10, _, _, _, _, _⟩) (v := .pointer (some ⟨gx, 0, none⟩)) rfl (by kernel_rfl) (by kernel_rfl) (by kernel_rfl) (fun _ _ _ h => h) (Or.inl ⟨by kernel_rfl, by intro WW hSw; (try dsimp only at hSw); go_simp⟩) (by assumption) ?_
  (try simp only [Act.put, List.setIfInBounds_toArray, List.set_cons_zero, List.set_cons_succ])
  refine wpAnyH_take (i := 5) (oi := ⟨some 12, _, _, _, _, _⟩) (v := .pointer (some ⟨g0, 0, none⟩)) rfl (by kernel_rfl) (by kernel_rfl) (by kernel_rfl) (fun _ _ _ h => h) (Or.inl ⟨by kernel_rfl, by intro WW hSw; (try dsimp only at hSw); go_simp⟩) (by assumption) ?_
  (try simp only [Act.put, List.setIfInBounds_toArray, List.set_cons_zero, List.set_cons_succ])
  refine wpAnyH_take (i := 6) (oi := ⟨some 13, _, _, _, _, _⟩) (v := .pointer (some ⟨g0, 0, none⟩)) rfl (by kernel_rfl) (by kernel_rfl) (by kernel_rfl) (fun _ _ _ h => h) (Or.inl ⟨by kernel_rfl, by intro WW hSw; (try dsimp only at hSw); go_simp⟩) (by assumption) ?_
  (try simp only [Act.put, List.setIfInBounds_toArray, List.set_cons_zero, List.set_cons_succ])
  refine wpAnyH_take (i := 7) (oi := ⟨some 14, _, _, _, _, _⟩) (v := .pointer (some ⟨g0, 1, none⟩)) rfl (by kernel_rfl) (by kernel_rfl) (by kernel_rfl) (fun _ _ _ h => h) (Or.inl ⟨by kernel_rfl, by intro WW hSw; (try dsimp only at hSw); go_simp⟩) (by assumption) ?_
  (try simp only [Act.put, List.setIfInBounds_toArray, List.set_cons_zero, List.set_cons_succ])
  refine wpAnyH_take (i := 8) (oi := ⟨some 15, _, _, _, _, _⟩) (v := .pointer (some ⟨gx, 0, none⟩)) rfl (by kernel_rfl) (by kernel_rfl) (by kernel_rfl) (fun _ _ _ h => h) (Or.inl ⟨by kernel_rfl, by intro WW hSw; (try dsimp only at hSw); go_simp⟩) (by assumption) ?_
  (try simp only [Act.put, List.setIfInBounds_toArray, List.set_cons_zero, List.set_cons_succ])
  refine wpAnyH_one (i := 4) (oi := ⟨some 11, _, _, _, _, _⟩) rfl (by kernel_rfl) (fun K hK => ?_)
  refine step_calls (by rfl) 4 EN.out [.tmp 10, .const (.int .i64 0), .const (.int .u64 5)] _ rfl [.pointer (some ⟨gx, 0, none⟩), .int .i64 0, .int .u64 5] rfl (HNEW.out _ 5 (drew_below _)) ?_
  rintro e w4 ⟨g1, gw1, rfl, x1, x2, x3, hwk1, hgt1, hb4⟩
  have HA := Lib.hid (And.intro x1 (And.intro x2 x3))
  have HWK1 := Lib.hid hwk1
  have HGT1 := Lib.hid hgt1
  have HB4 := Lib.hid (Below.and (drew_below w2) hb4)
  refine ⟨_, rfl, hK _ _ (HSS.out _ HB4.out) (fun hSn => ?_)⟩
  clear hK K x1 x2 x3 hwk1 hgt1 hb4
  (try simp only [Act.put, List.setIfInBounds_toArray, List.set_cons_zero, List.set_cons_succ])
  refine wpAnyH_one (i := 9) (oi := ⟨some 16, _, _, _, _, _⟩) rfl (by kernel_rfl) (fun K hK => ?_)
  refine step_calls (by rfl) 4 EN.out [.tmp 15, .const (.int .i64 0), .const (.int .u64 6)] _ rfl [.pointer (some ⟨gx, 0, none⟩), .int .i64 0, .int .u64 6] rfl (HNEW.out _ 6 HB4.out) ?_
  rintro e w3 ⟨g2, gw2, rfl, x1, x2, x3, hwk2, hgt2, hb3⟩
  have HB3 := Lib.hid (Below.and HB4.out hb3)
  refine ⟨_, rfl, hK _ _ (HSS.out _ HB3.out) (fun hSn2 => ?_)⟩
  clear hK K
  (try simp only [Act.put, List.setIfInBounds_toArray, List.set_cons_zero, List.set_cons_succ])
  refine wpAnyH_take (i := 10) (oi := ⟨some 2, _, _, _, _, _⟩) (v := .pointer (some ⟨g1, 0, none⟩)) rfl (by kernel_rfl) (by kernel_rfl) (by kernel_rfl) (fun _ _ _ h => h) (Or.inl ⟨by kernel_rfl, by intro WW hSw; (try dsimp only at hSw); go_simp⟩) (by assumption) ?_
  (try simp only [Act.put, List.setIfInBounds_toArray, List.set_cons_zero, List.set_cons_succ])
  refine wpAnyH_take (i := 11) (oi := ⟨some 3, _, _, _, _, _⟩) (v := .pointer (some ⟨g2, 0, none⟩)) rfl (by kernel_rfl) (by kernel_rfl) (by kernel_rfl) (fun _ _ _ h => h) (Or.inl ⟨by kernel_rfl, by intro WW hSw; (try dsimp only at hSw); go_simp⟩) (by assumption) ?_
  (try simp only [Act.put, List.setIfInBounds_toArray, List.set_cons_zero, List.set_cons_succ])
  refine wpAnyH_done (by kernel_rfl) ?_ _
  have hwk1 : WkAt w3 gw1 (WF.new (some ⟨ym.g, 0, none⟩) 0 5 0 gw1) := HWK1.out.below hb3
  have hgt1 : GtAt w3 g1 (GF.new (some ⟨gx, 0, none⟩) 0 5 g1 gw1) := HGT1.out.below hb3
  have hsz2 : w2.heap.size ≤ w2.drew.heap.size := (drew_below w2).size
  have hlt1 := HGT1.out.lt
  have hlw1 := HWK1.out.lt
  have hx2 := HSITE.out.lt
  have hg2 := HROW.out.lt
  have hyl := HM.out.lt
  have hm3 : MemAt w3 ym C15S := HM.out.below HB3.out
  have hsite3 : SiteAt w3 gx (some ⟨ym.g, 0, none⟩) q t := Row.below HSITE.out HB3.out hx2
  have hrow3 := HROW.out.below HB3.out hg2
  obtain ⟨y1, y2, y3⟩ := HA.out
  have ny : ∀ k, w2.heap.size ≤ k → ¬ ym.fp k := fun k hk hf => by have := hyl k hf; omega
  have U1 : GSite w3 ym g1 gw1 gx q t := ⟨hsite3, ⟨HX.out.2.1, by omega, by omega⟩, ny _ (by omega), fun e => y3 e.symm⟩
  have O1 := c15Wk (w1 := w3) (y1 := ym) (gw := gw1) (n0 := 0) (s := C15S) (lev := 0) (T := T) (S' := S') (fun k hk => hm3.lt k hk) ⟨rfl, rfl⟩ (by decide) (by decide) HT.out.1 HSN.out.1 HSN.out.2.1 HSN.out.2.2.1 HSN.out.2.2.2 (by have := HT.out; omega)
  have J1 : JW w3 ym gw1 0 C15S 0 5 0 2112 T C15N 0 w3 := .inl ⟨rfl, ⟨ym, hm3, rfl, fun k hk => .inl hk, ny _ (by omega)⟩, hwk1, c15_Lds, But.refl _ _⟩
  have G1 := goes_walk (R := 8) U1 O1 hgt1 (fun W hj => goes_found (M := 1000) (b := 1088) U1 (c15Leaf ⟨rfl, rfl⟩) O1 rfl hgt1 c15_find5 rfl (by decide) c15_nx0 c15_nx1 (by have := HT.out; omega) (by decide) hj) T 0 w3 (by omega) J1
  rw [show 8 + 1 + T = T + 9 by omega] at G1
  obtain ⟨N1, hN1⟩ : ∃ N1, N1 = T + 9 := ⟨_, rfl⟩
  rw [← hN1] at G1
  have HWH1 := Lib.hid (whole_goes (E := EndG w3 ym g1 gw1 1000 C15S 0 ⟨#[53]⟩) (most := 200) (fun s W W' h hb => h.below hb) G1 (by omega) (by have := HT.out; omega) (by decide))
  rw [← HGM.out] at HWH1
  have p1 : 0 < N1 := by omega
  have q1 : (0 : Int) < (N1 : Int) := by omega
  have c2 : w3.cell? ⟨g0, 2, none⟩ = some (.pointer (some ⟨gm, 0, none⟩)) := hrow3.cell 2
  have HB23 := Lib.hid (Below.and HB2.out HB3.out)
  have HNY := Lib.hid (show ¬ (ym.fp g0 ∨ g0 = g1 ∨ g0 = gw1) ∧ ¬ (ym.fp gx ∨ gx = g1 ∨ gx = gw1) ∧ ¬ (ym.fp g2 ∨ g2 = g1 ∨ g2 = gw1) ∧ ¬ (ym.fp gw2 ∨ gw2 = g1 ∨ gw2 = gw1) from by
    refine ⟨fun e => e.elim HX.out.2.2.2.1 (by omega), fun e => e.elim HX.out.2.1 (by omega), fun e => e.elim (ny _ (by omega)) (by omega), fun e => e.elim (ny _ (by omega)) (by omega)⟩)
  have HLT := Lib.hid (show gx < w3.heap.size ∧ g2 < w3.heap.size ∧ gw2 < w3.heap.size ∧ gx ≠ g2 ∧ gx ≠ gw2 ∧ g1 ≠ g2 ∧ g1 ≠ gw2 ∧ w.heap.size ≤ g1 ∧ w.heap.size ≤ gw1 ∧ w.heap.size ≤ g2 ∧ w.heap.size ≤ gw2 from by
    have := HB2.out.size
    have := HB3.out.size
    have := hwk2.lt
    have := hgt2.lt
    omega)
  have HWK2 := Lib.hid hwk2
  have HGT2 := Lib.hid hgt2
  have HNE2 := Lib.hid x3
  have HS3 := Lib.hid hsite3
  have HR3 := Lib.hid hrow3
  clear hN1 G1 J1 O1 U1 ny y1 y2 y3 hrow3 hsite3 hm3 hyl hg2 hx2 hlw1 hlt1 hsz2 hgt1 hwk1 hwk2 hgt2 x1 x2 x3 hb3 hHeld hSn hSn2 HSS HNEW EN HSITE HROW HM HA HWK1 HGT1 HB4 HB3
  go_wp2_with fail
  refine (‹∀ (a : Act) (w : World), Code.wp Tryz.prog _ _ a w → _›) _ _ ?_
  go_wp2_with fail
  refine HWH1.out.mono ?_
  rintro e w5 ⟨rfl, s5, v5, n5, y5, gf1, hB5, hg5, hd5, hk5, hrc5, hrv5, hrp5⟩
  have hnf : ∀ k, k < w3.heap.size → ¬ ym.fp k → ¬ y5.fp k := fun k h1 h2 h3 => by
    rcases hB5.yf k h3 with h4 | h4
    · exact h2 h4
    · omega
  have hsite5 : SiteAt w5 gx (some ⟨y5.g, 0, none⟩) q t := by rw [hB5.yg]; exact hB5.but.row HS3.out HNY.out.2.1
  have hwk5 : WkAt w5 gw2 (WF.new (some ⟨y5.g, 0, none⟩) 0 6 0 gw2) := by rw [hB5.yg]; exact HWK2.out.but hB5.but HNY.out.2.2.2
  have hgt5 : GtAt w5 g2 (GF.new (some ⟨gx, 0, none⟩) 0 6 g2 gw2) := HGT2.out.but hB5.but HNY.out.2.2.1
  obtain ⟨l1, l2, l3, l4, l5, l6, l7, l8, l9, l10, l11⟩ := HLT.out
  have U2 : GSite w5 y5 g2 gw2 gx q t := ⟨hsite5, ⟨hnf _ l1 fun e => HNY.out.2.1 (.inl e), l4, l5⟩, hnf _ l2 fun e => HNY.out.2.2.1 (.inl e), fun e => HNE2.out e.symm⟩
  have O2 := c15Wk (w1 := w5) (y1 := y5) (gw := gw2) (n0 := 1000) (s := s5) (lev := 0) (T := T) (S' := S') (fun k hk => hB5.mem.lt k hk) ⟨v5, n5⟩ (by decide) (by decide) HT.out.1 HSN.out.1 HSN.out.2.1 HSN.out.2.2.1 HSN.out.2.2.2 (by have := HT.out; omega)
  have J2 : JW w5 y5 gw2 1000 s5 0 6 0 2112 T C15N 0 w5 := .inl ⟨rfl, ⟨y5, hB5.mem, rfl, fun k hk => .inl hk, hnf _ l3 fun e => HNY.out.2.2.2 (.inl e)⟩, hwk5, hB5.lds, But.refl _ _⟩
  have G2 := goes_walk (R := 4) U2 O2 hgt5 (fun W hj => goes_none (M := 3000) U2 (c15Leaf ⟨v5, n5⟩) O2 rfl hgt5 c15_find6 (by have := HT.out; omega) (by decide) hj) T 0 w5 (by omega) J2
  rw [show 4 + 1 + T = T + 5 by omega] at G2
  obtain ⟨N2, hN2⟩ : ∃ N2, N2 = T + 5 := ⟨_, rfl⟩
  rw [← hN2] at G2
  have HWH2 := Lib.hid (whole_goes (E := EndG w5 y5 g2 gw2 3000 s5 5 ⟨#[]⟩) (most := 200) (fun s W W' h hb => h.below hb) G2 (by omega) (by have := HT.out; omega) (by decide))
  rw [hB5.yg, ← HGM.out] at HWH2
  have p2 : 0 < N2 := by omega
  have q2 : (0 : Int) < (N2 : Int) := by omega
  have e2 : w5.cell? ⟨g0, 2, none⟩ = some (.pointer (some ⟨gm, 0, none⟩)) := hB5.but.cell (HR3.out.cell 2) HNY.out.1
  have HG5 := Lib.hid hg5
  have HGF1 := Lib.hid (And.intro hrc5 (And.intro hrv5 hrp5))
  have HN15 := Lib.hid (show ¬ (y5.fp g1 ∨ g1 = g2 ∨ g1 = gw2) from fun e => e.elim (hB5.kp _ rfl).1 fun e => e.elim l6 l7)
  have HB5 := Lib.hid (show Below w.heap.size w w5 from HB23.out.trans (hB5.but.below HB23.out.size fun k hk => hk.elim (fun h => HF.out k h) fun h => h.elim (fun e => by omega) fun e => by omega))
  have HF5 := Lib.hid (show ∀ k, (y5.fp k ∨ k = g2 ∨ k = gw2) → w.heap.size ≤ k from fun k hk => by
    rcases hk with h | h | h
    · rcases hB5.yf k h with h2 | h2
      · exact HF.out k h2
      · exact Nat.le_trans HB23.out.size h2
    · omega
    · omega)
  clear hN2 G2 J2 O2 U2 hnf hsite5 hwk5 hgt5 l1 l2 l3 l4 l5 l6 l7 l8 l9 l10 l11 hB5 hg5 hd5 hk5 hrc5 hrv5 hrp5 v5 n5 c2 HWH1 HSN
  go_wp2_with fail
  refine HWH2.out.mono ?_
  rintro e w6 ⟨rfl, s6, v6, n6, y6, gf2, hB6, hg6, hd6, hk6, hrc6, hrv6, hrp6⟩
  have HG61 := Lib.hid (HG5.out.but hB6.but HN15.out)
  have HG62 := Lib.hid hg6
  have HGF2 := Lib.hid (And.intro hrc6 (And.intro hrv6 hrp6))
  have HB6 := Lib.hid (show Below w.heap.size w w6 from HB5.out.trans (hB6.but.below HB5.out.size HF5.out))
  have HRS1 := Lib.hid (show Calls Tryz.prog 8 #[.pointer (some ⟨g1, 0, none⟩)] w6 (fun e w' => e = .returned (rsV 0 ⟨#[53]⟩) ∧ Below w6.heap.size w6 w') from by
    have := gtResp_any HG61.out HGF1.out.2.2
    rw [HGF1.out.1, HGF1.out.2.1] at this
    exact this)
  clear v6 n6 hB6 hg6 hd6 hk6 hrc6 hrv6 hrp6 e2 HWH2 HG5
  go_wp2_with fail
  refine HRS1.out.mono ?_
  rintro e w7 ⟨rfl, hb7⟩
  have HB7 := Lib.hid hb7
  clear hb7 HRS1
  go_wp2_with fail
  refine (rSameResp_same 0 ⟨#[53]⟩ w7).mono ?_
  rintro e w8 ⟨rfl, hb8⟩
  have HB8 := Lib.hid (Below.and HB7.out hb8)
  have HRS2 := Lib.hid (show Calls Tryz.prog 8 #[.pointer (some ⟨g2, 0, none⟩)] w8 (fun e w' => e = .returned (rsV 5 ⟨#[]⟩) ∧ Below w8.heap.size w8 w') from by
    have := gtResp_any (HG62.out.below HB8.out) HGF2.out.2.2
    rw [HGF2.out.1, HGF2.out.2.1] at this
    exact this)
  clear hb8 HB7
  go_wp2_with fail
  refine HRS2.out.mono ?_
  rintro e w9 ⟨rfl, hb9⟩
  have HB9 := Lib.hid (Below.and HB8.out hb9)
  clear hb9 HRS2 HB8
  go_wp2_with fail
  refine (rSameResp_same 5 ⟨#[]⟩ w9).mono ?_
  rintro e w10 ⟨rfl, hb10⟩
  have HB10 := Lib.hid (HB6.out.trans ((Below.and HB9.out hb10).mono HB6.out.size))
  clear hb10
  go_wp2_with fail
  go_ret
  exact ⟨rfl, HB10.out⟩
theorem getNil_any (w : World) (R : Rms w) : Calls Tryz.prog 3 #[] w fun e w' => e = .returned (.bool true) ∧ Below w.heap.size w w' :=
  getNil_of w fun W hb => known15_any (R.below hb)
end Go.Proofs.YtpjlajkjknkbaaaGreatDoor
