/- Texts of this claim, packed: SiD, SiDE. -/
import Derived.Test.YtedefebdfcgjeaaGreatDoorPk39
import Derived.Test.YtedefebdfcgjeaaGreatDoorPk42
import Derived.Test.YtedefebdfcgjeaaGreatDoorPk50
import Derived.Test.YtedefebdfcgjeaaGreatDoorPk51
/- SiteDrops, walked: who is dropped has no locks, and others have theirs. -/
namespace Go.Proofs.YtedefebdfcgjeaaGreatDoor
open Go.RowKit Go.Shelf
set_option linter.unusedVariables false
theorem kat_site {w : World} {gx g b : Nat} {s : Lk} {m q t : Option Addr} (hs : SiteAt w gx m q t) (hk : KAt w g b s) : ¬ kfp g b gx := by
  rintro (rfl | rfl)
  · have h1 : w.heap[gx]? = _ := hs
    have h2 : w.heap[gx]? = _ := hk.row
    have h3 := Option.some.inj (h1.symm.trans h2)
    injection h3 with _ h4
    exact absurd h4 (by decide)
  · obtain ⟨es, c, hb⟩ := hk.mp.map
    have h1 : w.heap[gx]? = _ := hs
    have h3 := Option.some.inj (h1.symm.trans hb)
    cases h3
/-- The site on its way: its locks are so. -/
structure DrS (w W : World) (gx g b : Nat) (m q : Option Addr) (s : Lk) : Prop where
  site : SiteAt W gx m q (some ⟨g, 0, none⟩)
  kat : KAt W g b s
  low : Below w.heap.size w W
  lx : w.heap.size ≤ gx
  lg : w.heap.size ≤ g
  lb : w.heap.size ≤ b
section
variable {w W W' : World} {gx g b : Nat} {m q : Option Addr} {s s' : Lk}
theorem DrS.below (h : DrS w W gx g b m q s) (hb : Below W.heap.size W W') : DrS w W' gx g b m q s := ⟨Row.below h.site hb h.site.lt, h.kat.below hb, h.low.trans (hb.mono h.low.size), h.lx, h.lg, h.lb⟩
theorem DrS.turn (h : DrS w W gx g b m q s) (hk : KAt W' g b s') (hb : But W W' (kfp g b)) : DrS w W' gx g b m q s' :=
  ⟨hb.row h.site (kat_site h.site h.kat), hk, h.low.trans (hb.below h.low.size (fun k hk => by have h1 := h.lg; have h2 := h.lb; rcases hk with rfl | rfl <;> omega)), h.lx, h.lg, h.lb⟩
end
/-- What a client has, and waits for, behind a drop. -/
def Dropped (s s2 : Lk) (c : Int) : Prop := s2.n = s.n ∧ (∀ i : Nat, i < s.n → (i : Int) = c → HeldIs s2 i [] ∧ s2.wt i = 0) ∧ ∀ (i : Nat) xs, i < s.n → (i : Int) ≠ c → HeldIs s i xs → HeldIs s2 i xs
theorem dropped_out {s : Lk} {c : Int} (h : isC s c = false) : Dropped s s c := by
  refine ⟨rfl, fun i hi e => ?_, fun i xs _ _ h => h⟩
  subst e
  rw [isC_yes hi] at h
  cases h
theorem dropped_in {s : Lk} {c : Nat} (h : c < s.n) : Dropped s (dropS s c) (c : Int) := by
  refine ⟨rfl, fun i hi e => ?_, fun i xs hi hne hx => ⟨hx.1, fun id => ?_⟩⟩
  · obtain rfl : i = c := by omega
    refine ⟨⟨List.Pairwise.nil, fun id => ?_⟩, ?_⟩
    · show id ∈ [] ↔ (if s.hm id = some i then none else s.hm id) = some i
      split
      · simp
      · rename_i hn
        simp [hn]
    · show setW s.wt i 0 i = 0
      unfold setW
      rw [if_pos rfl]
  · rw [hx.2 id]
    show s.hm id = some i ↔ (if s.hm id = some c then none else s.hm id) = some i
    split
    · rename_i he
      constructor
      · intro h2
        rw [he] at h2
        injection h2 with h2
        omega
      · intro h2
        cases h2
    · exact Iff.rfl
set_option maxRecDepth 100000 in
theorem sdrop_any {w W : World} {gx g b : Nat} {m q : Option Addr} {s : Lk} (h : DrS w W gx g b m q s) (c : Int) :
    Calls Tryz.prog 23 #[.pointer (some ⟨gx, 0, none⟩), .int .i64 c] W fun e W' => e = .returned (.tuple #[]) ∧ But W W' (kfp g b) ∧ ∃ s2, DrS w W' gx g b m q s2 ∧ Dropped s s2 c := by
  cases hc : isC s c with
  | false =>
    refine siDrop_of (Q := fun W' => But W W' (kfp g b) ∧ ∃ s2, DrS w W' gx g b m q s2 ∧ Dropped s s2 c) (siLocks_yes h.site) ((drop_out (fun W2 hb => ?_)).mono ?_)
    · have := kis_any (h.kat.below hb) c
      rwa [hc] at this
    · rintro e W' ⟨rfl, hb⟩
      exact ⟨rfl, But.of_below hb _, s, h.below hb, dropped_out hc⟩
  | true =>
    obtain ⟨k, rfl, hk⟩ := isC_of hc
    obtain ⟨xs, hx⟩ := held_ex h.kat.ok k
    refine siDrop_of (Q := fun W' => But W W' (kfp g b) ∧ ∃ s2, DrS w W' gx g b m q s2 ∧ Dropped s s2 (k : Int)) (siLocks_yes h.site) ((drop_any h.kat hk hx).mono ?_)
    rintro e W' ⟨rfl, hka, hb⟩
    exact ⟨rfl, hb, _, h.turn hka hb, dropped_in hk⟩
/-- The locks behind so many tries. -/
def TrI (w : World) (gx g b : Nat) (m q : Option Addr) (N n : Nat) (v : Value) (wr : World) : Prop := ∃ (i : Nat) (s : Lk), v = .int .i64 (i : Int) ∧ i ≤ n ∧ DrS w wr gx g b m q s ∧ s.n = N ∧ s.sz ≤ i
def ChI (w : World) (gx g b g' b' : Nat) (m q : Option Addr) (s s2 : Lk) (N : Nat) (v : Value) (wr : World) : Prop := ∃ i : Nat, v = .int .i64 (i : Int) ∧ i ≤ N ∧ DrS w wr gx g b m q s2 ∧ KAt wr g' b' s
set_option maxRecDepth 100000 in
set_option maxHeartbeats 4000000 in
theorem siteDrops_yes {w : World} {A : Option Addr} {cap N : Nat} {l : List Nat} (c : Int) (hl : l.length ≤ 60) (hb : ∀ x ∈ l, x < 18446744073709551616) (hA : Sl w A (l.map wv)) (h1 : 1 ≤ N) (h64 : N ≤ 64) (R : Rms w) :
    Calls Tryz.prog 4 #[.int .i64 (N : Int), .slice A l.length cap, .int .i64 c] w fun e w' => e = .returned (.bool true) ∧ Below w.heap.size w w' := by
  have mixed : Tryz.prog.follows .mixedOrders = true := by kernel_rfl
  have HK := Lib.hid fun W => known13_any W
  have HN := Lib.hid (show Calls Tryz.prog 6 #[.int .i64 2048] w (NewPost 32 w) from new_yes 32 w (by decide) (by decide))
  have hmk := makeB 2048 (by decide)
  obtain ⟨M, hM⟩ : ∃ M : Nat, M = 2048 := ⟨_, rfl⟩
  have hmk2 : ∀ W : World, (Instr.makeSlice 31 (.int .i64 2048) (.int .i64 2048)).run Tryz.prog W = .ok (.slice (some ⟨W.heap.size, 0, none⟩) 2048 2048) (W.alloc (.cells (Array.replicate M (bv 0)) 5)) := by rw [hM]; exact hmk
  have HMM := Lib.hid hM
  have HR := Lib.hid R
  have HL := Lib.hid hA
  have HB := Lib.hid hb
  have HL60 := Lib.hid hl
  have d1 : decide ((N : Int) < 1) = false := by simp; omega
  have d2 : decide ((64 : Int) < (N : Int)) = false := by simp; omega
  have d3 : decide (60 < l.length) = false := by simp; omega
  have d4 : decide ((60 : Int) < (l.length : Int)) = false := by simp; omega
  have H1 := Lib.hid h1
  have H64 := Lib.hid h64
  clear hA hb hl R hmk hM h1 h64
  go_enter Tryz.func4, Tryz.ntmps4
  go_wp2_with fail
  refine HN.out.mono ?_
  rintro e w1 ⟨y, rfl, hm1, hfp, hb1⟩
  have HM1 := Lib.hid hm1
  have HB1 := Lib.hid hb1
  obtain ⟨gm, hgm⟩ : ∃ g, g = y.g := ⟨_, rfl⟩
  rw [← hgm]
  have HGM := Lib.hid hgm
  clear hm1 hfp hb1 HN hgm
  go_wp2_with fail
  obtain ⟨W2, hW2⟩ : ∃ W2, W2 = w1.alloc (.cells (Array.replicate M (bv 0)) 5) := ⟨_, rfl⟩
  rw [← hW2]
  have hb2 : Below w1.heap.size w1 W2 := by rw [hW2]; exact alloc_below _ _
  have hr2 : Row W2 w1.heap.size 5 (Array.replicate 2048 (bv 0)) := by rw [hW2, HMM.out]; exact Row.new _ _ _
  have HB2 := Lib.hid (HB1.out.trans (hb2.mono HB1.out.size))
  have HM2 := Lib.hid (HM1.out.below hb2)
  have HOF := Lib.hid (slabZ_any (HR.out.below HB2.out) (m := 2048) (n := 1) (ca := 2048) (by decide) (by decide) (by decide) (zeros_sl hr2))
  clear hW2 hb2 hr2 hmk2 HM1 HB1
  refine HOF.out.mono ?_
  rintro e w3 ⟨ys, hs, fs, rfl, hsm, hsl, _, _, _, _, hb3⟩
  have hm3 := HM2.out.below hb3
  have HB3 := Lib.hid (HB2.out.trans (hb3.mono HB2.out.size))
  have hz := size_is hm3
  have hq := slabs_is hsm hsl
  have HNW := Lib.hid (siNew_ok (N := N) (n := 1) (p := some ⟨y.g, 0, none⟩) (q := some ⟨ys.gs, 0, none⟩) (by
    have e1 : sizeN ((1 : Nat) : Int) = ((64 * (St.zero 32).nl : Nat) : Int) := by decide
    rw [e1]; exact hz) hq (by decide) (by decide) H1.out H64.out)
  rw [← HGM.out] at HNW
  obtain ⟨gs, hgs⟩ : ∃ g, g = ys.gs := ⟨_, rfl⟩
  unfold fpt
  rw [← hgs] at HNW ⊢
  clear hsm hsl hb3 hm3 hz hq hgs HOF HM2 HB2
  go_wp2_with fail
  refine HNW.out.mono ?_
  rintro e w4 ⟨gx, g, b, rfl, hsite, hkat, hx4, hg4, hb4, hbw4⟩
  have hw3 := HB3.out.size
  have hD0 : DrS w w4 gx g b (some ⟨gm, 0, none⟩) (some ⟨gs, 0, none⟩) (lk0 N) := ⟨hsite, hkat, HB3.out.trans (hbw4.mono HB3.out.size), by omega, by omega, by omega⟩
  have HD0 := Lib.hid hD0
  have HS4 := Lib.hid (siLocks_yes hsite)
  clear hsite hkat hx4 hg4 hb4 hbw4 hw3 hD0 HNW HB3
  go_wp2_with fail
  refine HS4.out.mono ?_
  rintro e w' ⟨rfl, rfl⟩
  go_wp2_with fail
  go_loopw [13] (fun v wr => TrI w gx g b (some ⟨gm, 0, none⟩) (some ⟨gs, 0, none⟩) N l.length v wr) (fun v _ => l.length - (intOf v).toNat)
  case atStart => exact ⟨0, lk0 N, rfl, Nat.zero_le _, HD0.out, rfl, Nat.zero_le _⟩
  case round =>
    obtain ⟨i, s, rfl, hi, hD, hn, hsz⟩ := hrel
    rename World => wr
    have HD := Lib.hid hD
    have HNN := Lib.hid hn
    have HSZ := Lib.hid hsz
    clear hD hn hsz
    by_cases hlt : i < l.length
    · obtain ⟨a, rfl, hcell⟩ := HL.out.at_ (i := i) (by rw [List.length_map]; exact hlt)
      rw [List.getElem_map] at hcell
      have hcr : wr.cell? (a.add i) = some (wv l[i]) := (HD.out.low.cell (w.block_lt_of_cell? _ hcell)).trans hcell
      obtain ⟨id, hid⟩ : ∃ id, id = l[i] := ⟨_, rfl⟩
      rw [← hid] at hcr
      have hidb : id < 18446744073709551616 := by rw [hid]; exact HB.out _ (List.getElem_mem hlt)
      have hN0 : 1 ≤ N := H1.out
      obtain ⟨r, hr⟩ : ∃ r, r = i % N := ⟨_, rfl⟩
      have e1 : (i : Int).tmod (N : Int) = (r : Int) := by rw [hr]; exact Int.ofNat_tmod i N
      have e2 : ((N : Int) == 0) = false := by rw [Bool.eq_false_iff]; intro k; have := beq_iff_eq.1 k; omega
      have e3 : (0 : Int) ≤ (i : Int) := by omega
      have e4 : (i : Int) < (l.length : Int) := by omega
      have e5 : (N : Int) ≠ 0 := by omega
      have e6 : (i : Int) + 1 ≤ 9223372036854775807 := by have := HL60.out; omega
      unfold wv at hcr
      have ca := fun p : LowBy wr => p.cell hcr
      have hloc := fun p : LowBy wr => Calls.low_of_same (w := wr) (p := p) (siLocks_yes (HD.out.below p.low).site)
      have HTR := Lib.hid fun p : LowBy wr => try_all (HD.out.below p.low).kat (r : Int) hidb (by have := HSZ.out; have := HL60.out; omega)
      have HLOC := Lib.hid hloc
      clear hcell hcr hid hr hidb hloc hN0
      go_wp2_with fail
      refine wp_region_low_tail 9 (by assumption) (by kernel_rfl) ?_
      simp only [List.take_succ_cons, List.take_zero, List.drop_succ_cons, List.drop_zero]
      repeat (go_big_quiet_step ((go_at_call 20; exact HLOC.out _)))
      refine wpQuiet_nil ?_
      intro _ hw'
      obtain ⟨p, hw''⟩ := hw'
      subst hw''
      clear ca e1 e2 e3 e4 e5
      go_wp2_with fail
      refine (HTR.out p).mono ?_
      rintro e w5 ⟨rfl, hk5, hbt5⟩
      have HE := Lib.hid (show DrS w w5 gx g b (some ⟨gm, 0, none⟩) (some ⟨gs, 0, none⟩) (tryT s (r : Int) id) from (HD.out.below p.low).turn hk5 hbt5)
      have HNT := Lib.hid (show (tryT s (r : Int) id).n = N by rw [tryT_n, HNN.out])
      have HST := Lib.hid (show (tryT s (r : Int) id).sz ≤ i + 1 by have := tryT_sz s (r : Int) id; have := HSZ.out; omega)
      clear hk5 hbt5 HTR
      go_wp2
      go_roundw
      case rel => exact ⟨i + 1, _, by go_num, by omega, HE.out, HNT.out, HST.out⟩
      case measure => simp [intOf]; omega
    · have hD := HD.out
      have HLK := Lib.hid (siLocks_yes hD.site)
      have HCP := Lib.hid (copy_any hD.kat)
      have hge : decide (i < l.length) = false := by simpa using hlt
      have hge2 : decide ((i : Int) < (l.length : Int)) = false := by simp; omega
      clear hD hi
      go_wp2_with fail
      refine HLK.out.mono ?_
      rintro e w' ⟨rfl, rfl⟩
      go_wp2_with fail
      refine HCP.out.mono ?_
      rintro e w5 ⟨g', b', rfl, hcp⟩
      have hD5 := HD.out.below hcp.bel
      have hgl := hD5.kat.row.lt
      have hne : ¬ kfp g b g' ∧ ¬ kfp g b b' := by
        have h1 := hcp.lg
        have h2 := hcp.lb
        have h3 := HD.out.kat.row.lt
        have h4 := HD.out.kat.mp.lt
        constructor <;> (rintro (h | h) <;> omega)
      have HCK := Lib.hid hcp.at_
      have HNE := Lib.hid hne
      have HDR := Lib.hid (sdrop_any hD5 c)
      clear hcp hD5 hgl hne HLK HCP
      go_wp2_with fail
      refine HDR.out.mono ?_
      rintro e w6 ⟨rfl, hbt6, s2, hD6, hdr⟩
      have HC6 := Lib.hid (HCK.out.but hbt6 HNE.out.1 HNE.out.2)
      have HD6 := Lib.hid hD6
      have HDP := Lib.hid hdr
      have HN2 := Lib.hid (show s2.n = N by rw [hdr.1, HNN.out])
      have hN64 := H64.out
      clear hbt6 hD6 hdr HDR HCK
      go_wp2_with fail
      go_loopw [15] (fun v wr => ChI w gx g b g' b' (some ⟨gm, 0, none⟩) (some ⟨gs, 0, none⟩) s s2 N v wr) (fun v _ => N - (intOf v).toNat)
      case atStart => exact ⟨0, rfl, Nat.zero_le _, HD6.out, HC6.out⟩
      case round =>
        obtain ⟨k, rfl, hkN, hDk, hCk⟩ := hrel
        rename World => w2
        have HDk := Lib.hid hDk
        have HCk := Lib.hid hCk
        clear hDk hCk
        by_cases hklt : k < N
        · obtain ⟨xs, hxs⟩ := held_ex HCk.out.ok k
          have HXS := Lib.hid hxs
          have HH1 := Lib.hid (held_any HCk.out (c := k) (by rw [HNN.out]; exact hklt) hxs)
          clear hxs
          have q1 : (k : Int) + 1 ≤ 9223372036854775807 := by omega
          go_wp2_with fail
          refine HH1.out.mono ?_
          rintro e w7 ⟨v7, rfl, ho7, hb7⟩
          obtain ⟨A7, cap7, rfl, _, hmx, _, hlx⟩ := own_sl ho7
          have hxm : xs.length ≤ 9223372036854775807 := by unfold maxLen at hmx; simp at hlx; omega
          have HB7 := Lib.hid hb7
          have hDk7 := HDk.out.below hb7
          have HD7 := Lib.hid hDk7
          have HC7 := Lib.hid (HCk.out.below hb7)
          obtain ⟨m, hm⟩ : ∃ m, m = xs.length := ⟨_, rfl⟩
          rw [← hm] at hxm ⊢
          have HMX := Lib.hid hm
          clear ho7 hb7 hmx hlx hDk7 hm HH1
          by_cases hkc : (k : Int) = c
          · obtain ⟨hh0, hw0⟩ := HDP.out.2.1 k (by rw [HNN.out]; exact hklt) hkc
            have HLK := Lib.hid fun (W : World) (hb : Below w7.heap.size w7 W) => siLocks_yes (HD7.out.below hb).site
            have hwa := wants_any HD7.out.kat (c := k) (by rw [HN2.out]; exact hklt)
            rw [hw0] at hwa
            have HWA := Lib.hid (show Calls Tryz.prog 25 #[.pointer (some ⟨g, 0, none⟩), .int .i64 (k : Int)] w7 fun e w' => e = .returned (.tuple #[.int .u64 0, .bool false]) ∧ Below w7.heap.size w7 w' from hwa)
            have HH2 := Lib.hid fun (W : World) (hb : Below w7.heap.size w7 W) => held_any (HD7.out.below hb).kat (c := k) (by rw [HN2.out]; exact hklt) hh0
            have hkb : ((k : Int) == c) = true := by simpa using hkc
            clear hh0 hw0 hwa
            subst hkc
            go_wp2_with fail
            refine (HLK.out _ (Below.refl _ _)).mono ?_
            rintro e w' ⟨rfl, rfl⟩
            go_wp2_with fail
            refine HWA.out.mono ?_
            rintro e w8 ⟨rfl, hb8⟩
            have HB8 := Lib.hid hb8
            clear hb8 HWA
            go_wp2_with fail
            refine (HLK.out _ HB8.out).mono ?_
            rintro e w' ⟨rfl, rfl⟩
            go_wp2_with fail
            refine (HH2.out _ HB8.out).mono ?_
            rintro e w9 ⟨v9, rfl, ho9, hb9⟩
            obtain ⟨A9, cap9, rfl, _⟩ := own_sl ho9
            have HE := Lib.hid (Below.and HB8.out hb9)
            clear ho9 hb9 HH2 HLK
            go_wp2
            go_roundw
            case rel => exact ⟨k + 1, by go_num, by omega, HD7.out.below HE.out, HC7.out.below HE.out⟩
            case measure => simp [intOf]; omega
          · have hh0 := HDP.out.2.2 k xs (by rw [HNN.out]; exact hklt) hkc HXS.out
            have HLK := Lib.hid fun (W : World) (hb : Below w7.heap.size w7 W) => siLocks_yes (HD7.out.below hb).site
            have HWA := Lib.hid (wants_any HD7.out.kat (c := k) (by rw [HN2.out]; exact hklt))
            have HH2 := Lib.hid fun (W : World) (hb : Below w7.heap.size w7 W) => held_any (HD7.out.below hb).kat (c := k) (by rw [HN2.out]; exact hklt) hh0
            have hkb : ((k : Int) == c) = false := by simpa using hkc
            clear hh0
            go_wp2_with fail
            refine (HLK.out _ (Below.refl _ _)).mono ?_
            rintro e w' ⟨rfl, rfl⟩
            go_wp2_with fail
            refine HWA.out.mono ?_
            rintro e w8 ⟨rfl, hb8⟩
            have HB8 := Lib.hid hb8
            clear hb8 HWA
            go_wp2_with fail
            refine (HLK.out _ HB8.out).mono ?_
            rintro e w' ⟨rfl, rfl⟩
            go_wp2_with fail
            refine (HH2.out _ HB8.out).mono ?_
            rintro e w9 ⟨v9, rfl, ho9, hb9⟩
            obtain ⟨A9, cap9, rfl, _⟩ := own_sl ho9
            rw [← HMX.out]
            have HE := Lib.hid (Below.and HB8.out hb9)
            clear ho9 hb9 HH2 HLK
            go_wp2
            go_roundw
            case rel => exact ⟨k + 1, by go_num, by omega, HD7.out.below HE.out, HC7.out.below HE.out⟩
            case measure => simp [intOf]; omega
        · have hge3 : decide ((k : Int) < (N : Int)) = false := by simp; omega
          go_wp2_with fail
          refine (HK.out _).mono ?_
          rintro e w7 ⟨rfl, hb7⟩
          have HE := Lib.hid (HDk.out.low.trans (hb7.mono HDk.out.low.size))
          clear hb7
          go_wp2
          go_ret
          exact ⟨rfl, HE.out⟩
end Go.Proofs.YtedefebdfcgjeaaGreatDoor
/- SiteDrops, all its cases. -/
namespace Go.Proofs.YtedefebdfcgjeaaGreatDoor
open Go.RowKit Go.Shelf
set_option linter.unusedVariables false
set_option maxRecDepth 100000 in
set_option maxHeartbeats 2000000 in
theorem siteDrops_no (z c : Int) (A : Option Addr) (n cap : Nat) (w : World) (hn : n ≤ maxLen) (h : z < 1 ∨ 64 < z ∨ 60 < n) :
    Calls Tryz.prog 4 #[.int .i64 z, .slice A n cap, .int .i64 c] w fun e w' => e = .returned (.bool true) ∧ Below w.heap.size w w' := by
  have HK := Lib.hid fun W => known13_any W
  unfold maxLen at hn
  by_cases h1 : z < 1
  · have d1 : decide (z < 1) = true := by simpa using h1
    clear h h1
    go_enter Tryz.func4, Tryz.ntmps4
    go_wp2_with fail
    refine (HK.out _).mono ?_
    rintro e w1 ⟨rfl, hb⟩
    have HB := Lib.hid hb
    clear hb
    go_wp2
    go_ret
    exact ⟨rfl, HB.out⟩
  · by_cases h2 : 64 < z
    · have d1 : decide (z < 1) = false := by simpa using h1
      have d2 : decide (64 < z) = true := by simpa using h2
      clear h h1 h2
      go_enter Tryz.func4, Tryz.ntmps4
      go_wp2_with fail
      refine (HK.out _).mono ?_
      rintro e w1 ⟨rfl, hb⟩
      have HB := Lib.hid hb
      clear hb
      go_wp2
      go_ret
      exact ⟨rfl, HB.out⟩
    · have h3 : 60 < n := by omega
      have d1 : decide (z < 1) = false := by simpa using h1
      have d2 : decide (64 < z) = false := by simpa using h2
      have d3 : decide (60 < n) = true := by simpa using h3
      have d4 : decide ((60 : Int) < (n : Int)) = true := by simp; omega
      clear h h1 h2 h3
      go_enter Tryz.func4, Tryz.ntmps4
      go_wp2_with fail
      refine (HK.out _).mono ?_
      rintro e w1 ⟨rfl, hb⟩
      have HB := Lib.hid hb
      clear hb
      go_wp2
      go_ret
      exact ⟨rfl, HB.out⟩
theorem siteDrops_all (z : Int) (A : Option Addr) (n cap : Nat) (zs : List Int) (c : Int) (w : World) (wz : (Lit.int .i64 z).wf = true) (h : InRow .u64 w A n cap zs) (wc : (Lit.int .i64 c).wf = true) (R : Rms w) :
    Calls Tryz.prog 4 #[.int .i64 z, .slice A n cap, .int .i64 c] w fun e w' => e = .returned (.bool true) ∧ Below w.heap.size w w' := by
  have hn : n ≤ maxLen := by
    rcases h with ⟨_, rfl, _, _⟩ | ⟨x, _, hl, hm, _⟩
    · exact Nat.zero_le _
    · omega
  by_cases hc : z < 1 ∨ 64 < z ∨ 60 < n
  · exact siteDrops_no z c A n cap w hn hc
  · obtain ⟨l, hl, hb, hs, _, _⟩ := h.read (b := 18446744073709551616) wf_word
    obtain ⟨N, rfl⟩ : ∃ N : Nat, z = (N : Int) := ⟨z.toNat, by omega⟩
    subst hl
    exact siteDrops_yes c (by omega) hb hs (by omega) (by omega) R
end Go.Proofs.YtedefebdfcgjeaaGreatDoor
