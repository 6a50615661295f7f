/- Texts of this claim, packed: LOf, LFree. -/
import Derived.Test.YtahojhaeebmpoaaGreatDoorPk33
import Derived.Deep.RegionHeld3
import Derived.WalkMore
/- Of: the blocks of an arena's bytes, or why there are none. -/
namespace Go.Proofs.YtahojhaeebmpoaaGreatDoor
open Go.RowKit Go.Sort
set_option linter.unusedVariables false
theorem slabOf_size {w : World} {A : Option Addr} {n cap : Nat} (hn : n ≤ 1099511627776) (h : ¬ (2048 ≤ n ∧ n ≤ 66560 ∧ n % 1024 = 0)) :
    Calls Tryz.prog 9 #[.slice A n cap] w fun e w' => e = .returned (.tuple #[.pointer none, .int .i64 2]) ∧ w = w' := by
  have H := Lib.hid (slabs_no (n := (n : Int)) (by omega) (by omega) (by omega) w)
  clear h
  go_enter Tryz.func9, Tryz.ntmps9
  go_wp2_with fail
  refine H.out.mono ?_
  rintro e w1 ⟨rfl, rfl⟩
  go_wp2
  go_ret2
  exact ⟨rfl, rfl⟩
/-- A header's words, of an arena's bytes. -/
def hcW (l : List Nat) (q : Nat) : Nat := pw l l.length (128 * (q + 1))
def hbW (l : List Nat) (q : Nat) : Nat := pw l l.length (128 * (q + 1) + 1)
def okHeads (l : List Nat) (n : Nat) : Prop := ∀ q, q < n → okHead (hcW l q) (hbW l q) = true
/-- What Of makes of an arena's bytes: blocks in new memory, or ErrCorrupt. -/
def OfPost (w : World) (l : List Nat) (n : Nat) (e : Ending) (w' : World) : Prop :=
  (okHeads l n ∧ ∃ y, e = .returned (.tuple #[fpt y.gs, .int .i64 0]) ∧ SlabMem w' y (hsK (hcW l) (hbW l) n n) (fsK (hcW l) (hbW l) n) ∧ (∀ k, y.fp k → w.heap.size ≤ k) ∧ Below w.heap.size w w') ∨
  (¬ okHeads l n ∧ e = .returned (.tuple #[.pointer none, .int .i64 6]) ∧ Below w.heap.size w w')
def OfF (W : World) (gs gh n : Nat) (v : Value) (wr : World) : Prop := ∃ k : Nat, k ≤ 4 ∧ v = .int .i64 (k : Int) ∧ ∃ gf fv, FreeR W gs gh n k wr gf fv
structure OfM (w : World) (l : List Nat) (n nl gs gh g0 : Nat) (i : Nat) (wr : World) (y : SLay) (ym : Lay) : Prop where
  mem : SlabMem wr y (hsK (hcW l) (hbW l) n i) (fsK (hcW l) (hbW l) i)
  pm : MemAt wr ym { St.ofBytes nl l with ld := 2 * i }
  gs : y.gs = gs
  gh : y.gh = gh
  g0 : ym.g = g0
  fy : ∀ k, y.fp k → w.heap.size ≤ k
  fm : ∀ k, ym.fp k → w.heap.size ≤ k
  low : Below w.heap.size w wr
  ok : ∀ q, q < i → okHead (hcW l q) (hbW l q) = true
def OfL (w : World) (l : List Nat) (n nl gs gh g0 : Nat) (v : Value) (wr : World) : Prop := ∃ i : Nat, i ≤ n ∧ v = .int .i64 (i : Int) ∧ ∃ y ym, OfM w l n nl gs gh g0 i wr y ym
theorem OfM.next {w : World} {l : List Nat} {n nl gs gh g0 i : Nat} {wr W1 w2 w3 : World} {y y3 : SLay} {ym ym2 : Lay} (h : OfM w l n nl gs gh g0 i wr y ym) (hi : i < n)
    (hW1 : W1 = wr.setCell ⟨y.gh, i * 4, none⟩ (jv (i + 1))) (hm2 : MemAt w2 ym2 { St.ofBytes nl l with ld := 2 * (i + 1) }) (t2 : Turn W1 w2 ym ym2) (hok : okHead (hcW l i) (hbW l i) = true)
    (hs3 : SlabMem w3 y3 (((hsK (hcW l) (hbW l) n i).set i { hdZ with no := i + 1 }).set i (hdOf (hcW l) (hbW l) i)) (fsK (hcW l) (hbW l) (i + 1))) (t3 : STurn w2 w3 y y3) :
    OfM w l n nl gs gh g0 (i + 1) w3 y3 ym2 := by
  have hx : (hsK (hcW l) (hbW l) n i)[i]? = some hdZ := by rw [hsK_get hi, if_neg (by omega)]
  obtain ⟨h1, t1⟩ := h.mem.put_no hx (i + 1)
  rw [← hW1] at h1 t1
  have m1 := h.pm.slab h.mem t1
  have h2 := h1.mem m1 t2
  have b1 : Below w.heap.size w W1 := h.low.trans (t1.but.below h.low.size h.fy)
  have b2 : Below w.heap.size w w2 := b1.trans (t2.but.below b1.size h.fm)
  have b3 : Below w.heap.size w w3 := b2.trans (t3.but.below b2.size h.fy)
  rw [List.set_set, hsK_set] at hs3
  refine ⟨hs3, hm2.slab h2 t3, t3.gs.trans h.gs, t3.gh.trans h.gh, t2.g.trans h.g0, fun k hk => ?_, fun k hk => ?_, b3, fun q hq => ?_⟩
  · rcases t3.fp k hk with h4 | h4
    · exact h.fy k h4
    · exact Nat.le_trans b2.size h4
  · rcases t2.fp k hk with h4 | h4
    · exact h.fm k h4
    · exact Nat.le_trans b1.size h4
  · by_cases e : q = i
    · subst e; exact hok
    · exact h.ok q (by omega)
set_option maxRecDepth 100000 in
set_option maxHeartbeats 3200000 in
theorem slabOf_yes {w : World} {A : Option Addr} {cap n : Nat} {l : List Nat} (hl : l.length = 1024 * (n + 1)) (hA : Sl w A (l.map bv)) (hb : ∀ x ∈ l, x < 256) (h0 : 0 < n) (h1 : n ≤ 64) (R : Rms w) :
    Calls Tryz.prog 9 #[.slice A (1024 * (n + 1)) cap] w (OfPost w l n) := by
  have mixed : Tryz.prog.follows .mixedOrders = true := by kernel_rfl
  have HS := Lib.hid (slabs_yes (n := ((1024 * (n + 1) : Nat) : Int)) (by omega) w)
  rw [show ((1024 * (n + 1) : Nat) : Int) / 1024 - 1 = (n : Int) from by omega] at HS
  obtain ⟨nl, hnl⟩ : ∃ nl, nl = 16 * (n + 1) := ⟨_, rfl⟩
  have HO := Lib.hid (pOf_yes (cap := cap) (nl := nl) (by omega) hA hb (by omega) (by omega))
  rw [show 64 * nl = 1024 * (n + 1) from by omega] at HO
  obtain ⟨Z, hZ⟩ : ∃ Z, Z = 1024 * (n + 1) := ⟨_, rfl⟩
  rw [← hZ] at HS HO ⊢
  obtain ⟨i0, hi, hz0, hz1, hz2⟩ := info_parts info_header
  have hm1 := fun W : World => run_make (P := Tryz.prog) W 83 91 i0 _ Tryz.underlying83 hi hz0 .i64 .i64 ((n : Nat) : Int) ((n : Nat) : Int) (by omega) (by omega) (by rw [hz2]; omega) (by omega)
  simp only [Int.toNat_natCast, hz1] at hm1
  have HR := Lib.hid R
  have HL := Lib.hid hl
  have HB := Lib.hid hb
  have HZ := Lib.hid hZ
  have HNL := Lib.hid hnl
  have hZB : Z ≤ 66560 := by omega
  clear hA hl hb hZ R hnl
  go_enter Tryz.func9, Tryz.ntmps9
  go_wp2_with fail
  refine HS.out.mono ?_
  rintro e w1 ⟨rfl, rfl⟩
  go_wp2_with fail
  refine HO.out.mono ?_
  rintro e w2 ⟨ym, rfl, hm, hfm, hb2⟩
  have HM := Lib.hid hm
  have HFM := Lib.hid hfm
  have HB2 := Lib.hid hb2
  clear hm hfm hb2 HO
  go_upto_region 8 with (fail)
  obtain ⟨W3, hW3⟩ : ∃ W3, W3 = (w2.alloc (.cells (madeCells #[.int .i64 0, .int .i64 0, .int .u64 0, .slice none 0 0] (n * 4)) 91)).alloc (.cells #[.slice (some ⟨w2.heap.size, 0, none⟩) n n, .pointer none, .pointer none, .pointer none, .pointer none] 87) := ⟨_, rfl⟩
  rw [← hW3]
  obtain ⟨gh, hgh⟩ : ∃ gh, gh = w2.heap.size := ⟨_, rfl⟩
  obtain ⟨gs, hgs⟩ : ∃ gs, gs = w2.heap.size + 1 := ⟨_, rfl⟩
  have hhr : Row W3 gh 91 (madeCells #[.int .i64 0, .int .i64 0, .int .u64 0, .slice none 0 0] (n * 4)) := by rw [hW3, hgh]; exact (Row.new _ _ _).alloc _
  have hsr : Row W3 gs 87 (scells gh n (fun _ => 0) 0) := by
    have e : gs = (w2.alloc (.cells (madeCells #[.int .i64 0, .int .i64 0, .int .u64 0, .slice none 0 0] (n * 4)) 91)).heap.size := by rw [hgs]; simp
    rw [hW3, e, hgh]; exact Row.new _ _ _
  have hbW : Below w2.heap.size w2 W3 := by rw [hW3]; exact Below.and (alloc_below _ _) (alloc_below _ _)
  have hszW : W3.heap.size = w2.heap.size + 2 := by rw [hW3]; simp
  rw [← hgs, ← hgh]
  have HHR := Lib.hid hhr
  have HSR := Lib.hid hsr
  have HBW := Lib.hid hbW
  have HSZ := Lib.hid hszW
  have HGS := Lib.hid hgs
  have HGH := Lib.hid hgh
  have HGB := Lib.hid (show w.heap.size ≤ gh ∧ w.heap.size ≤ gs ∧ gs ≠ gh ∧ gs < W3.heap.size from by have := HB2.out.size; omega)
  clear hW3 hhr hsr hbW hszW hgs hgh hm1
  go_wp2
  go_loopw [35] (fun v wr => OfF W3 gs gh n v wr) (fun v _ => 4 - (intOf v).toNat)
  case atStart => exact ⟨0, by omega, rfl, fun _ => 0, fun _ => .slice none 0 0, HSR.out, But.refl _ _, fun c hc => by omega, fun c hc => by omega, fun c d hc => by omega, fun c d hc => by omega⟩
  case round =>
    obtain ⟨k, hk, rfl, gf, fv, hF⟩ := hrel
    rename World => wr
    have HF := Lib.hid hF
    clear hF
    by_cases hlt : k < 4
    · go_wp2_with fail
      have HNF : ∀ W : World, Hid (Calls Tryz.prog 36 #[.slice none 0 0] W fun e w' => ∃ s, s.Nodup ∧ (∀ x, x ∈ s ↔ x ∈ ([] : List Nat) ∧ x ≠ 0) ∧ s.length ≤ ([] : List Nat).length ∧ Made W s e w') := fun W => Lib.hid (newFree_few (w := W) (.inl ⟨rfl, rfl⟩) (by decide))
      go_region_held3 (fun _ => True) (trivial)
        ((refine (HNF _).out.mono ?_; rintro e w4 ⟨s, hnd, hmem, hsl, g, v, rfl, hS, hnew, hb4⟩; have hb4' := (drew_below wr).trans hb4; have hrw := HF.out.row.below hb4' HF.out.row.lt; have cc := hrw.cell (1 + k); rw [scells_get gh n gf hlt] at cc; have ff := hrw.free (1 + k)))
      have HNX := Lib.hid (show FreeR W3 gs gh n (k + 1) (w4.setCell ⟨gs, 1 + k, none⟩ (fpt g)) (updF gf k g) (updF fv k v) from by
        obtain rfl : s = [] := List.eq_nil_of_length_eq_zero (Nat.le_zero.1 hsl)
        exact HF.out.next hlt HGB.out.2.2.2 hS hnew hb4')
      clear hnd hmem hsl hS hnew hb4 hb4' hrw cc ff
      unfold fpt at HNX
      go_wp2
      go_roundw
      case rel => exact ⟨k + 1, by omega, by go_num, _, _, HNX.out⟩
      case measure => simp [intOf]; omega
    · have hF4 : FreeR W3 gs gh n 4 wr gf fv := by
        have h4 : k = 4 := by omega
        rw [← h4]; exact HF.out
      have HF := Lib.hid hF4
      clear hF4
      have hz := zero_slab HF.out HHR.out HGB.out.2.2.1 h0 h1
      have hb3 : Below w.heap.size w wr := (HB2.out.trans (HBW.out.mono HB2.out.size)).trans (HF.out.but.below (by have := HB2.out.size; have := HSZ.out; omega) (fun q e => by rw [e]; exact HGB.out.2.1))
      have hpm : MemAt wr ym { St.ofBytes nl l with ld := 2 * 0 } := (HM.out.below HBW.out).but HF.out.but fun q hq e => by have h3 := HM.out.lt q hq; have := HGS.out; omega
      have HOM := Lib.hid (show OfM w l n nl gs gh ym.g 0 wr ⟨gs, gh, n, fun _ => .slice none 0 0, gf, fv⟩ ym from by
        refine ⟨by rw [hsK_zero]; exact hz, hpm, rfl, rfl, rfl, fun q hq => ?_, HFM.out, hb3, fun q hq => by omega⟩
        rcases hq with rfl | rfl | ⟨c, hc, hq⟩ | ⟨i, _, hq⟩
        · exact HGB.out.2.1
        · exact HGB.out.1
        · have h4 := HF.out.new c hc q hq
          have := HSZ.out; have := HB2.out.size
          omega
        · cases hq)
      have c0 : wr.cell? ⟨gs, 0, none⟩ = some (.slice (some ⟨gh, 0, none⟩) n n) := HF.out.row.cell 0
      clear hz hb3 hpm hk HF HHR HSR HBW HM HFM
      obtain ⟨g0, hg0⟩ : ∃ g0, g0 = ym.g := ⟨_, rfl⟩
      rw [← hg0] at HOM ⊢
      clear hg0
      go_wp2
      clear c0
      go_loopw [50] (fun v wr => OfL w l n nl gs gh g0 v wr) (fun v _ => n - (intOf v).toNat)
      case atStart => exact ⟨0, by omega, rfl, _, _, HOM.out⟩
      case round =>
        obtain ⟨i, hi, rfl, y, ym, hO⟩ := hrel
        rename World => wr2
        have HO := Lib.hid hO
        clear hO HOM
        by_cases hlt : i < n
        · have hx : (hsK (hcW l) (hbW l) n i)[i]? = some hdZ := by rw [hsK_get hlt, if_neg (by omega)]
          have c0 := HO.out.mem.field
          rw [hsK_len, HO.out.gs, HO.out.gh] at c0
          have cc := (HO.out.mem.head hx).1
          have ff := HO.out.mem.hfree (i * 4)
          rw [HO.out.gh] at cc ff
          obtain ⟨hs1, ts1⟩ := HO.out.mem.put_no hx (i + 1)
          have pm1 := HO.out.pm.slab HO.out.mem ts1
          obtain ⟨W1, hW1⟩ : ∃ W1, W1 = wr2.setCell ⟨gh, i * 4, none⟩ (.int .i64 ((i : Int) + 1)) := ⟨_, rfl⟩
          have hW1' : W1 = wr2.setCell ⟨y.gh, i * 4, none⟩ (jv (i + 1)) := by rw [hW1, HO.out.gh]; rfl
          rw [← hW1'] at hs1 ts1 pm1
          have bW1 : Below w.heap.size w W1 := HO.out.low.trans (ts1.but.below HO.out.low.size HO.out.fy)
          have rl : 0 < w.heap.size := by obtain ⟨t, ht⟩ := HR.out; exact heap_lt ht
          have RW1 : Rms W1 := by obtain ⟨t, ht⟩ := HR.out; exact ⟨t, (bW1.block _ rl).trans ht⟩
          have RMW : RM W1 ym := ⟨RW1, fun h => by have := HO.out.fm _ h; omega⟩
          have okB := ofBytes_Ok (nl := nl) HB.out
          have HLD := sload_any (i := i + 1) pm1 ⟨okB.las, okB.vie, okB.put, okB.few, okB.mks, ⟨by show 2 * i < _; omega, okB.num.2⟩⟩ RMW (by omega) (by omega) (by show _ ≤ 64 * nl; have := HNL.out; omega) (by show 2 * i + 2 < _; omega)
          have ev : ∀ q, q < 8 * nl → (St.ofBytes nl l).view.getD q 0 = pw l l.length q := fun q hq => by
            show (wordsK l (64 * nl) (8 * nl)).getD q 0 = _
            rw [List.getD_eq_getElem?_getD, wordsK_get hq, show 64 * nl = l.length from by rw [HL.out, HNL.out]; omega]; rfl
          have e1 : (St.ofBytes nl l).view.getD (128 * (i + 1)) 0 = hcW l i := ev _ (by have := HNL.out; omega)
          have e2 : (St.ofBytes nl l).view.getD (128 * (i + 1) + 1) 0 = hbW l i := ev _ (by have := HNL.out; omega)
          rw [show ({ St.ofBytes nl l with ld := 2 * i } : St).view = (St.ofBytes nl l).view from rfl, e1, e2] at HLD
          rw [HO.out.g0] at HLD
          have HW1 := Lib.hid hW1'
          have HS1 := Lib.hid hs1
          have HTS := Lib.hid ts1
          have HPM := Lib.hid pm1
          have HRW := Lib.hid RW1
          have HBW1 := Lib.hid bW1
          have HRL := Lib.hid rl
          obtain ⟨c, hc⟩ : ∃ c, c = hcW l i := ⟨_, rfl⟩
          obtain ⟨b, hbe⟩ : ∃ b, b = hbW l i := ⟨_, rfl⟩
          rw [← hc, ← hbe] at HLD
          have HC := Lib.hid hc
          have HBE := Lib.hid hbe
          have hin : i < 64 := by omega
          cases hok : okHead c b with
          | false =>
            unfold loadV at HLD
            rw [hok, if_neg (by decide)] at HLD
            have HLD := Lib.hid HLD
            have HE := Lib.hid (show ¬ okHeads l n from fun h => by have := h i hlt; rw [← hc, ← hbe, hok] at this; cases this)
            unfold jv at HLD cc
            rw [show (((i + 1 : Nat)) : Int) = (i : Int) + 1 from rfl] at HLD
            clear hx hs1 ts1 pm1 bW1 RW1 RMW okB ev e1 e2 hW1' hc hbe hok rl
            go_wp2_with fail
            rw [← hW1]
            refine HLD.out.mono ?_
            rintro e w5 ⟨rfl, ym5, hm5, ht5⟩
            have HB5 := Lib.hid (HBW1.out.trans (ht5.but.below HBW1.out.size HO.out.fm))
            clear hm5 ht5
            go_wp2
            go_ret2
            exact .inr ⟨HE.out, rfl, HB5.out⟩
          | true =>
            unfold loadV at HLD
            rw [hok, if_pos rfl] at HLD
            have HLD := Lib.hid HLD
            have hc3 : c ≤ 3 := by
              unfold okHead at hok
              simp only [Bool.and_eq_true, decide_eq_true_eq] at hok
              exact hok.1
            have hbf : b < 18446744073709551616 := by rw [hbe]; exact pw_fit HB.out _ _
            have HBF := Lib.hid hbf
            have HOK := Lib.hid (show okHead (hcW l i) (hbW l i) = true by rw [← hc, ← hbe]; exact hok)
            unfold jv wv at HLD
            unfold jv at cc
            rw [show (((i + 1 : Nat)) : Int) = (i : Int) + 1 from rfl] at HLD
            clear hx hs1 ts1 pm1 bW1 RW1 RMW okB ev e1 e2 hW1' hc hbe hok rl hbf
            go_wp2_with fail
            rw [← hW1]
            refine HLD.out.mono ?_
            rintro e w5 ⟨rfl, ym5, hm5, ht5⟩
            have hs5 := HS1.out.mem HPM.out ht5
            have HB5 := Lib.hid (HBW1.out.trans (ht5.but.below HBW1.out.size HO.out.fm))
            have RS5 : RS w5 y := by
              refine ⟨?_, fun h => by have := HO.out.fy _ h; have := HRL.out; omega⟩
              obtain ⟨t, ht⟩ := HR.out
              exact ⟨t, (HB5.out.block _ HRL.out).trans ht⟩
            have hx5 : ((hsK (hcW l) (hbW l) n i).set i { hdZ with no := i + 1 })[i]? = some { hdZ with no := i + 1 } := by rw [List.getElem?_set, if_pos rfl, if_pos (by rw [hsK_len]; exact hlt)]
            have HGV := give_any hs5 RS5 hx5 ⟨by show 1 ≤ i + 1; omega, by show i + 1 ≤ 64; omega⟩ hc3 HBF.out (by have := fsK_len (hcW l) (hbW l) i c; omega)
            rw [HO.out.gs, HO.out.gh] at HGV
            have HGV := Lib.hid HGV
            have HM5 := Lib.hid hm5
            have HT5 := Lib.hid ht5
            unfold jv fpt wv at HGV
            clear hm5 ht5 hs5 RS5 hx5 HLD
            go_wp2_with fail
            refine HGV.out.mono ?_
            rintro e w6 ⟨rfl, y6, hs6, ht6⟩
            have HNX := Lib.hid (show OfM w l n nl gs gh g0 (i + 1) w6 y6 ym5 from by
              rw [HC.out, HBE.out] at hs6
              exact HO.out.next hlt HW1.out HM5.out HT5.out HOK.out hs6 ht6)
            clear hs6 ht6 HGV
            go_wp2
            go_roundw
            case rel => exact ⟨i + 1, by omega, by go_num, _, _, HNX.out⟩
            case measure => simp [intOf]; omega
        · obtain rfl : i = n := by omega
          have HE := Lib.hid (show OfPost w l i (.returned (.tuple #[.pointer (some ⟨gs, 0, none⟩), .int .i64 0])) wr2 from .inl ⟨HO.out.ok, y, by rw [HO.out.gs]; rfl, HO.out.mem, HO.out.fy, HO.out.low⟩)
          clear hi
          go_wp2
          go_ret2
          exact HE.out
end Go.Proofs.YtahojhaeebmpoaaGreatDoor
/- Which addresses the sets have: those of the free blocks, once each; plain facts. -/
namespace Go.Proofs.YtahojhaeebmpoaaGreatDoor
open Go.RowKit Go.Sort
set_option linter.unusedVariables false
def FreeB (hs : List Hd) (c a : Nat) : Prop := ∃ (i j : Nat) (x : Hd), hs[i]? = some x ∧ x.cls = c ∧ x.bl[j]? = some 0 ∧ adr x.no c j = a
def FsOk (hs : List Hd) (fs : Nat → List Nat) : Prop := ∀ c, (fs c).Nodup ∧ ∀ a, a ∈ fs c ↔ FreeB hs c a
theorem ins_mem {a b : Nat} {s : List Nat} : b ∈ ins a s ↔ b = a ∨ b ∈ s := by
  unfold ins
  by_cases h : a ∈ s
  · rw [if_pos h]
    constructor
    · exact .inr
    · rintro (rfl | h1)
      · exact h
      · exact h1
  · rw [if_neg h, List.mem_cons]
theorem ins_nodup {a : Nat} {s : List Nat} (h : s.Nodup) : (ins a s).Nodup := by
  unfold ins
  split
  · exact h
  · rename_i hn; exact List.nodup_cons.2 ⟨hn, h⟩
theorem grown_nodup {no c b k : Nat} {s : List Nat} (h : s.Nodup) : (grown no c b s k).Nodup := by
  induction k with
  | zero => exact h
  | succ k ih =>
    unfold grown
    split
    · exact ih
    · exact ins_nodup ih
theorem grown_mem {no c b k a : Nat} {s : List Nat} : a ∈ grown no c b s k ↔ a ∈ s ∨ ∃ j, j < k ∧ b.testBit j = false ∧ adr no c j = a := by
  induction k with
  | zero =>
    show a ∈ s ↔ _
    constructor
    · exact .inl
    · rintro (h | ⟨j, hj, _⟩)
      · exact h
      · omega
  | succ k ih =>
    unfold grown
    split
    · rename_i hb
      rw [ih]
      constructor
      · rintro (h | ⟨j, hj, h⟩)
        · exact .inl h
        · exact .inr ⟨j, by omega, h⟩
      · rintro (h | ⟨j, hj, h1, h2⟩)
        · exact .inl h
        · refine .inr ⟨j, ?_, h1, h2⟩
          have : j ≠ k := by rintro rfl; rw [hb] at h1; cases h1
          omega
    · rename_i hb
      rw [ins_mem, ih]
      constructor
      · rintro (rfl | h | ⟨j, hj, h⟩)
        · exact .inr ⟨k, by omega, by simpa using hb, rfl⟩
        · exact .inl h
        · exact .inr ⟨j, by omega, h⟩
      · rintro (h | ⟨j, hj, h1, h2⟩)
        · exact .inr (.inl h)
        · by_cases e : j = k
          · subst e; exact .inl h2.symm
          · exact .inr (.inr ⟨j, by omega, h1, h2⟩)
theorem fsK_spec (hc hb : Nat → Nat) (i c : Nat) : (fsK hc hb i c).Nodup ∧ ∀ a, a ∈ fsK hc hb i c ↔ ∃ q, q < i ∧ hc q = c ∧ ∃ j, j < blN c ∧ (hb q).testBit j = false ∧ adr (q + 1) c j = a := by
  induction i generalizing c with
  | zero =>
    refine ⟨List.nodup_nil, fun a => ?_⟩
    constructor
    · intro h; cases h
    · rintro ⟨q, hq, _⟩; omega
  | succ i ih =>
    show (updF (fsK hc hb i) (hc i) (grown (i + 1) (hc i) (hb i) (fsK hc hb i (hc i)) (blN (hc i))) c).Nodup ∧ ∀ a, a ∈ updF (fsK hc hb i) (hc i) (grown (i + 1) (hc i) (hb i) (fsK hc hb i (hc i)) (blN (hc i))) c ↔ _
    by_cases e : c = hc i
    · subst e
      rw [updF_at]
      refine ⟨grown_nodup (ih _).1, fun a => ?_⟩
      rw [grown_mem, (ih _).2]
      constructor
      · rintro (⟨q, hq, h⟩ | ⟨j, hj, h⟩)
        · exact ⟨q, by omega, h⟩
        · exact ⟨i, by omega, rfl, j, hj, h⟩
      · rintro ⟨q, hq, h1, j, hj, h2⟩
        by_cases e : q = i
        · subst e; exact .inr ⟨j, hj, h2⟩
        · exact .inl ⟨q, by omega, h1, j, hj, h2⟩
    · rw [updF_ne _ _ e]
      refine ⟨(ih c).1, fun a => ?_⟩
      rw [(ih c).2]
      constructor
      · rintro ⟨q, hq, h⟩
        exact ⟨q, by omega, h⟩
      · rintro ⟨q, hq, h1, h⟩
        have : q ≠ i := by rintro rfl; exact e h1.symm
        exact ⟨q, by omega, h1, h⟩
theorem hsK_ok (hc hb : Nat → Nat) (n : Nat) : HsOk (hsK hc hb n n) := by
  intro i x hx
  have hi := (List.getElem?_eq_some_iff.1 hx).1
  rw [hsK_len] at hi
  rw [hsK_get hi, if_pos hi] at hx
  cases hx
  exact ⟨rfl, blK_len _ _ _⟩
theorem blK_get {n b k j : Nat} (hj : j < n) : (blK n b k)[j]? = some (if j < k ∧ b.testBit j = true then 2 else 0) := by
  unfold blK
  rw [List.getElem?_map, List.getElem?_range hj]; rfl
theorem fsK_ok (hc hb : Nat → Nat) (n : Nat) : FsOk (hsK hc hb n n) (fsK hc hb n) := by
  intro c
  refine ⟨(fsK_spec hc hb n c).1, fun a => ?_⟩
  rw [(fsK_spec hc hb n c).2]
  constructor
  · rintro ⟨q, hq, h1, j, hj, h2, h3⟩
    refine ⟨q, j, hdOf hc hb q, by rw [hsK_get hq, if_pos hq], h1, ?_, h3⟩
    show (blK (blN (hc q)) (hb q) (blN (hc q)))[j]? = _
    rw [h1, blK_get hj, if_neg (fun h => by rw [h2] at h; cases h.2)]
  · rintro ⟨q, j, x, hx, h1, h2, h3⟩
    have hq := (List.getElem?_eq_some_iff.1 hx).1
    rw [hsK_len] at hq
    rw [hsK_get hq, if_pos hq] at hx
    cases hx
    have h2' : (blK (blN (hc q)) (hb q) (blN (hc q)))[j]? = some 0 := h2
    have h1' : hc q = c := h1
    have hj := (List.getElem?_eq_some_iff.1 h2').1
    rw [blK_len] at hj
    rw [blK_get hj] at h2'
    refine ⟨q, hq, h1', j, by rw [← h1']; exact hj, ?_, h3⟩
    by_cases hb2 : (hb q).testBit j = true
    · rw [if_pos ⟨hj, hb2⟩] at h2'; cases h2'
    · simpa using hb2
theorem nodup_bound : ∀ (N : Nat) (s : List Nat), s.Nodup → (∀ x ∈ s, x < N) → s.length ≤ N
  | 0, s, _, h => by
    cases s with
    | nil => exact Nat.le_refl _
    | cons x t => have := h x List.mem_cons_self; omega
  | N + 1, s, hn, h => by
    by_cases hm : N ∈ s
    · have h1 := nodup_bound N (s.erase N) (hn.erase N) (fun x hx => by
        have := (List.Nodup.mem_erase_iff hn).1 hx
        have := h x this.2
        omega)
      rw [List.length_erase_of_mem hm] at h1
      omega
    · have := nodup_bound N s hn (fun x hx => by
        have h2 := h x hx
        have : x ≠ N := by rintro rfl; exact hm hx
        omega)
      omega
section
variable {hs : List Hd} {fs : Nat → List Nat}
theorem FreeB.found {c a : Nat} (h : FreeB hs c a) : ∃ (i j : Nat) (x : Hd), hs[i]? = some x ∧ x.cls = c ∧ x.bl[j]? = some 0 ∧ adr x.no c j = a ∧ Found hs a i j := by
  obtain ⟨i, j, x, hx, hc, hb, ha⟩ := h
  exact ⟨i, j, x, hx, hc, hb, ha, x, hx, (List.getElem?_eq_some_iff.1 hb).1, by rw [hc]; exact ha⟩
theorem FsOk.few (h : FsOk hs fs) (ok : HsOk hs) (hm : hs.length ≤ 64) (c : Nat) : (fs c).length ≤ 66561 := by
  refine nodup_bound 66561 _ (h c).1 fun x hx => ?_
  obtain ⟨i, j, z, _, _, _, _, hf⟩ := (((h c).2 x).1 hx).found
  have := found_range ok hm hf
  omega
theorem HsOk.set_bl (ok : HsOk hs) {i j v : Nat} {x : Hd} (hx : hs[i]? = some x) : HsOk (hs.set i { x with bl := x.bl.set j v }) := by
  intro k z hz
  rw [List.getElem?_set] at hz
  have hil := (List.getElem?_eq_some_iff.1 hx).1
  by_cases e : i = k
  · subst e
    rw [if_pos rfl, if_pos hil] at hz
    cases hz
    have := ok i x hx
    exact ⟨this.1, by show (x.bl.set j v).length = blN x.cls; rw [List.length_set]; exact this.2⟩
  · rw [if_neg e] at hz
    exact ok k z hz
theorem set_get {i j v k q u : Nat} {x z : Hd} (hx : hs[i]? = some x) (hj : j < x.bl.length) (hz : (hs.set i { x with bl := x.bl.set j v })[k]? = some z) (hb : z.bl[q]? = some u) :
    (k = i ∧ q = j ∧ u = v ∧ z.cls = x.cls ∧ z.no = x.no) ∨ (¬ (k = i ∧ q = j) ∧ ∃ z0, hs[k]? = some z0 ∧ z.cls = z0.cls ∧ z.no = z0.no ∧ z0.bl[q]? = some u) := by
  rw [List.getElem?_set] at hz
  have hil := (List.getElem?_eq_some_iff.1 hx).1
  by_cases e : i = k
  · subst e
    rw [if_pos rfl, if_pos hil] at hz
    cases hz
    have hb' : (x.bl.set j v)[q]? = some u := hb
    rw [List.getElem?_set] at hb'
    by_cases e2 : j = q
    · subst e2
      rw [if_pos rfl, if_pos hj] at hb'
      cases hb'
      exact .inl ⟨rfl, rfl, rfl, rfl, rfl⟩
    · rw [if_neg e2] at hb'
      exact .inr ⟨fun h => e2 h.2.symm, x, hx, rfl, rfl, hb'⟩
  · rw [if_neg e] at hz
    exact .inr ⟨fun h => e h.1.symm, z, hz, rfl, rfl, hb⟩
theorem get_set {i j v k q u : Nat} {x z0 : Hd} (hx : hs[i]? = some x) (hn : ¬ (k = i ∧ q = j)) (hz : hs[k]? = some z0) (hb : z0.bl[q]? = some u) :
    ∃ z, (hs.set i { x with bl := x.bl.set j v })[k]? = some z ∧ z.cls = z0.cls ∧ z.no = z0.no ∧ z.bl[q]? = some u := by
  have hil := (List.getElem?_eq_some_iff.1 hx).1
  by_cases e : i = k
  · subst e
    rw [hx] at hz
    cases hz
    refine ⟨{ x with bl := x.bl.set j v }, by rw [List.getElem?_set, if_pos rfl, if_pos hil], rfl, rfl, ?_⟩
    show (x.bl.set j v)[q]? = some u
    rw [List.getElem?_set, if_neg (fun e => hn ⟨rfl, e.symm⟩)]
    exact hb
  · exact ⟨z0, by rw [List.getElem?_set, if_neg e]; exact hz, rfl, rfl, hb⟩
/-- A free block is free no more. -/
theorem FsOk.take (h : FsOk hs fs) (ok : HsOk hs) (hm : hs.length ≤ 64) {i j v : Nat} {x : Hd} (hx : hs[i]? = some x) (hj : x.bl[j]? = some 0) (hv : v ≠ 0) :
    FsOk (hs.set i { x with bl := x.bl.set j v }) (updF fs x.cls ((fs x.cls).erase (adr x.no x.cls j))) := by
  have hjl := (List.getElem?_eq_some_iff.1 hj).1
  have hf : Found hs (adr x.no x.cls j) i j := ⟨x, hx, hjl, rfl⟩
  intro c
  have key : ∀ a, FreeB (hs.set i { x with bl := x.bl.set j v }) c a ↔ FreeB hs c a ∧ ¬ (c = x.cls ∧ a = adr x.no x.cls j) := by
    intro a
    constructor
    · rintro ⟨k, q, z, hz, hc, hb, ha⟩
      rcases set_get hx hjl hz hb with ⟨_, _, h0, _⟩ | ⟨hn, z0, hz0, h1, h2, h3⟩
      · exact absurd h0.symm hv
      · refine ⟨⟨k, q, z0, hz0, by rw [← h1]; exact hc, h3, by rw [← h2]; exact ha⟩, fun ⟨e1, e2⟩ => hn ?_⟩
        have hf2 : Found hs (adr x.no x.cls j) k q := ⟨z0, hz0, (List.getElem?_eq_some_iff.1 h3).1, by rw [← h1, ← h2, hc, ha, e2]⟩
        exact found_one ok hm hf2 hf
    · rintro ⟨⟨k, q, z0, hz0, hc, hb, ha⟩, hn⟩
      have hn' : ¬ (k = i ∧ q = j) := by
        rintro ⟨rfl, rfl⟩
        rw [hx] at hz0
        cases hz0
        exact hn ⟨hc.symm, by rw [← ha, hc]⟩
      obtain ⟨z, hz, h1, h2, h3⟩ := get_set (v := v) hx hn' hz0 hb
      exact ⟨k, q, z, hz, by rw [h1]; exact hc, h3, by rw [h2]; exact ha⟩
  by_cases e : c = x.cls
  · subst e
    rw [updF_at]
    refine ⟨(h _).1.erase _, fun a => ?_⟩
    rw [List.Nodup.mem_erase_iff (h _).1, key, (h _).2]
    constructor
    · rintro ⟨h1, h2⟩; exact ⟨h2, fun h3 => h1 h3.2⟩
    · rintro ⟨h1, h2⟩; exact ⟨fun h3 => h2 ⟨rfl, h3⟩, h1⟩
  · rw [updF_ne _ _ e]
    refine ⟨(h c).1, fun a => ?_⟩
    rw [(h c).2, key]
    exact ⟨fun h1 => ⟨h1, fun h2 => e h2.1⟩, fun h1 => h1.1⟩
/-- A block that is not free becomes free. -/
theorem FsOk.back (h : FsOk hs fs) (ok : HsOk hs) (hm : hs.length ≤ 64) {i j : Nat} {x : Hd} (hx : hs[i]? = some x) (hj : j < x.bl.length) :
    FsOk (hs.set i { x with bl := x.bl.set j 0 }) (updF fs x.cls (ins (adr x.no x.cls j) (fs x.cls))) := by
  intro c
  have hil := (List.getElem?_eq_some_iff.1 hx).1
  have key : ∀ a, FreeB (hs.set i { x with bl := x.bl.set j 0 }) c a ↔ FreeB hs c a ∨ (c = x.cls ∧ a = adr x.no x.cls j) := by
    intro a
    constructor
    · rintro ⟨k, q, z, hz, hc, hb, ha⟩
      rcases set_get hx hj hz hb with ⟨rfl, rfl, _, h1, h2⟩ | ⟨hn, z0, hz0, h1, h2, h3⟩
      · exact .inr ⟨by rw [← hc, h1], by rw [← ha, h2, ← hc, h1]⟩
      · exact .inl ⟨k, q, z0, hz0, by rw [← h1]; exact hc, h3, by rw [← h2]; exact ha⟩
    · rintro (⟨k, q, z0, hz0, hc, hb, ha⟩ | ⟨rfl, rfl⟩)
      · by_cases e : k = i ∧ q = j
        · obtain ⟨rfl, rfl⟩ := e
          rw [hx] at hz0
          cases hz0
          refine ⟨k, q, { x with bl := x.bl.set q 0 }, by rw [List.getElem?_set, if_pos rfl, if_pos hil], hc, ?_, ha⟩
          show (x.bl.set q 0)[q]? = some 0
          rw [List.getElem?_set, if_pos rfl, if_pos hj]
        · obtain ⟨z, hz, h1, h2, h3⟩ := get_set (v := 0) hx e hz0 hb
          exact ⟨k, q, z, hz, by rw [h1]; exact hc, h3, by rw [h2]; exact ha⟩
      · refine ⟨i, j, { x with bl := x.bl.set j 0 }, by rw [List.getElem?_set, if_pos rfl, if_pos hil], rfl, ?_, rfl⟩
        show (x.bl.set j 0)[j]? = some 0
        rw [List.getElem?_set, if_pos rfl, if_pos hj]
  by_cases e : c = x.cls
  · subst e
    rw [updF_at]
    refine ⟨ins_nodup (h _).1, fun a => ?_⟩
    rw [ins_mem, key, (h _).2]
    constructor
    · rintro (h1 | h1)
      · exact .inr ⟨rfl, h1⟩
      · exact .inl h1
    · rintro (h1 | h1)
      · exact .inr h1
      · exact .inl h1.2
  · rw [updF_ne _ _ e]
    refine ⟨(h c).1, fun a => ?_⟩
    rw [(h c).2, key]
    exact ⟨.inl, fun h1 => h1.elim id (fun h2 => absurd h2.1 e)⟩
/-- A block that is not free becomes another thing that is not free. -/
theorem FsOk.turn (h : FsOk hs fs) {i j u v : Nat} {x : Hd} (hx : hs[i]? = some x) (hj : x.bl[j]? = some u) (hu : u ≠ 0) (hv : v ≠ 0) : FsOk (hs.set i { x with bl := x.bl.set j v }) fs := by
  intro c
  have hjl := (List.getElem?_eq_some_iff.1 hj).1
  refine ⟨(h c).1, fun a => ?_⟩
  rw [(h c).2]
  constructor
  · rintro ⟨k, q, z0, hz0, hc, hb, ha⟩
    have hn' : ¬ (k = i ∧ q = j) := by
      rintro ⟨rfl, rfl⟩
      rw [hx] at hz0
      cases hz0
      rw [hj] at hb
      exact hu (Option.some.inj hb)
    obtain ⟨z, hz, h1, h2, h3⟩ := get_set (v := v) hx hn' hz0 hb
    exact ⟨k, q, z, hz, by rw [h1]; exact hc, h3, by rw [h2]; exact ha⟩
  · rintro ⟨k, q, z, hz, hc, hb, ha⟩
    rcases set_get hx hjl hz hb with ⟨_, _, h0, _⟩ | ⟨hn, z0, hz0, h1, h2, h3⟩
    · exact absurd h0.symm hv
    · exact ⟨k, q, z0, hz0, by rw [← h1]; exact hc, h3, by rw [← h2]; exact ha⟩
/-- A slab without a class is given one, all of its blocks free. -/
theorem FsOk.claim (h : FsOk hs fs) {i c : Nat} {x : Hd} (hx : hs[i]? = some x) (h0 : x.cls = 0) (hl : x.bl.length = 0) :
    FsOk (hs.set i ⟨x.no, c, 0, blK (blN c) 0 (blN c)⟩) (updF fs c (grown x.no c 0 (fs c) (blN c))) := by
  intro d
  have hil := (List.getElem?_eq_some_iff.1 hx).1
  have hz0 : ∀ j, (0 : Nat).testBit j = false := fun j => Nat.zero_testBit j
  have key : ∀ a, FreeB (hs.set i ⟨x.no, c, 0, blK (blN c) 0 (blN c)⟩) d a ↔ FreeB hs d a ∨ (d = c ∧ ∃ j, j < blN c ∧ adr x.no c j = a) := by
    intro a
    constructor
    · rintro ⟨k, q, z, hz, hc, hb, ha⟩
      rw [List.getElem?_set] at hz
      by_cases e : i = k
      · subst e
        rw [if_pos rfl, if_pos hil] at hz
        cases hz
        have hb' : (blK (blN c) 0 (blN c))[q]? = some 0 := hb
        have hq := (List.getElem?_eq_some_iff.1 hb').1
        rw [blK_len] at hq
        have hc' : c = d := hc
        subst hc'
        exact .inr ⟨rfl, q, hq, ha⟩
      · rw [if_neg e] at hz
        exact .inl ⟨k, q, z, hz, hc, hb, ha⟩
    · rintro (⟨k, q, z0, hz, hc, hb, ha⟩ | ⟨rfl, j, hj, ha⟩)
      · have e : i ≠ k := by
          rintro rfl
          rw [hx] at hz
          cases hz
          have := (List.getElem?_eq_some_iff.1 hb).1
          omega
        exact ⟨k, q, z0, by rw [List.getElem?_set, if_neg e]; exact hz, hc, hb, ha⟩
      · refine ⟨i, j, ⟨x.no, d, 0, blK (blN d) 0 (blN d)⟩, by rw [List.getElem?_set, if_pos rfl, if_pos hil], rfl, ?_, ha⟩
        show (blK (blN d) 0 (blN d))[j]? = some 0
        rw [blK_get hj, if_neg (fun h => by rw [hz0] at h; cases h.2)]
  by_cases e : d = c
  · subst e
    rw [updF_at]
    refine ⟨grown_nodup (h _).1, fun a => ?_⟩
    rw [grown_mem, key, (h _).2]
    constructor
    · rintro (h1 | ⟨j, hj, _, ha⟩)
      · exact .inl h1
      · exact .inr ⟨rfl, j, hj, ha⟩
    · rintro (h1 | ⟨_, j, hj, ha⟩)
      · exact .inl h1
      · exact .inr ⟨j, hj, hz0 j, ha⟩
  · rw [updF_ne _ _ e]
    refine ⟨(h d).1, fun a => ?_⟩
    rw [(h d).2, key]
    exact ⟨.inl, fun h1 => h1.elim id (fun h2 => absurd h2.1 e)⟩
theorem HsOk.claim (ok : HsOk hs) {i c b : Nat} {x : Hd} (hx : hs[i]? = some x) : HsOk (hs.set i ⟨x.no, c, b, blK (blN c) b (blN c)⟩) := by
  intro k z hz
  rw [List.getElem?_set] at hz
  have hil := (List.getElem?_eq_some_iff.1 hx).1
  by_cases e : i = k
  · subst e
    rw [if_pos rfl, if_pos hil] at hz
    cases hz
    exact ⟨(ok i x hx).1, blK_len _ _ _⟩
  · rw [if_neg e] at hz
    exact ok k z hz
end
end Go.Proofs.YtahojhaeebmpoaaGreatDoor
