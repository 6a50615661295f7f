/- Texts of this claim, packed: LOf, R6Of, LFree. -/
import Derived.Test.YtahojhaeebmpoaaGreatDoorPq27
import Derived.Test.YtahojhaeebmpoaaGreatDoorPq25
import Derived.Test.YtahojhaeebmpoaaGreatDoorPq04
import Derived.Test.YtahojhaeebmpoaaGreatDoorPq26
import Derived.Deep.RegionHeld3
import Derived.WalkMore
import Derived.Deep.RegionLaw
import Derived.Deep.AppendLies
/- Of: the blocks of an arena's bytes, or why there are none. -/
namespace Go.Proofs.YtahojhaeebmpoaaGreatDoor
open Go.RowKit Go.Sort
set_option linter.unusedVariables false
/-- A header's words, of an arena's bytes. -/
def hcW (l : List Nat) (q : Nat) : Nat := pw l l.length (128 * (q + 1))
def hbW (l : List Nat) (q : Nat) : Nat := pw l l.length (128 * (q + 1) + 1)
def okHeads (l : List Nat) (n : Nat) : Prop := ∀ q, q < n → okHead (hcW l q) (hbW l q) = true
/-- What Of makes of an arena's bytes: blocks in new memory, or ErrCorrupt. -/
def OfPost (w : World) (l : List Nat) (n : Nat) (e : Ending) (w' : World) : Prop :=
  (okHeads l n ∧ ∃ y, e = .returned (.tuple #[fpt y.gs, .int .i64 0]) ∧ SlabMem w' y (hsK (hcW l) (hbW l) n n) (fsK (hcW l) (hbW l) n) ∧ (∀ k, y.fp k → w.heap.size ≤ k) ∧ Below w.heap.size w w') ∨
  (¬ okHeads l n ∧ e = .returned (.tuple #[.pointer none, .int .i64 6]) ∧ Below w.heap.size w w')
def OfF (W : World) (gs gh n : Nat) (v : Value) (wr : World) : Prop := ∃ k : Nat, k ≤ 4 ∧ v = .int .i64 (k : Int) ∧ ∃ gf fv, FreeR W gs gh n k wr gf fv
structure OfM (w : World) (l : List Nat) (n nl gs gh g0 : Nat) (i : Nat) (wr : World) (y : SLay) (ym : Lay) : Prop where
  mem : SlabMem wr y (hsK (hcW l) (hbW l) n i) (fsK (hcW l) (hbW l) i)
  pm : MemAt wr ym { St.ofBytes nl l with ld := 2 * i }
  gs : y.gs = gs
  gh : y.gh = gh
  g0 : ym.g = g0
  fy : ∀ k, y.fp k → w.heap.size ≤ k
  fm : ∀ k, ym.fp k → w.heap.size ≤ k
  low : Below w.heap.size w wr
  ok : ∀ q, q < i → okHead (hcW l q) (hbW l q) = true
def OfL (w : World) (l : List Nat) (n nl gs gh g0 : Nat) (v : Value) (wr : World) : Prop := ∃ i : Nat, i ≤ n ∧ v = .int .i64 (i : Int) ∧ ∃ y ym, OfM w l n nl gs gh g0 i wr y ym
theorem OfM.next {w : World} {l : List Nat} {n nl gs gh g0 i : Nat} {wr W1 w2 w3 : World} {y y3 : SLay} {ym ym2 : Lay} (h : OfM w l n nl gs gh g0 i wr y ym) (hi : i < n)
    (hW1 : W1 = wr.setCell ⟨y.gh, i * 4, none⟩ (jv (i + 1))) (hm2 : MemAt w2 ym2 { St.ofBytes nl l with ld := 2 * (i + 1) }) (t2 : Turn W1 w2 ym ym2) (hok : okHead (hcW l i) (hbW l i) = true)
    (hs3 : SlabMem w3 y3 (((hsK (hcW l) (hbW l) n i).set i { hdZ with no := i + 1 }).set i (hdOf (hcW l) (hbW l) i)) (fsK (hcW l) (hbW l) (i + 1))) (t3 : STurn w2 w3 y y3) :
    OfM w l n nl gs gh g0 (i + 1) w3 y3 ym2 := by
  have hx : (hsK (hcW l) (hbW l) n i)[i]? = some hdZ := by rw [hsK_get hi, if_neg (by omega)]
  obtain ⟨h1, t1⟩ := h.mem.put_no hx (i + 1)
  rw [← hW1] at h1 t1
  have m1 := h.pm.slab h.mem t1
  have h2 := h1.mem m1 t2
  have b1 : Below w.heap.size w W1 := h.low.trans (t1.but.below h.low.size h.fy)
  have b2 : Below w.heap.size w w2 := b1.trans (t2.but.below b1.size h.fm)
  have b3 : Below w.heap.size w w3 := b2.trans (t3.but.below b2.size h.fy)
  rw [List.set_set, hsK_set] at hs3
  refine ⟨hs3, hm2.slab h2 t3, t3.gs.trans h.gs, t3.gh.trans h.gh, t2.g.trans h.g0, fun k hk => ?_, fun k hk => ?_, b3, fun q hq => ?_⟩
  · rcases t3.fp k hk with h4 | h4
    · exact h.fy k h4
    · exact Nat.le_trans b2.size h4
  · rcases t2.fp k hk with h4 | h4
    · exact h.fm k h4
    · exact Nat.le_trans b1.size h4
  · by_cases e : q = i
    · subst e; exact hok
    · exact h.ok q (by omega)
set_option maxRecDepth 100000 in
set_option maxHeartbeats 3200000 in
theorem slabOf_yes {w : World} {A : Option Addr} {cap n : Nat} {l : List Nat} (hl : l.length = 1024 * (n + 1)) (hA : Sl w A (l.map bv)) (hb : ∀ x ∈ l, x < 256) (h0 : 0 < n) (h1 : n ≤ 64) (R : Rms w) :
    Calls Tryz.prog 9 #[.slice A (1024 * (n + 1)) cap] w (OfPost w l n) := by
  have mixed : Tryz.prog.follows .mixedOrders = true := by kernel_rfl
  have HS := Lib.hid (slabs_yes (n := ((1024 * (n + 1) : Nat) : Int)) (by omega) w)
  rw [show ((1024 * (n + 1) : Nat) : Int) / 1024 - 1 = (n : Int) from by omega] at HS
  obtain ⟨nl, hnl⟩ : ∃ nl, nl = 16 * (n + 1) := ⟨_, rfl⟩
  have HO := Lib.hid (pOf_yes (cap := cap) (nl := nl) (by omega) hA hb (by omega) (by omega))
  rw [show 64 * nl = 1024 * (n + 1) from by omega] at HO
  obtain ⟨Z, hZ⟩ : ∃ Z, Z = 1024 * (n + 1) := ⟨_, rfl⟩
  rw [← hZ] at HS HO ⊢
  obtain ⟨i0, hi, hz0, hz1, hz2⟩ := info_parts info_header
  have hm1 := fun W : World => run_make (P := Tryz.prog) W 83 91 i0 _ Tryz.underlying83 hi hz0 .i64 .i64 ((n : Nat) : Int) ((n : Nat) : Int) (by omega) (by omega) (by rw [hz2]; omega) (by omega)
  simp only [Int.toNat_natCast, hz1] at hm1
  have HR := Lib.hid R
  have HL := Lib.hid hl
  have HB := Lib.hid hb
  have HZ := Lib.hid hZ
  have HNL := Lib.hid hnl
  have hZB : Z ≤ 66560 := by omega
  clear hA hl hb hZ R hnl
  go_enter Tryz.func9, Tryz.ntmps9
  go_wp2_with fail
  refine HS.out.mono ?_
  rintro e w1 ⟨rfl, rfl⟩
  go_wp2_with fail
  refine HO.out.mono ?_
  rintro e w2 ⟨ym, rfl, hm, hfm, hb2⟩
  have HM := Lib.hid hm
  have HFM := Lib.hid hfm
  have HB2 := Lib.hid hb2
  clear hm hfm hb2 HO
  go_upto_region 8 with (fail)
  obtain ⟨W3, hW3⟩ : ∃ W3, W3 = (w2.alloc (.cells (madeCells #[.int .i64 0, .int .i64 0, .int .u64 0, .slice none 0 0] (n * 4)) 91)).alloc (.cells #[.slice (some ⟨w2.heap.size, 0, none⟩) n n, .pointer none, .pointer none, .pointer none, .pointer none] 87) := ⟨_, rfl⟩
  rw [← hW3]
  obtain ⟨gh, hgh⟩ : ∃ gh, gh = w2.heap.size := ⟨_, rfl⟩
  obtain ⟨gs, hgs⟩ : ∃ gs, gs = w2.heap.size + 1 := ⟨_, rfl⟩
  have hhr : Row W3 gh 91 (madeCells #[.int .i64 0, .int .i64 0, .int .u64 0, .slice none 0 0] (n * 4)) := by rw [hW3, hgh]; exact (Row.new _ _ _).alloc _
  have hsr : Row W3 gs 87 (scells gh n (fun _ => 0) 0) := by
    have e : gs = (w2.alloc (.cells (madeCells #[.int .i64 0, .int .i64 0, .int .u64 0, .slice none 0 0] (n * 4)) 91)).heap.size := by rw [hgs]; simp
    rw [hW3, e, hgh]; exact Row.new _ _ _
  have hbW : Below w2.heap.size w2 W3 := by rw [hW3]; exact Below.and (alloc_below _ _) (alloc_below _ _)
  have hszW : W3.heap.size = w2.heap.size + 2 := by rw [hW3]; simp
  rw [← hgs, ← hgh]
  have HHR := Lib.hid hhr
  have HSR := Lib.hid hsr
  have HBW := Lib.hid hbW
  have HSZ := Lib.hid hszW
  have HGS := Lib.hid hgs
  have HGH := Lib.hid hgh
  have HGB := Lib.hid (show w.heap.size ≤ gh ∧ w.heap.size ≤ gs ∧ gs ≠ gh ∧ gs < W3.heap.size from by have := HB2.out.size; omega)
  clear hW3 hhr hsr hbW hszW hgs hgh hm1
  go_wp2
  go_loopw [35] (fun v wr => OfF W3 gs gh n v wr) (fun v _ => 4 - (intOf v).toNat)
  case atStart => exact ⟨0, by omega, rfl, fun _ => 0, fun _ => .slice none 0 0, HSR.out, But.refl _ _, fun c hc => by omega, fun c hc => by omega, fun c d hc => by omega, fun c d hc => by omega⟩
  case round =>
    obtain ⟨k, hk, rfl, gf, fv, hF⟩ := hrel
    rename World => wr
    have HF := Lib.hid hF
    clear hF
    by_cases hlt : k < 4
    · go_wp2_with fail
      have HNF : ∀ W : World, Hid (Calls Tryz.prog 36 #[.slice none 0 0] W fun e w' => ∃ s, s.Nodup ∧ (∀ x, x ∈ s ↔ x ∈ ([] : List Nat) ∧ x ≠ 0) ∧ s.length ≤ ([] : List Nat).length ∧ Made W s e w') := fun W => Lib.hid (newFree_few (w := W) (.inl ⟨rfl, rfl⟩) (by decide))
      go_region_held3 (fun _ => True) (trivial)
        ((refine (HNF _).out.mono ?_; rintro e w4 ⟨s, hnd, hmem, hsl, g, v, rfl, hS, hnew, hb4⟩; have hb4' := (drew_below wr).trans hb4; have hrw := HF.out.row.below hb4' HF.out.row.lt; have cc := hrw.cell (1 + k); rw [scells_get gh n gf hlt] at cc; have ff := hrw.free (1 + k)))
      have HNX := Lib.hid (show FreeR W3 gs gh n (k + 1) (w4.setCell ⟨gs, 1 + k, none⟩ (fpt g)) (updF gf k g) (updF fv k v) from by
        obtain rfl : s = [] := List.eq_nil_of_length_eq_zero (Nat.le_zero.1 hsl)
        exact HF.out.next hlt HGB.out.2.2.2 hS hnew hb4')
      clear hnd hmem hsl hS hnew hb4 hb4' hrw cc ff
      unfold fpt at HNX
      go_wp2
      go_roundw
      case rel => exact ⟨k + 1, by omega, by go_num, _, _, HNX.out⟩
      case measure => simp [intOf]; omega
    · have hF4 : FreeR W3 gs gh n 4 wr gf fv := by
        have h4 : k = 4 := by omega
        rw [← h4]; exact HF.out
      have HF := Lib.hid hF4
      clear hF4
      have hz := zero_slab HF.out HHR.out HGB.out.2.2.1 h0 h1
      have hb3 : Below w.heap.size w wr := (HB2.out.trans (HBW.out.mono HB2.out.size)).trans (HF.out.but.below (by have := HB2.out.size; have := HSZ.out; omega) (fun q e => by rw [e]; exact HGB.out.2.1))
      have hpm : MemAt wr ym { St.ofBytes nl l with ld := 2 * 0 } := (HM.out.below HBW.out).but HF.out.but fun q hq e => by have h3 := HM.out.lt q hq; have := HGS.out; omega
      have HOM := Lib.hid (show OfM w l n nl gs gh ym.g 0 wr ⟨gs, gh, n, fun _ => .slice none 0 0, gf, fv⟩ ym from by
        refine ⟨by rw [hsK_zero]; exact hz, hpm, rfl, rfl, rfl, fun q hq => ?_, HFM.out, hb3, fun q hq => by omega⟩
        rcases hq with rfl | rfl | ⟨c, hc, hq⟩ | ⟨i, _, hq⟩
        · exact HGB.out.2.1
        · exact HGB.out.1
        · have h4 := HF.out.new c hc q hq
          have := HSZ.out; have := HB2.out.size
          omega
        · cases hq)
      have c0 : wr.cell? ⟨gs, 0, none⟩ = some (.slice (some ⟨gh, 0, none⟩) n n) := HF.out.row.cell 0
      clear hz hb3 hpm hk HF HHR HSR HBW HM HFM
      obtain ⟨g0, hg0⟩ : ∃ g0, g0 = ym.g := ⟨_, rfl⟩
      rw [← hg0] at HOM ⊢
      clear hg0
      go_wp2
      clear c0
      go_loopw [50] (fun v wr => OfL w l n nl gs gh g0 v wr) (fun v _ => n - (intOf v).toNat)
      case atStart => exact ⟨0, by omega, rfl, _, _, HOM.out⟩
      case round =>
        obtain ⟨i, hi, rfl, y, ym, hO⟩ := hrel
        rename World => wr2
        have HO := Lib.hid hO
        clear hO HOM
        by_cases hlt : i < n
        · have hx : (hsK (hcW l) (hbW l) n i)[i]? = some hdZ := by rw [hsK_get hlt, if_neg (by omega)]
          have c0 := HO.out.mem.field
          rw [hsK_len, HO.out.gs, HO.out.gh] at c0
          have cc := (HO.out.mem.head hx).1
          have ff := HO.out.mem.hfree (i * 4)
          rw [HO.out.gh] at cc ff
          obtain ⟨hs1, ts1⟩ := HO.out.mem.put_no hx (i + 1)
          have pm1 := HO.out.pm.slab HO.out.mem ts1
          obtain ⟨W1, hW1⟩ : ∃ W1, W1 = wr2.setCell ⟨gh, i * 4, none⟩ (.int .i64 ((i : Int) + 1)) := ⟨_, rfl⟩
          have hW1' : W1 = wr2.setCell ⟨y.gh, i * 4, none⟩ (jv (i + 1)) := by rw [hW1, HO.out.gh]; rfl
          rw [← hW1'] at hs1 ts1 pm1
          have bW1 : Below w.heap.size w W1 := HO.out.low.trans (ts1.but.below HO.out.low.size HO.out.fy)
          have rl : 0 < w.heap.size := by obtain ⟨t, ht⟩ := HR.out; exact heap_lt ht
          have RW1 : Rms W1 := by obtain ⟨t, ht⟩ := HR.out; exact ⟨t, (bW1.block _ rl).trans ht⟩
          have RMW : RM W1 ym := ⟨RW1, fun h => by have := HO.out.fm _ h; omega⟩
          have okB := ofBytes_Ok (nl := nl) HB.out
          have HLD := sload_any (i := i + 1) pm1 ⟨okB.las, okB.vie, okB.put, okB.few, okB.mks, ⟨by show 2 * i < _; omega, okB.num.2⟩⟩ RMW (by omega) (by omega) (by show _ ≤ 64 * nl; have := HNL.out; omega) (by show 2 * i + 2 < _; omega)
          have ev : ∀ q, q < 8 * nl → (St.ofBytes nl l).view.getD q 0 = pw l l.length q := fun q hq => by
            show (wordsK l (64 * nl) (8 * nl)).getD q 0 = _
            rw [List.getD_eq_getElem?_getD, wordsK_get hq, show 64 * nl = l.length from by rw [HL.out, HNL.out]; omega]; rfl
          have e1 : (St.ofBytes nl l).view.getD (128 * (i + 1)) 0 = hcW l i := ev _ (by have := HNL.out; omega)
          have e2 : (St.ofBytes nl l).view.getD (128 * (i + 1) + 1) 0 = hbW l i := ev _ (by have := HNL.out; omega)
          rw [show ({ St.ofBytes nl l with ld := 2 * i } : St).view = (St.ofBytes nl l).view from rfl, e1, e2] at HLD
          rw [HO.out.g0] at HLD
          have HW1 := Lib.hid hW1'
          have HS1 := Lib.hid hs1
          have HTS := Lib.hid ts1
          have HPM := Lib.hid pm1
          have HRW := Lib.hid RW1
          have HBW1 := Lib.hid bW1
          have HRL := Lib.hid rl
          obtain ⟨c, hc⟩ : ∃ c, c = hcW l i := ⟨_, rfl⟩
          obtain ⟨b, hbe⟩ : ∃ b, b = hbW l i := ⟨_, rfl⟩
          rw [← hc, ← hbe] at HLD
          have HC := Lib.hid hc
          have HBE := Lib.hid hbe
          have hin : i < 64 := by omega
          cases hok : okHead c b with
          | false =>
            unfold loadV at HLD
            rw [hok, if_neg (by decide)] at HLD
            have HLD := Lib.hid HLD
            have HE := Lib.hid (show ¬ okHeads l n from fun h => by have := h i hlt; rw [← hc, ← hbe, hok] at this; cases this)
            unfold jv at HLD cc
            rw [show (((i + 1 : Nat)) : Int) = (i : Int) + 1 from rfl] at HLD
            clear hx hs1 ts1 pm1 bW1 RW1 RMW okB ev e1 e2 hW1' hc hbe hok rl
            go_wp2_with fail
            rw [← hW1]
            refine HLD.out.mono ?_
            rintro e w5 ⟨rfl, ym5, hm5, ht5⟩
            have HB5 := Lib.hid (HBW1.out.trans (ht5.but.below HBW1.out.size HO.out.fm))
            clear hm5 ht5
            go_wp2
            go_ret2
            exact .inr ⟨HE.out, rfl, HB5.out⟩
          | true =>
            unfold loadV at HLD
            rw [hok, if_pos rfl] at HLD
            have HLD := Lib.hid HLD
            have hc3 : c ≤ 3 := by
              unfold okHead at hok
              simp only [Bool.and_eq_true, decide_eq_true_eq] at hok
              exact hok.1
            have hbf : b < 18446744073709551616 := by rw [hbe]; exact pw_fit HB.out _ _
            have HBF := Lib.hid hbf
            have HOK := Lib.hid (show okHead (hcW l i) (hbW l i) = true by rw [← hc, ← hbe]; exact hok)
            unfold jv wv at HLD
            unfold jv at cc
            rw [show (((i + 1 : Nat)) : Int) = (i : Int) + 1 from rfl] at HLD
            clear hx hs1 ts1 pm1 bW1 RW1 RMW okB ev e1 e2 hW1' hc hbe hok rl hbf
            go_wp2_with fail
            rw [← hW1]
            refine HLD.out.mono ?_
            rintro e w5 ⟨rfl, ym5, hm5, ht5⟩
            have hs5 := HS1.out.mem HPM.out ht5
            have HB5 := Lib.hid (HBW1.out.trans (ht5.but.below HBW1.out.size HO.out.fm))
            have RS5 : RS w5 y := by
              refine ⟨?_, fun h => by have := HO.out.fy _ h; have := HRL.out; omega⟩
              obtain ⟨t, ht⟩ := HR.out
              exact ⟨t, (HB5.out.block _ HRL.out).trans ht⟩
            have hx5 : ((hsK (hcW l) (hbW l) n i).set i { hdZ with no := i + 1 })[i]? = some { hdZ with no := i + 1 } := by rw [List.getElem?_set, if_pos rfl, if_pos (by rw [hsK_len]; exact hlt)]
            have HGV := give_any hs5 RS5 hx5 ⟨by show 1 ≤ i + 1; omega, by show i + 1 ≤ 64; omega⟩ hc3 HBF.out (by have := fsK_len (hcW l) (hbW l) i c; omega)
            rw [HO.out.gs, HO.out.gh] at HGV
            have HGV := Lib.hid HGV
            have HM5 := Lib.hid hm5
            have HT5 := Lib.hid ht5
            unfold jv fpt wv at HGV
            clear hm5 ht5 hs5 RS5 hx5 HLD
            go_wp2_with fail
            refine HGV.out.mono ?_
            rintro e w6 ⟨rfl, y6, hs6, ht6⟩
            have HNX := Lib.hid (show OfM w l n nl gs gh g0 (i + 1) w6 y6 ym5 from by
              rw [HC.out, HBE.out] at hs6
              exact HO.out.next hlt HW1.out HM5.out HT5.out HOK.out hs6 ht6)
            clear hs6 ht6 HGV
            go_wp2
            go_roundw
            case rel => exact ⟨i + 1, by omega, by go_num, _, _, HNX.out⟩
            case measure => simp [intOf]; omega
        · obtain rfl : i = n := by omega
          have HE := Lib.hid (show OfPost w l i (.returned (.tuple #[.pointer (some ⟨gs, 0, none⟩), .int .i64 0])) wr2 from .inl ⟨HO.out.ok, y, by rw [HO.out.gs]; rfl, HO.out.mem, HO.out.fy, HO.out.low⟩)
          clear hi
          go_wp2
          go_ret2
          exact HE.out
end Go.Proofs.YtahojhaeebmpoaaGreatDoor
/- The document's blocks of an arena's bytes: what Of answers, and what lies in memory then. -/
namespace Go.Proofs.YtahojhaeebmpoaaGreatDoor
open Go.RowKit Go.Sort
set_option linter.unusedVariables false
theorem own_block {w w' : World} {B n k : Nat} {e : TypeId} {v : Value} {xs : List Value} (h : w.ownsRow B e k v n xs) (hk : ∀ g, v.ownBlock = some g → w'.heap[g]? = w.heap[g]?) : w'.ownsRow B e k v n xs := by
  refine ⟨h.1, ?_⟩
  rcases h.2 with h0 | ⟨g, cap, cur, rfl, hg, hh, hr⟩
  · exact .inl h0
  · exact .inr ⟨g, cap, cur, rfl, hg, (hk g rfl).trans hh, hr⟩
theorem own_tag {w : World} {B n k : Nat} {e : TypeId} {v : Value} {xs : List Value} (h : w.ownsRow B e k v n xs) {g : Nat} (hg : v.ownBlock = some g) : Tag w g e := by
  rcases h.2 with ⟨rfl, _⟩ | ⟨g', cap, cur, rfl, _, hh, _⟩
  · cases hg
  · cases hg; exact ⟨_, _, hh⟩
theorem own_grown {w w' : World} {B n k : Nat} {e : TypeId} {v : Value} {xs : List Value} {row : Option Nat} (h : w.ownsRow B e k v n xs) (hb : w.grownBy w' row) (hn : ∀ g, v.ownBlock = some g → some g ≠ row) : w'.ownsRow B e k v n xs :=
  own_block h fun g hg => hb.block g (by obtain ⟨_, _, h⟩ := own_tag h hg; exact heap_lt h) (hn g hg)
theorem own_setc {w : World} {B n k : Nat} {e : TypeId} {v : Value} {xs : List Value} (h : w.ownsRow B e k v n xs) {p : Addr} (u : Value) (hn : ∀ g, v.ownBlock = some g → g ≠ p.block) : (w.setCell p u).ownsRow B e k v n xs :=
  own_block h fun g hg => heap_setCell_other _ _ _ _ (hn g hg)
theorem own_low {w w' : World} {B C n k : Nat} {e : TypeId} {v : Value} {xs : List Value} (h : w.ownsRow B e k v n xs) (hb : Below w.heap.size w w') : w'.ownsRow B e k v n xs :=
  own_block h fun g hg => hb.block g (by obtain ⟨_, _, h⟩ := own_tag h hg; exact heap_lt h)
theorem own_base {w : World} {B n k : Nat} {e : TypeId} {v : Value} {xs : List Value} (h : w.ownsRow B e k v n xs) {g : Nat} (hg : v.ownBlock = some g) : B ≤ g := by
  rcases h.2 with ⟨rfl, _⟩ | ⟨g', cap, cur, rfl, hb, _⟩
  · cases hg
  · cases hg; exact hb
/-- Blocks as cells. -/
def flatB (l : List (Nat × Nat)) : List Value := l.flatMap fun p => [wv p.1, jv p.2]
theorem flatB_snoc (l : List (Nat × Nat)) (p : Nat × Nat) : flatB (l ++ [p]) = flatB l ++ [wv p.1, jv p.2] := by simp [flatB]
/-- The document's world, as it lies: its size, the slabs' classes, the blocks that are not free. -/
structure W6At (w : World) (B gw size : Nat) (cls : List Nat) (L : List (Nat × Nat)) (vc vl : Value) : Prop where
  row : Row w gw 69 #[jv size, vc, vl]
  cls : w.ownsRow B 3 1 vc cls.length (cls.map jv)
  bl : w.ownsRow B 99 2 vl L.length (flatB L)
  low : B ≤ gw
theorem W6At.below {w w' : World} {B gw size : Nat} {cls : List Nat} {L : List (Nat × Nat)} {vc vl : Value} (h : W6At w B gw size cls L vc vl) (hb : Below w.heap.size w w') : W6At w' B gw size cls L vc vl :=
  ⟨h.row.below hb h.row.lt, own_low (C := 0) h.cls hb, own_low (C := 0) h.bl hb, h.low⟩
def clsK (l : List Nat) (q : Nat) : List Nat := (List.range q).map (hcW l)
def blsK (l : List Nat) (p : Nat) (ks : List Nat) : List (Nat × Nat) := ks.map fun k => (adr (p + 1) (hcW l p) k, 2)
def LK (l : List Nat) (q : Nat) : List (Nat × Nat) := (List.range q).flatMap fun p => blsK l p (upB (hbW l p) 64)
theorem clsK_succ (l : List Nat) (q : Nat) : clsK l (q + 1) = clsK l q ++ [hcW l q] := by unfold clsK; rw [List.range_succ, List.map_append]; rfl
theorem LK_succ (l : List Nat) (q : Nat) : LK l (q + 1) = LK l q ++ blsK l q (upB (hbW l q) 64) := by unfold LK; rw [List.range_succ, List.flatMap_append]; simp
theorem clsK_len (l : List Nat) (q : Nat) : (clsK l q).length = q := by simp [clsK]
theorem LK_len (l : List Nat) (q : Nat) : (LK l q).length ≤ 64 * q := by
  induction q with
  | zero => exact Nat.le_refl _
  | succ q ih =>
    rw [LK_succ, List.length_append]
    have h1 := upB_len (hbW l q) 64
    have h2 : (blsK l q (upB (hbW l q) 64)).length = (upB (hbW l q) 64).length := by simp [blsK]
    omega
theorem hcW_eq (l : List Nat) (q : Nat) : hcW l q = ofB ((l.drop (1024 * (q + 1))).take 8) ∧ hbW l q = ofB ((l.drop (1024 * (q + 1) + 8)).take 8) := by
  unfold hcW hbW pw
  rw [List.take_of_length_le (Nat.le_refl _)]
  exact ⟨by rw [show 8 * (128 * (q + 1)) = 1024 * (q + 1) from by omega], by rw [show 8 * (128 * (q + 1) + 1) = 1024 * (q + 1) + 8 from by omega]⟩
theorem W6At.pushB {W w1 : World} {B gw size : Nat} {cls : List Nat} {L : List (Nat × Nat)} {vc : Value} {A : Option Addr} {NL cl g cap : Nat} {p : Nat × Nat} (h : W6At W B gw size cls L vc (.slice A NL cl)) (hn : L.length = NL)
    (hown : w1.ownsRow B 99 2 (.slice (some ⟨g, 0, none⟩) (NL + 1) cap) (NL + 1) (flatB L ++ [wv p.1, jv p.2])) (hgrow : W.grownBy w1 (Value.slice A NL cl).ownBlock) :
    W6At (w1.setCell ⟨gw, 2, none⟩ (.slice (some ⟨g, 0, none⟩) (NL + 1) cap)) B gw size cls (L ++ [p]) vc (.slice (some ⟨g, 0, none⟩) (NL + 1) cap) := by
  have hne : ∀ g, (Value.slice A NL cl).ownBlock = some g → g ≠ gw := fun g hg => tagNe (own_tag h.bl hg) h.row.tag (by decide)
  have hr : Row w1 gw 69 _ := h.row.grown hgrow (fun e => hne gw e.symm rfl)
  have hc := own_grown h.cls hgrow (fun g hg e => tagNe (own_tag h.cls hg) (own_tag h.bl e.symm) (by decide) rfl)
  refine ⟨hr.set 2 _, own_setc hc _ (fun g hg => tagNe (own_tag hc hg) hr.tag (by decide)), ?_, h.low⟩
  rw [List.length_append, hn, flatB_snoc]
  exact own_setc hown _ (fun g hg => tagNe (own_tag hown hg) hr.tag (by decide))
theorem blsK_succ (l : List Nat) (q k : Nat) (ks : List Nat) (h : k < ks.length) : blsK l q (ks.take (k + 1)) = blsK l q (ks.take k) ++ [(adr (q + 1) (hcW l q) (gd ks k), 2)] := by
  unfold blsK
  rw [List.take_add_one, List.map_append, List.getElem?_eq_getElem h]
  simp [gd, List.getD_eq_getElem?_getD, h]
def R6Post (w : World) (l : List Nat) (n : Nat) (e : Ending) (w' : World) : Prop :=
  (okHeads l n ∧ ∃ gw vc vl, e = .returned (.tuple #[fpt gw, .int .i64 0]) ∧ W6At w' w.heap.size gw l.length (clsK l n) (LK l n) vc vl ∧ Below w.heap.size w w') ∨
  (¬ okHeads l n ∧ e = .returned (.tuple #[.pointer none, .int .i64 6]) ∧ Below w.heap.size w w')
def R6R (w : World) (l : List Nat) (n gw : Nat) (v : Value) (wr : World) : Prop :=
  ∃ q : Nat, q ≤ n ∧ v = .int .i64 ((q : Int) + 1) ∧ (∃ vc vl, W6At wr w.heap.size gw l.length (clsK l q) (LK l q) vc vl) ∧ Below w.heap.size w wr ∧ ∀ p, p < q → okHead (hcW l p) (hbW l p) = true
def R6I (w : World) (l : List Nat) (q gw B2 : Nat) (vb : Value) (v : Value) (wr : World) : Prop :=
  ∃ k : Nat, k ≤ (upB (hbW l q) 64).length ∧ v = .int .i64 (k : Int) ∧ (∃ vc vl, W6At wr w.heap.size gw l.length (clsK l (q + 1)) (LK l q ++ blsK l q ((upB (hbW l q) 64).take k)) vc vl) ∧ Below w.heap.size w wr ∧ wr.ownsRow B2 3 1 vb (upB (hbW l q) 64).length ((upB (hbW l q) 64).map ivn)
/-- A call of a function of one answer that leaves the world be, as one step of a region that draws its order. -/
theorem step_call {P : Program} {ops : Array Oper} {o : Oper} {a : Act} {w : World} {K : Act → World → Prop} {Q : Exit → Act → World → Prop} {E : Prop} (hg : o.guard = none) (f : FuncId) (eg : ∀ args w, (callFunc f args).run P w = .ok (.enter f args) w) (x1 x2 x3 : Operand) (ts : Array TypeId)
    (ho : o.op = .call { callee := .value (.func f), args := #[x1, x2, x3], argTypes := ts }) (v1 v2 v3 v : Value) (h1 : a.eval x1 = v1) (h2 : a.eval x2 = v2) (h3 : a.eval x3 = v3) (h : Calls P f #[v1, v2, v3] w fun e w' => e = .returned v ∧ w = w')
    (hK : K (a.put o.dst v) w) : if Region.wanted o (yielded ops a.tmps) = true then Oper.wp P o a w K Q else E := by
  have hw : Region.wanted o (yielded ops a.tmps) = true := by simp [Region.wanted, hg]
  rw [if_pos hw]
  unfold Oper.wp
  have e0 : a.eval (.func f) = .func (.func f) #[] #[] := rfl
  have : (execOp a.eval o).run P w = .ok (.enter f #[v1, v2, v3]) w := by
    simp [execOp, ho, resolve, invoke, e0, Deferred.ofValue, eg, h1, h2, h3]
  rw [this, Oper.upon_enter]
  refine h.mono ?_
  rintro e w' ⟨rfl, rfl⟩
  exact hK
theorem info_block6 : (Tryz.prog.info? 99).map (fun i => (i.zero, i.size, i.bytes)) = some (some (.agg #[.int .u64 0, .int .i64 0]), 2, 16) := by kernel_rfl
set_option maxRecDepth 100000 in
set_option maxHeartbeats 3200000 in
theorem r6Of_yes {w : World} {a : Addr} {cap n : Nat} {l : List Nat} (hl : l.length = 1024 * (n + 1)) (hA : Sl w (some a) (l.map bv)) (hb : ∀ x ∈ l, x < 256) (h0 : 0 < n) (h1 : n ≤ 64) :
    Calls Tryz.prog 10 #[.slice (some a) (1024 * (n + 1)) cap] w (R6Post w l n) := by
  have mixed : Tryz.prog.follows .mixedOrders = true := by kernel_rfl
  have HS := Lib.hid (refSlabs_any ((1024 * (n + 1) : Nat) : Int) w)
  rw [show slabsN ((1024 * (n + 1) : Nat) : Int) = (n : Int) from by unfold slabsN; rw [if_pos (by omega)]; omega] at HS
  obtain ⟨Z, hZ⟩ : ∃ Z, Z = 1024 * (n + 1) := ⟨_, rfl⟩
  rw [← hZ] at HS ⊢
  have hz : ((n : Int) == 0) = false := by rw [Bool.eq_false_iff]; intro k; have := beq_iff_eq.1 k; omega
  have HT := Lib.hid (show ∀ (W : World) (q : Nat), q < n → Below w.heap.size w W → Calls Tryz.prog 40 #[.slice (some a) Z cap, .int .i64 (1024 * ((q : Int) + 1))] W (fun e w' => e = .returned (wv (hcW l q)) ∧ W = w') ∧ Calls Tryz.prog 40 #[.slice (some a) Z cap, .int .i64 (1024 * ((q : Int) + 1) + 8)] W (fun e w' => e = .returned (wv (hbW l q)) ∧ W = w') from fun W q hq hbW' => by
    have hs := hA.below hbW'
    obtain ⟨e1, e2⟩ := hcW_eq l q
    have t1 := r1Take_any l a Z cap (1024 * (q + 1)) W (by omega) (by omega) (by omega) hb hs
    have t2 := r1Take_any l a Z cap (1024 * (q + 1) + 8) W (by omega) (by omega) (by omega) hb hs
    rw [← e1, show ((1024 * (q + 1) : Nat) : Int) = 1024 * ((q : Int) + 1) from by omega] at t1
    rw [← e2, show ((1024 * (q + 1) + 8 : Nat) : Int) = 1024 * ((q : Int) + 1) + 8 from by omega] at t2
    exact ⟨t1, t2⟩)
  have HB := Lib.hid hb
  have HL := Lib.hid (show l.length = Z by omega)
  have HZ := Lib.hid hZ
  have hZB : Z ≤ 66560 := by omega
  clear hA hl hb hZ
  go_enter Tryz.func10, Tryz.ntmps10
  go_wp2_with fail
  refine HS.out.mono ?_
  rintro e w1 ⟨rfl, rfl⟩
  go_upto_region 6 with (fail)
  obtain ⟨W1, hW1⟩ : ∃ W1, W1 = w.alloc (.cells #[.int .i64 (Z : Int), .slice none 0 0, .slice none 0 0] 69) := ⟨_, rfl⟩
  rw [← hW1]
  obtain ⟨gw, hgw⟩ : ∃ gw, gw = w.heap.size := ⟨_, rfl⟩
  rw [← hgw]
  have HST := Lib.hid (show R6R w l n gw (.int .i64 1) W1 from by
    refine ⟨0, Nat.zero_le _, rfl, ⟨.slice none 0 0, .slice none 0 0, ?_, World.ownsRow_nil _ _ _ _, World.ownsRow_nil _ _ _ _, by omega⟩, by rw [hW1]; exact alloc_below _ _, fun p hp => by omega⟩
    rw [hW1, hgw, HL.out]
    exact Row.new _ _ _)
  have HGW := Lib.hid (show w.heap.size ≤ gw by omega)
  clear hW1 hgw
  obtain ⟨i0, hi, hz0, hz1, hz2⟩ := info_parts infoI
  obtain ⟨j0, hj, hy0, hy1, hy2⟩ := info_parts info_block6
  have HMAY := Lib.hid fun (b : Nat) (hb : b < 18446744073709551616) (n : Int) (W : World) => rMay_any hb n W
  have HBL := Lib.hid fun (c : Int) (W : World) => refBlocks_any c W
  go_loopw [6] (fun v wr => R6R w l n gw v wr) (fun v _ => (n + 1 - (intOf v).toNat))
  case atStart => exact HST.out
  case round =>
    obtain ⟨q, hq, rfl, ⟨vc, vl, hw6⟩, hb, hok⟩ := hrel
    rename World => wr
    have HW6 := Lib.hid hw6
    have HBW := Lib.hid hb
    have HOK := Lib.hid hok
    clear hw6 hb hok HST
    by_cases hlt : q < n
    · obtain ⟨t1, t2⟩ := HT.out wr q hlt HBW.out
      have hcf : hcW l q < 18446744073709551616 := pw_fit HB.out _ _
      have hbf : hbW l q < 18446744073709551616 := pw_fit HB.out _ _
      obtain ⟨c, hc⟩ : ∃ c, c = hcW l q := ⟨_, rfl⟩
      obtain ⟨b, hbe⟩ : ∃ b, b = hbW l q := ⟨_, rfl⟩
      rw [← hc] at t1 hcf
      rw [← hbe] at t2 hbf
      unfold wv at t1 t2
      have T1 := Lib.hid t1
      have T2 := Lib.hid t2
      have HC := Lib.hid hc
      have HBE := Lib.hid hbe
      have HMB := Lib.hid fun (W : World) => HMAY.out b hbf (blN c : Int) W
      have HRB := Lib.hid fun (W : World) => rBits_any hbf W
      have hle : (q : Int) + 1 ≤ (n : Int) := by omega
      have hcN : (c : Int) < 18446744073709551616 := by omega
      clear t1 t2 hc hbe hbf hcf
      by_cases hc3 : c ≤ 3
      · have d1 : decide (3 < (c : Int)) = false := by simp; omega
        have hw1 : IntKind.i64.wrap (c : Int) = (c : Int) := IntWalk.i64_in _ (by omega)
        have HB3 := Lib.hid fun (W : World) => HBL.out (c : Int) W
        rw [blN_C] at HB3
        obtain ⟨m, hm⟩ : ∃ m, m = blN c := ⟨_, rfl⟩
        rw [← hm] at HB3 HMB
        have HM := Lib.hid hm
        clear hm
        cases hmay : mayS b (m : Int) with
        | false =>
          rw [hmay] at HMB
          unfold wv at HMB
          have HE := Lib.hid (show ¬ okHeads l n from fun h => by
            have h2 := h q hlt
            rw [← HC.out, ← HBE.out] at h2
            unfold okHead at h2
            rw [← HM.out, hmay, Bool.and_false] at h2
            cases h2)
          clear hmay
          go_wp2_with fail
          refine T1.out.mono ?_
          rintro e w' ⟨rfl, rfl⟩
          go_wp2_with fail
          refine T2.out.mono ?_
          rintro e w' ⟨rfl, rfl⟩
          go_wp2_with fail
          refine (HB3.out _).mono ?_
          rintro e w' ⟨rfl, rfl⟩
          go_wp2_with fail
          refine (HMB.out _).mono ?_
          rintro e w3 ⟨rfl, hb3⟩
          have HB4 := Lib.hid (Below.and HBW.out hb3)
          clear hb3
          go_wp2
          go_ret2
          exact .inr ⟨HE.out, rfl, HB4.out⟩
        | true =>
          rw [hmay] at HMB
          unfold wv at HMB
          have HMT := Lib.hid (show ∀ x ∈ upB b 64, x < blN c from fun x hx => by
            unfold mayS at hmay
            have := (of_decide_eq_true hmay) x hx
            have := HM.out
            omega)
          have HOQ := Lib.hid (show okHead (hcW l q) (hbW l q) = true from by
            rw [← HC.out, ← HBE.out]
            unfold okHead
            rw [← HM.out, hmay, decide_eq_true hc3]; rfl)
          clear hmay
          go_wp2_with fail
          refine T1.out.mono ?_
          rintro e w' ⟨rfl, rfl⟩
          go_wp2_with fail
          refine T2.out.mono ?_
          rintro e w' ⟨rfl, rfl⟩
          go_wp2_with fail
          refine (HB3.out _).mono ?_
          rintro e w' ⟨rfl, rfl⟩
          go_wp2_with fail
          refine (HMB.out _).mono ?_
          rintro e w3 ⟨rfl, hb3⟩
          have HW3 := Lib.hid (HW6.out.below hb3)
          have HB4 := Lib.hid (Below.and HBW.out hb3)
          clear hb3
          have ho := HW3.out.cls
          rw [clsK_len] at ho
          obtain ⟨Av, cv, rfl, hqc, hcm, _, _⟩ := own_sl ho
          have c1 := HW3.out.row.cell 1
          simp only [List.getElem?_toArray, List.getElem?_cons_succ, List.getElem?_cons_zero] at c1
          have HO := Lib.hid ho
          clear ho HW6
          have hq64 : q ≤ 64 := by omega
          go_wp2_with (at_builtin; refine wpList_append_own _ rfl _ _ 47 rfl w.heap.size 3 i0 (.int .i64 0) 1 8 Tryz.underlying47 hi hz0 hz1 hz2 rfl (by decide) _ _ _ rfl (HO.out.alloc _) ⟨w3.heap.size, 0, none⟩ 1 1 [jv c] rfl rfl ?qc1 ?qc2 ?qc3 ?qc4 ?qc5 ?_)
          case qc1 => intro j u hj; cases j with
            | zero => rw [add_zero']; simp at hj; subst hj; simp [jv]
            | succ j => simp at hj
          case qc2 => intro u hu; simp at hu; subst hu; rfl
          case qc3 => unfold maxLen; omega
          case qc4 => omega
          case qc5 => have := HB4.out.size; simp; omega
          intro v' w4 hown hgrow hnil
          have hr3 := HW3.out.row.alloc (.cells #[.int .i64 (c : Int)] 3)
          have hneq : ∀ g, (Value.slice Av q cv).ownBlock = some g → g ≠ gw := fun g hg => tagNe (own_tag (HO.out.alloc (.cells #[.int .i64 (c : Int)] 3)) hg) hr3.tag (by decide)
          have hr4 : Row w4 gw 69 _ := hr3.grown hgrow (fun e => hneq gw e.symm rfl)
          have c1' := hr4.cell 1
          simp only [List.getElem?_toArray, List.getElem?_cons_succ, List.getElem?_cons_zero] at c1'
          have f1 := hr4.free 1
          have hneq2 : ∀ g, v'.ownBlock = some g → g ≠ gw := fun g hg => tagNe (own_tag hown hg) hr4.tag (by decide)
          have hbl3 := own_low (C := 0) HW3.out.bl (alloc_below w3 (.cells #[.int .i64 (c : Int)] 3))
          have hbl4 := own_grown hbl3 hgrow (fun g hg e => by
            have t1 := own_tag hbl3 hg
            have t2 := own_tag (HO.out.alloc (.cells #[.int .i64 (c : Int)] 3)) e.symm
            exact tagNe t1 t2 (by decide) rfl)
          have HW5 := Lib.hid (show W6At (w4.setCell ⟨gw, 1, none⟩ v') w.heap.size gw l.length (clsK l (q + 1)) (LK l q) v' vl from by
            refine ⟨hr4.set 1 v', ?_, own_setc hbl4 _ (fun g hg => tagNe (own_tag hbl4 hg) hr4.tag (by decide)), HGW.out⟩
            rw [clsK_len, clsK_succ, List.map_append, ← HC.out]
            exact own_setc hown _ hneq2)
          have HB5 := Lib.hid (show Below w.heap.size w (w4.setCell ⟨gw, 1, none⟩ v') from ((HB4.out.alloc HB4.out.size _).grown hgrow (by have := HB4.out.size; simp; omega) (fun k hk => own_from HO.out k hk)).setCell (p := ⟨gw, 1, none⟩) HGW.out _)
          obtain ⟨Aw, cw, hvs, _, _, _, _⟩ := own_sl hown
          clear hown hgrow hnil hr3 hneq hr4 hneq2 hbl3 hbl4 HW3 HB4 HO c1
          subst hvs
          go_wp2_with fail
          obtain ⟨W5, hW5⟩ : ∃ W5, W5 = w4.setCell ⟨gw, 1, none⟩ (.slice Aw (q + 1) cw) := ⟨_, rfl⟩
          rw [← hW5] at HW5 HB5 ⊢
          clear hW5
          have HRB5 := HRB.out W5
          unfold wv at HRB5
          refine HRB5.mono ?_
          rintro e w6 ⟨vb, rfl, hob, hb6⟩
          clear HRB5
          obtain ⟨Ab, cb, rfl, _, hcbm, hsb, _⟩ := own_sl hob
          have HOB := Lib.hid hob
          have HW6b := Lib.hid (HW5.out.below hb6)
          have HB6 := Lib.hid (Below.and HB5.out hb6)
          have hln := upB_len b 64
          have HL6 := Lib.hid (show (upB b 64).length = (upB (hbW l q) 64).length by rw [← HBE.out])
          obtain ⟨B2, hB2⟩ : ∃ B2, B2 = W5.heap.size := ⟨_, rfl⟩
          rw [← hB2] at HOB
          obtain ⟨L, hL⟩ : ∃ L, L = (upB b 64).length := ⟨_, rfl⟩
          rw [← hL] at HOB HL6 hln
          have HLL := Lib.hid hL
          rw [← hL]
          clear hob hb6 hsb hB2 hL c1' f1 HW5 HB5
          go_wp2
          go_loopw [10] (fun v wr2 => R6I w l q gw B2 (.slice Ab L cb) v wr2) (fun v _ => L - (intOf v).toNat)
          case atStart =>
            refine ⟨0, Nat.zero_le _, rfl, ⟨_, _, by rw [List.take_zero]; show W6At _ _ _ _ _ (LK l q ++ []) _ _; rw [List.append_nil]; exact HW6b.out⟩, HB6.out, ?_⟩
            rw [← HL6.out, ← HBE.out]
            exact HOB.out
          case round =>
            obtain ⟨k, hk, rfl, ⟨vc2, vl2, h6⟩, hb2, hob2⟩ := hrel
            rename World => wr2
            rw [← HL6.out] at hk hob2
            rw [← HBE.out] at hob2
            have H6 := Lib.hid h6
            have HB2 := Lib.hid hb2
            have HOB2 := Lib.hid hob2
            clear h6 hb2 hob2 HOB HW6b HB6
            by_cases hkt : k < L
            · obtain ⟨gb, hab⟩ : ∃ gb, Ab = some ⟨gb, 0, none⟩ := by
                rcases HOB2.out.2 with ⟨h0, _⟩ | ⟨g, cap', cur, h0, _⟩
                · cases h0; omega
                · cases h0; exact ⟨g, rfl⟩
              subst hab
              obtain ⟨t, ht⟩ : ∃ t, t = gd (upB b 64) k := ⟨_, rfl⟩
              have htm : t ∈ upB b 64 := by rw [ht]; exact gd_mem (by rw [← HLL.out]; exact hkt)
              have htb := HMT.out t htm
              have hct := own_cell HOB2.out (i := k) (by rw [← HLL.out]; exact hkt)
              rw [← ht] at hct
              have hbk := adr_blk (no := q + 1) (c := c) (j := t) (by omega) (by omega) htb
              have HBK := Lib.hid fun (W : World) => refBlock_any ((q : Int) + 1) (c : Int) (t : Int) W
              rw [show ((q : Int) + 1) = (((q + 1 : Nat)) : Int) from rfl, hbk] at HBK
              have hLl := LK_len l q
              have htl : (blsK l q ((upB (hbW l q) 64).take k)).length ≤ 64 := by
                have := upB_len (hbW l q) 64
                unfold blsK
                rw [List.length_map, List.length_take]; omega
              have ho := H6.out.bl
              obtain ⟨NL, hNL⟩ : ∃ NL, NL = (LK l q ++ blsK l q ((upB (hbW l q) 64).take k)).length := ⟨_, rfl⟩
              rw [← hNL] at ho
              have hnl : NL ≤ 100000 := by rw [hNL, List.length_append]; omega
              obtain ⟨Al, cl, rfl⟩ : ∃ A c, vl2 = .slice A NL c := by
                rcases ho.2 with ⟨rfl, h0⟩ | ⟨g, cap', cur, rfl, _⟩
                · exact ⟨_, _, by rw [h0]⟩
                · exact ⟨_, _, rfl⟩
              have c2 := H6.out.row.cell 2
              simp only [List.getElem?_toArray, List.getElem?_cons_succ, List.getElem?_cons_zero] at c2
              unfold ivn at hct
              have cb' := hct
              have HO2 := Lib.hid fun (W : World) (hb : Below wr2.heap.size wr2 W) => own_low (C := 0) ho hb
              have HT6 := Lib.hid ht
              obtain ⟨AD, hAD⟩ : ∃ AD, AD = adr (q + 1) c t := ⟨_, rfl⟩
              rw [← hAD] at HBK
              have HAD := Lib.hid hAD
              rw [show (((q + 1 : Nat)) : Int) = (q : Int) + 1 from rfl] at HBK
              have HNL := Lib.hid hNL
              clear ho ht htm htb hct hbk hLl htl hNL c2 hAD
              go_wp2_with fail
              clear HRB HMB HMAY HBL HT
              have EG := Lib.hid (show ∀ args w, (callFunc 42 args).run Tryz.prog w = .ok (.enter 42 args) w from enters_of Tryz.func42 (by kernel_rfl) rfl)
              have C2 := H6.out.row.cell 2
              simp only [List.getElem?_toArray, List.getElem?_cons_succ, List.getElem?_cons_zero] at C2
              have F2 := H6.out.row.free 2
              have HNB := Lib.hid fun (o : Obj) => Below.and (alloc_below wr2 o) (drew_below _)
              have hne : ∀ g, (Value.slice Al NL cl).ownBlock = some g → g ≠ gw := fun g hg => tagNe (own_tag (HO2.out _ (Below.refl _ _)) hg) H6.out.row.tag (by decide)
              have hsB := HB2.out.size
              have hsg := H6.out.row.lt
              have HSG := Lib.hid hsg
              have HNE := Lib.hid hne
              clear hne
              go_region_law (first
                | (refine step_call (by rfl) 42 EG.out _ _ _ _ (by rfl) (.int .i64 ((q : Int) + 1)) (.int .i64 (c : Int)) (.int .i64 (t : Int)) (.int .u64 (AD : Int)) (by rfl) (by rfl) (by rfl) ?hcall ?_; case hcall => exact HBK.out _)
                | (refine step_append_lies _ (by rfl) (.tmp 67) (.tmp 77) _ (by rfl) w.heap.size 99 j0 (.agg #[.int .u64 0, .int .i64 0]) 2 16 rfl hj hy0 hy1 hy2 rfl (by decide) _ _ _ (by rfl) (HO2.out _ (HNB.out _)) ⟨wr2.heap.size, 0, none⟩ 1 1 [wv AD, jv 2] (by rfl) (by rfl) (World.news_of_block (cs := #[wv AD, jv 2]) (t := 99) (fr := (0, 0)) (heap_alloc_new wr2 _)) (by intro u hu; simp at hu; rcases hu with rfl | rfl <;> rfl) (by decide) (by unfold maxLen; omega) (by omega) (by simp; omega) (wr2.heap.size + 1) (by simp) ?_; intro g cap w1 hown hgrow hsm hlt; have fq : w1.frozen? ⟨gw, 2, none⟩ = false := frozen_grown hgrow (by simp; exact Nat.lt_succ_of_lt HSG.out) (fun e => HNE.out gw e.symm rfl) (by simp; exact (frozen_alloc HSG.out _).trans F2); have dq : w1.cell? ⟨gw, 2, none⟩ = some (Value.slice Al NL cl) := (hgrow.cell_far _ (by simp; exact Nat.lt_succ_of_lt HSG.out) (fun e => HNE.out gw e.symm rfl)).trans (by simp; exact (World.cell?_alloc_lt _ _ _ HSG.out).trans C2)))
              all_goals
                have HWN := Lib.hid (show ∃ vc vl, W6At (w1.setCell ⟨gw, 2, none⟩ (.slice (some ⟨g, 0, none⟩) (NL + 1) cap)) w.heap.size gw l.length (clsK l (q + 1)) (LK l q ++ blsK l q ((upB (hbW l q) 64).take (k + 1))) vc vl from ⟨_, _, by
                  have hp := (H6.out.below (HNB.out _)).pushB (p := (AD, 2)) HNL.out.symm hown hgrow
                  rw [blsK_succ l q k _ (by rw [← HBE.out, ← HLL.out]; exact hkt), ← List.append_assoc, show adr (q + 1) (hcW l q) (gd (upB (hbW l q) 64) k) = AD from by rw [← HC.out, ← HBE.out, ← HT6.out]; exact HAD.out.symm]
                  exact hp⟩)
                have HBN := Lib.hid (show Below w.heap.size w (w1.setCell ⟨gw, 2, none⟩ (.slice (some ⟨g, 0, none⟩) (NL + 1) cap)) from ((Below.and HB2.out (HNB.out _)).grown hgrow (by simp; omega) (fun k hk => own_base (HO2.out _ (Below.refl _ _)) hk)).setCell (p := ⟨gw, 2, none⟩) HGW.out _)
                have HON := Lib.hid (show (w1.setCell ⟨gw, 2, none⟩ (.slice (some ⟨g, 0, none⟩) (NL + 1) cap)).ownsRow B2 3 1 (.slice (some ⟨gb, 0, none⟩) L cb) (upB (hbW l q) 64).length ((upB (hbW l q) 64).map ivn) from by
                  have o1 := own_low (C := 0) HOB2.out (HNB.out (.cells #[.int .u64 (AD : Int), .int .i64 2] 99))
                  have o2 := own_grown o1 hgrow (fun g hg e => tagNe (own_tag o1 hg) (own_tag (HO2.out _ (HNB.out _)) e.symm) (by decide) rfl)
                  have o3 := own_setc (p := ⟨gw, 2, none⟩) o2 (.slice (some ⟨g, 0, none⟩) (NL + 1) cap) (fun g hg => tagNe (own_tag o2 hg) (H6.out.row.below (HNB.out _) H6.out.row.lt |>.grown hgrow (fun e => HNE.out gw e.symm rfl)).tag (by decide))
                  rw [← HBE.out, ← HLL.out]
                  exact o3)
                clear hown hgrow hsm hlt
                go_wp2
                go_roundw
              case rel | rel | rel | rel => exact ⟨k + 1, by have := HL6.out; omega, by go_num, HWN.out, HBN.out, HON.out⟩
              all_goals (simp [intOf]; omega)
            · obtain rfl : k = L := by omega
              have HN6 := Lib.hid (show ∃ vc vl, W6At wr2 w.heap.size gw l.length (clsK l (q + 1)) (LK l (q + 1)) vc vl from ⟨vc2, vl2, by
                have h7 := H6.out
                rw [List.take_of_length_le (by rw [← HL6.out]; exact Nat.le_refl _), ← LK_succ] at h7
                exact h7⟩)
              go_wp2
              go_roundw
              case rel => exact ⟨q + 1, by omega, by go_num, HN6.out, HB2.out, fun p hp => by
                by_cases e : p = q
                · subst e; exact HOQ.out
                · exact HOK.out p (by omega)⟩
              case measure => simp [intOf]; omega
      · have d1 : decide (3 < (c : Int)) = true := by simp; omega
        have HE := Lib.hid (show ¬ okHeads l n from fun h => by
          have h2 := h q hlt
          rw [← HC.out] at h2
          unfold okHead at h2
          rw [decide_eq_false hc3, Bool.false_and] at h2
          cases h2)
        go_wp2_with fail
        refine T1.out.mono ?_
        rintro e w' ⟨rfl, rfl⟩
        go_wp2_with fail
        refine T2.out.mono ?_
        rintro e w' ⟨rfl, rfl⟩
        go_wp2
        go_ret2
        exact .inr ⟨HE.out, rfl, HBW.out⟩
    · obtain rfl : q = n := by omega
      have hle : ¬ ((q : Int) + 1 ≤ (q : Int)) := by omega
      have HE := Lib.hid (show R6Post w l q (.returned (.tuple #[.pointer (some ⟨gw, 0, none⟩), .int .i64 0])) wr from .inl ⟨HOK.out, gw, vc, vl, rfl, HW6.out, HBW.out⟩)
      go_wp2
      go_ret2
      exact HE.out
end Go.Proofs.YtahojhaeebmpoaaGreatDoor
/- Which addresses the sets have: those of the free blocks, once each; plain facts. -/
namespace Go.Proofs.YtahojhaeebmpoaaGreatDoor
open Go.RowKit Go.Sort
set_option linter.unusedVariables false
def FreeB (hs : List Hd) (c a : Nat) : Prop := ∃ (i j : Nat) (x : Hd), hs[i]? = some x ∧ x.cls = c ∧ x.bl[j]? = some 0 ∧ adr x.no c j = a
def FsOk (hs : List Hd) (fs : Nat → List Nat) : Prop := ∀ c, (fs c).Nodup ∧ ∀ a, a ∈ fs c ↔ FreeB hs c a
theorem ins_mem {a b : Nat} {s : List Nat} : b ∈ ins a s ↔ b = a ∨ b ∈ s := by
  unfold ins
  by_cases h : a ∈ s
  · rw [if_pos h]
    constructor
    · exact .inr
    · rintro (rfl | h1)
      · exact h
      · exact h1
  · rw [if_neg h, List.mem_cons]
theorem ins_nodup {a : Nat} {s : List Nat} (h : s.Nodup) : (ins a s).Nodup := by
  unfold ins
  split
  · exact h
  · rename_i hn; exact List.nodup_cons.2 ⟨hn, h⟩
theorem grown_nodup {no c b k : Nat} {s : List Nat} (h : s.Nodup) : (grown no c b s k).Nodup := by
  induction k with
  | zero => exact h
  | succ k ih =>
    unfold grown
    split
    · exact ih
    · exact ins_nodup ih
theorem grown_mem {no c b k a : Nat} {s : List Nat} : a ∈ grown no c b s k ↔ a ∈ s ∨ ∃ j, j < k ∧ b.testBit j = false ∧ adr no c j = a := by
  induction k with
  | zero =>
    show a ∈ s ↔ _
    constructor
    · exact .inl
    · rintro (h | ⟨j, hj, _⟩)
      · exact h
      · omega
  | succ k ih =>
    unfold grown
    split
    · rename_i hb
      rw [ih]
      constructor
      · rintro (h | ⟨j, hj, h⟩)
        · exact .inl h
        · exact .inr ⟨j, by omega, h⟩
      · rintro (h | ⟨j, hj, h1, h2⟩)
        · exact .inl h
        · refine .inr ⟨j, ?_, h1, h2⟩
          have : j ≠ k := by rintro rfl; rw [hb] at h1; cases h1
          omega
    · rename_i hb
      rw [ins_mem, ih]
      constructor
      · rintro (rfl | h | ⟨j, hj, h⟩)
        · exact .inr ⟨k, by omega, by simpa using hb, rfl⟩
        · exact .inl h
        · exact .inr ⟨j, by omega, h⟩
      · rintro (h | ⟨j, hj, h1, h2⟩)
        · exact .inr (.inl h)
        · by_cases e : j = k
          · subst e; exact .inl h2.symm
          · exact .inr (.inr ⟨j, by omega, h1, h2⟩)
theorem fsK_spec (hc hb : Nat → Nat) (i c : Nat) : (fsK hc hb i c).Nodup ∧ ∀ a, a ∈ fsK hc hb i c ↔ ∃ q, q < i ∧ hc q = c ∧ ∃ j, j < blN c ∧ (hb q).testBit j = false ∧ adr (q + 1) c j = a := by
  induction i generalizing c with
  | zero =>
    refine ⟨List.nodup_nil, fun a => ?_⟩
    constructor
    · intro h; cases h
    · rintro ⟨q, hq, _⟩; omega
  | succ i ih =>
    show (updF (fsK hc hb i) (hc i) (grown (i + 1) (hc i) (hb i) (fsK hc hb i (hc i)) (blN (hc i))) c).Nodup ∧ ∀ a, a ∈ updF (fsK hc hb i) (hc i) (grown (i + 1) (hc i) (hb i) (fsK hc hb i (hc i)) (blN (hc i))) c ↔ _
    by_cases e : c = hc i
    · subst e
      rw [updF_at]
      refine ⟨grown_nodup (ih _).1, fun a => ?_⟩
      rw [grown_mem, (ih _).2]
      constructor
      · rintro (⟨q, hq, h⟩ | ⟨j, hj, h⟩)
        · exact ⟨q, by omega, h⟩
        · exact ⟨i, by omega, rfl, j, hj, h⟩
      · rintro ⟨q, hq, h1, j, hj, h2⟩
        by_cases e : q = i
        · subst e; exact .inr ⟨j, hj, h2⟩
        · exact .inl ⟨q, by omega, h1, j, hj, h2⟩
    · rw [updF_ne _ _ e]
      refine ⟨(ih c).1, fun a => ?_⟩
      rw [(ih c).2]
      constructor
      · rintro ⟨q, hq, h⟩
        exact ⟨q, by omega, h⟩
      · rintro ⟨q, hq, h1, h⟩
        have : q ≠ i := by rintro rfl; exact e h1.symm
        exact ⟨q, by omega, h1, h⟩
theorem hsK_ok (hc hb : Nat → Nat) (n : Nat) : HsOk (hsK hc hb n n) := by
  intro i x hx
  have hi := (List.getElem?_eq_some_iff.1 hx).1
  rw [hsK_len] at hi
  rw [hsK_get hi, if_pos hi] at hx
  cases hx
  exact ⟨rfl, blK_len _ _ _⟩
theorem blK_get {n b k j : Nat} (hj : j < n) : (blK n b k)[j]? = some (if j < k ∧ b.testBit j = true then 2 else 0) := by
  unfold blK
  rw [List.getElem?_map, List.getElem?_range hj]; rfl
theorem fsK_ok (hc hb : Nat → Nat) (n : Nat) : FsOk (hsK hc hb n n) (fsK hc hb n) := by
  intro c
  refine ⟨(fsK_spec hc hb n c).1, fun a => ?_⟩
  rw [(fsK_spec hc hb n c).2]
  constructor
  · rintro ⟨q, hq, h1, j, hj, h2, h3⟩
    refine ⟨q, j, hdOf hc hb q, by rw [hsK_get hq, if_pos hq], h1, ?_, h3⟩
    show (blK (blN (hc q)) (hb q) (blN (hc q)))[j]? = _
    rw [h1, blK_get hj, if_neg (fun h => by rw [h2] at h; cases h.2)]
  · rintro ⟨q, j, x, hx, h1, h2, h3⟩
    have hq := (List.getElem?_eq_some_iff.1 hx).1
    rw [hsK_len] at hq
    rw [hsK_get hq, if_pos hq] at hx
    cases hx
    have h2' : (blK (blN (hc q)) (hb q) (blN (hc q)))[j]? = some 0 := h2
    have h1' : hc q = c := h1
    have hj := (List.getElem?_eq_some_iff.1 h2').1
    rw [blK_len] at hj
    rw [blK_get hj] at h2'
    refine ⟨q, hq, h1', j, by rw [← h1']; exact hj, ?_, h3⟩
    by_cases hb2 : (hb q).testBit j = true
    · rw [if_pos ⟨hj, hb2⟩] at h2'; cases h2'
    · simpa using hb2
theorem nodup_bound : ∀ (N : Nat) (s : List Nat), s.Nodup → (∀ x ∈ s, x < N) → s.length ≤ N
  | 0, s, _, h => by
    cases s with
    | nil => exact Nat.le_refl _
    | cons x t => have := h x List.mem_cons_self; omega
  | N + 1, s, hn, h => by
    by_cases hm : N ∈ s
    · have h1 := nodup_bound N (s.erase N) (hn.erase N) (fun x hx => by
        have := (List.Nodup.mem_erase_iff hn).1 hx
        have := h x this.2
        omega)
      rw [List.length_erase_of_mem hm] at h1
      omega
    · have := nodup_bound N s hn (fun x hx => by
        have h2 := h x hx
        have : x ≠ N := by rintro rfl; exact hm hx
        omega)
      omega
section
variable {hs : List Hd} {fs : Nat → List Nat}
theorem FreeB.found {c a : Nat} (h : FreeB hs c a) : ∃ (i j : Nat) (x : Hd), hs[i]? = some x ∧ x.cls = c ∧ x.bl[j]? = some 0 ∧ adr x.no c j = a ∧ Found hs a i j := by
  obtain ⟨i, j, x, hx, hc, hb, ha⟩ := h
  exact ⟨i, j, x, hx, hc, hb, ha, x, hx, (List.getElem?_eq_some_iff.1 hb).1, by rw [hc]; exact ha⟩
theorem FsOk.few (h : FsOk hs fs) (ok : HsOk hs) (hm : hs.length ≤ 64) (c : Nat) : (fs c).length ≤ 66561 := by
  refine nodup_bound 66561 _ (h c).1 fun x hx => ?_
  obtain ⟨i, j, z, _, _, _, _, hf⟩ := (((h c).2 x).1 hx).found
  have := found_range ok hm hf
  omega
theorem HsOk.set_bl (ok : HsOk hs) {i j v : Nat} {x : Hd} (hx : hs[i]? = some x) : HsOk (hs.set i { x with bl := x.bl.set j v }) := by
  intro k z hz
  rw [List.getElem?_set] at hz
  have hil := (List.getElem?_eq_some_iff.1 hx).1
  by_cases e : i = k
  · subst e
    rw [if_pos rfl, if_pos hil] at hz
    cases hz
    have := ok i x hx
    exact ⟨this.1, by show (x.bl.set j v).length = blN x.cls; rw [List.length_set]; exact this.2⟩
  · rw [if_neg e] at hz
    exact ok k z hz
theorem set_get {i j v k q u : Nat} {x z : Hd} (hx : hs[i]? = some x) (hj : j < x.bl.length) (hz : (hs.set i { x with bl := x.bl.set j v })[k]? = some z) (hb : z.bl[q]? = some u) :
    (k = i ∧ q = j ∧ u = v ∧ z.cls = x.cls ∧ z.no = x.no) ∨ (¬ (k = i ∧ q = j) ∧ ∃ z0, hs[k]? = some z0 ∧ z.cls = z0.cls ∧ z.no = z0.no ∧ z0.bl[q]? = some u) := by
  rw [List.getElem?_set] at hz
  have hil := (List.getElem?_eq_some_iff.1 hx).1
  by_cases e : i = k
  · subst e
    rw [if_pos rfl, if_pos hil] at hz
    cases hz
    have hb' : (x.bl.set j v)[q]? = some u := hb
    rw [List.getElem?_set] at hb'
    by_cases e2 : j = q
    · subst e2
      rw [if_pos rfl, if_pos hj] at hb'
      cases hb'
      exact .inl ⟨rfl, rfl, rfl, rfl, rfl⟩
    · rw [if_neg e2] at hb'
      exact .inr ⟨fun h => e2 h.2.symm, x, hx, rfl, rfl, hb'⟩
  · rw [if_neg e] at hz
    exact .inr ⟨fun h => e h.1.symm, z, hz, rfl, rfl, hb⟩
theorem get_set {i j v k q u : Nat} {x z0 : Hd} (hx : hs[i]? = some x) (hn : ¬ (k = i ∧ q = j)) (hz : hs[k]? = some z0) (hb : z0.bl[q]? = some u) :
    ∃ z, (hs.set i { x with bl := x.bl.set j v })[k]? = some z ∧ z.cls = z0.cls ∧ z.no = z0.no ∧ z.bl[q]? = some u := by
  have hil := (List.getElem?_eq_some_iff.1 hx).1
  by_cases e : i = k
  · subst e
    rw [hx] at hz
    cases hz
    refine ⟨{ x with bl := x.bl.set j v }, by rw [List.getElem?_set, if_pos rfl, if_pos hil], rfl, rfl, ?_⟩
    show (x.bl.set j v)[q]? = some u
    rw [List.getElem?_set, if_neg (fun e => hn ⟨rfl, e.symm⟩)]
    exact hb
  · exact ⟨z0, by rw [List.getElem?_set, if_neg e]; exact hz, rfl, rfl, hb⟩
/-- A free block is free no more. -/
theorem FsOk.take (h : FsOk hs fs) (ok : HsOk hs) (hm : hs.length ≤ 64) {i j v : Nat} {x : Hd} (hx : hs[i]? = some x) (hj : x.bl[j]? = some 0) (hv : v ≠ 0) :
    FsOk (hs.set i { x with bl := x.bl.set j v }) (updF fs x.cls ((fs x.cls).erase (adr x.no x.cls j))) := by
  have hjl := (List.getElem?_eq_some_iff.1 hj).1
  have hf : Found hs (adr x.no x.cls j) i j := ⟨x, hx, hjl, rfl⟩
  intro c
  have key : ∀ a, FreeB (hs.set i { x with bl := x.bl.set j v }) c a ↔ FreeB hs c a ∧ ¬ (c = x.cls ∧ a = adr x.no x.cls j) := by
    intro a
    constructor
    · rintro ⟨k, q, z, hz, hc, hb, ha⟩
      rcases set_get hx hjl hz hb with ⟨_, _, h0, _⟩ | ⟨hn, z0, hz0, h1, h2, h3⟩
      · exact absurd h0.symm hv
      · refine ⟨⟨k, q, z0, hz0, by rw [← h1]; exact hc, h3, by rw [← h2]; exact ha⟩, fun ⟨e1, e2⟩ => hn ?_⟩
        have hf2 : Found hs (adr x.no x.cls j) k q := ⟨z0, hz0, (List.getElem?_eq_some_iff.1 h3).1, by rw [← h1, ← h2, hc, ha, e2]⟩
        exact found_one ok hm hf2 hf
    · rintro ⟨⟨k, q, z0, hz0, hc, hb, ha⟩, hn⟩
      have hn' : ¬ (k = i ∧ q = j) := by
        rintro ⟨rfl, rfl⟩
        rw [hx] at hz0
        cases hz0
        exact hn ⟨hc.symm, by rw [← ha, hc]⟩
      obtain ⟨z, hz, h1, h2, h3⟩ := get_set (v := v) hx hn' hz0 hb
      exact ⟨k, q, z, hz, by rw [h1]; exact hc, h3, by rw [h2]; exact ha⟩
  by_cases e : c = x.cls
  · subst e
    rw [updF_at]
    refine ⟨(h _).1.erase _, fun a => ?_⟩
    rw [List.Nodup.mem_erase_iff (h _).1, key, (h _).2]
    constructor
    · rintro ⟨h1, h2⟩; exact ⟨h2, fun h3 => h1 h3.2⟩
    · rintro ⟨h1, h2⟩; exact ⟨fun h3 => h2 ⟨rfl, h3⟩, h1⟩
  · rw [updF_ne _ _ e]
    refine ⟨(h c).1, fun a => ?_⟩
    rw [(h c).2, key]
    exact ⟨fun h1 => ⟨h1, fun h2 => e h2.1⟩, fun h1 => h1.1⟩
/-- A block that is not free becomes free. -/
theorem FsOk.back (h : FsOk hs fs) (ok : HsOk hs) (hm : hs.length ≤ 64) {i j : Nat} {x : Hd} (hx : hs[i]? = some x) (hj : j < x.bl.length) :
    FsOk (hs.set i { x with bl := x.bl.set j 0 }) (updF fs x.cls (ins (adr x.no x.cls j) (fs x.cls))) := by
  intro c
  have hil := (List.getElem?_eq_some_iff.1 hx).1
  have key : ∀ a, FreeB (hs.set i { x with bl := x.bl.set j 0 }) c a ↔ FreeB hs c a ∨ (c = x.cls ∧ a = adr x.no x.cls j) := by
    intro a
    constructor
    · rintro ⟨k, q, z, hz, hc, hb, ha⟩
      rcases set_get hx hj hz hb with ⟨rfl, rfl, _, h1, h2⟩ | ⟨hn, z0, hz0, h1, h2, h3⟩
      · exact .inr ⟨by rw [← hc, h1], by rw [← ha, h2, ← hc, h1]⟩
      · exact .inl ⟨k, q, z0, hz0, by rw [← h1]; exact hc, h3, by rw [← h2]; exact ha⟩
    · rintro (⟨k, q, z0, hz0, hc, hb, ha⟩ | ⟨rfl, rfl⟩)
      · by_cases e : k = i ∧ q = j
        · obtain ⟨rfl, rfl⟩ := e
          rw [hx] at hz0
          cases hz0
          refine ⟨k, q, { x with bl := x.bl.set q 0 }, by rw [List.getElem?_set, if_pos rfl, if_pos hil], hc, ?_, ha⟩
          show (x.bl.set q 0)[q]? = some 0
          rw [List.getElem?_set, if_pos rfl, if_pos hj]
        · obtain ⟨z, hz, h1, h2, h3⟩ := get_set (v := 0) hx e hz0 hb
          exact ⟨k, q, z, hz, by rw [h1]; exact hc, h3, by rw [h2]; exact ha⟩
      · refine ⟨i, j, { x with bl := x.bl.set j 0 }, by rw [List.getElem?_set, if_pos rfl, if_pos hil], rfl, ?_, rfl⟩
        show (x.bl.set j 0)[j]? = some 0
        rw [List.getElem?_set, if_pos rfl, if_pos hj]
  by_cases e : c = x.cls
  · subst e
    rw [updF_at]
    refine ⟨ins_nodup (h _).1, fun a => ?_⟩
    rw [ins_mem, key, (h _).2]
    constructor
    · rintro (h1 | h1)
      · exact .inr ⟨rfl, h1⟩
      · exact .inl h1
    · rintro (h1 | h1)
      · exact .inr h1
      · exact .inl h1.2
  · rw [updF_ne _ _ e]
    refine ⟨(h c).1, fun a => ?_⟩
    rw [(h c).2, key]
    exact ⟨.inl, fun h1 => h1.elim id (fun h2 => absurd h2.1 e)⟩
/-- A block that is not free becomes another thing that is not free. -/
theorem FsOk.turn (h : FsOk hs fs) {i j u v : Nat} {x : Hd} (hx : hs[i]? = some x) (hj : x.bl[j]? = some u) (hu : u ≠ 0) (hv : v ≠ 0) : FsOk (hs.set i { x with bl := x.bl.set j v }) fs := by
  intro c
  have hjl := (List.getElem?_eq_some_iff.1 hj).1
  refine ⟨(h c).1, fun a => ?_⟩
  rw [(h c).2]
  constructor
  · rintro ⟨k, q, z0, hz0, hc, hb, ha⟩
    have hn' : ¬ (k = i ∧ q = j) := by
      rintro ⟨rfl, rfl⟩
      rw [hx] at hz0
      cases hz0
      rw [hj] at hb
      exact hu (Option.some.inj hb)
    obtain ⟨z, hz, h1, h2, h3⟩ := get_set (v := v) hx hn' hz0 hb
    exact ⟨k, q, z, hz, by rw [h1]; exact hc, h3, by rw [h2]; exact ha⟩
  · rintro ⟨k, q, z, hz, hc, hb, ha⟩
    rcases set_get hx hjl hz hb with ⟨_, _, h0, _⟩ | ⟨hn, z0, hz0, h1, h2, h3⟩
    · exact absurd h0.symm hv
    · exact ⟨k, q, z0, hz0, by rw [← h1]; exact hc, h3, by rw [← h2]; exact ha⟩
/-- A slab without a class is given one, all of its blocks free. -/
theorem FsOk.claim (h : FsOk hs fs) {i c : Nat} {x : Hd} (hx : hs[i]? = some x) (h0 : x.cls = 0) (hl : x.bl.length = 0) :
    FsOk (hs.set i ⟨x.no, c, 0, blK (blN c) 0 (blN c)⟩) (updF fs c (grown x.no c 0 (fs c) (blN c))) := by
  intro d
  have hil := (List.getElem?_eq_some_iff.1 hx).1
  have hz0 : ∀ j, (0 : Nat).testBit j = false := fun j => Nat.zero_testBit j
  have key : ∀ a, FreeB (hs.set i ⟨x.no, c, 0, blK (blN c) 0 (blN c)⟩) d a ↔ FreeB hs d a ∨ (d = c ∧ ∃ j, j < blN c ∧ adr x.no c j = a) := by
    intro a
    constructor
    · rintro ⟨k, q, z, hz, hc, hb, ha⟩
      rw [List.getElem?_set] at hz
      by_cases e : i = k
      · subst e
        rw [if_pos rfl, if_pos hil] at hz
        cases hz
        have hb' : (blK (blN c) 0 (blN c))[q]? = some 0 := hb
        have hq := (List.getElem?_eq_some_iff.1 hb').1
        rw [blK_len] at hq
        have hc' : c = d := hc
        subst hc'
        exact .inr ⟨rfl, q, hq, ha⟩
      · rw [if_neg e] at hz
        exact .inl ⟨k, q, z, hz, hc, hb, ha⟩
    · rintro (⟨k, q, z0, hz, hc, hb, ha⟩ | ⟨rfl, j, hj, ha⟩)
      · have e : i ≠ k := by
          rintro rfl
          rw [hx] at hz
          cases hz
          have := (List.getElem?_eq_some_iff.1 hb).1
          omega
        exact ⟨k, q, z0, by rw [List.getElem?_set, if_neg e]; exact hz, hc, hb, ha⟩
      · refine ⟨i, j, ⟨x.no, d, 0, blK (blN d) 0 (blN d)⟩, by rw [List.getElem?_set, if_pos rfl, if_pos hil], rfl, ?_, ha⟩
        show (blK (blN d) 0 (blN d))[j]? = some 0
        rw [blK_get hj, if_neg (fun h => by rw [hz0] at h; cases h.2)]
  by_cases e : d = c
  · subst e
    rw [updF_at]
    refine ⟨grown_nodup (h _).1, fun a => ?_⟩
    rw [grown_mem, key, (h _).2]
    constructor
    · rintro (h1 | ⟨j, hj, _, ha⟩)
      · exact .inl h1
      · exact .inr ⟨rfl, j, hj, ha⟩
    · rintro (h1 | ⟨_, j, hj, ha⟩)
      · exact .inl h1
      · exact .inr ⟨j, hj, hz0 j, ha⟩
  · rw [updF_ne _ _ e]
    refine ⟨(h d).1, fun a => ?_⟩
    rw [(h d).2, key]
    exact ⟨.inl, fun h1 => h1.elim id (fun h2 => absurd h2.1 e)⟩
theorem HsOk.claim (ok : HsOk hs) {i c b : Nat} {x : Hd} (hx : hs[i]? = some x) : HsOk (hs.set i ⟨x.no, c, b, blK (blN c) b (blN c)⟩) := by
  intro k z hz
  rw [List.getElem?_set] at hz
  have hil := (List.getElem?_eq_some_iff.1 hx).1
  by_cases e : i = k
  · subst e
    rw [if_pos rfl, if_pos hil] at hz
    cases hz
    exact ⟨(ok i x hx).1, blK_len _ _ _⟩
  · rw [if_neg e] at hz
    exact ok k z hz
end
end Go.Proofs.YtahojhaeebmpoaaGreatDoor
