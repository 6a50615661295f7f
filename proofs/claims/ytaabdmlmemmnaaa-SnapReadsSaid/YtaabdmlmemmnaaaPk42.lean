/- Texts of this claim, packed: SnLd, SnU, SnX, SnK, SnNl, SnNm. -/
import Derived.Test.YtaabdmlmemmnaaaPk36
import Derived.Test.YtaabdmlmemmnaaaPk41
/- The law's laid: a memory with a node and one to its right; conditions: the numbers are such as Go's types hold. -/
namespace Go.Proofs.Ytaabdmlmemmnaaa
open Go.RowKit
set_option linter.unusedVariables false
attribute [local go_sem] Oper.semAt_some
/-- The node to the right. -/
def sideNd (low : Int) : Nd := ⟨0, low, 0, 0, 1280, 0, 0, 0, 0, 0, 0, 0, 0, 0, 0, 0, 0, 0, 0, 0, 0⟩
/-- All stores that lay both. -/
def laidL (n : Nd) (low : Int) : List (Int × Int) := layL 1088 n ++ layL 1280 (sideNd low)
theorem laidL_len (n : Nd) (low : Int) : (laidL n low).length = 48 := by simp [laidL, layL_len]
def natL (l : List (Int × Int)) : List (Nat × Nat) := l.map fun p => (p.1.toNat, p.2.toNat)
theorem flatE_cells {w : World} {B : Nat} {v : Value} {l : List (Int × Int)} (h : w.ownsRow B 66 2 v l.length (flatE l)) (h0 : 0 < l.length) : ∃ g cap, v = .slice (some ⟨g, 0, none⟩) l.length cap ∧ B ≤ g ∧ g < w.heap.size ∧ cap ≤ maxLen ∧ l.length ≤ cap ∧
    (∀ j u, (flatE l)[j]? = some u → w.cell? ⟨g, j, none⟩ = some u) := by
  rcases h.2 with ⟨rfl, h1⟩ | ⟨g, cap, cur, rfl, hb, hh, h2, h3, h4, h5⟩
  · omega
  · refine ⟨g, cap, rfl, hb, (Array.getElem?_eq_some_iff.1 hh).1, h3, h2, fun j u hu => ?_⟩
    have := h.cells rfl j u hu
    rw [Addr.add_lit, Nat.zero_add] at this
    exact this
theorem flatE_one (l : List (Int × Int)) : ∀ u ∈ flatE l, u.oneCell' = true := by
  intro u hu
  obtain ⟨p, _, hp⟩ := List.mem_flatMap.1 hu
  simp at hp
  rcases hp with rfl | rfl <;> rfl
theorem flatE_app (a b : List (Int × Int)) : flatE (a ++ b) = flatE a ++ flatE b := by simp [flatE]
/-- Where a memory lies that holds what was laid. -/
def laidS (n : Nd) (low : Int) (k : Nat) : St := stF (St.zero 64) (natL ((laidL n low).take k))
def flF (s : St) : Nat → St
  | 0 => s
  | k + 1 => (flF s k).flush 0 (1088 + 64 * k)
def laidM (n : Nd) (low : Int) : St := (flF (laidS n low 48) 6).fence 0
theorem getD_zeros (n i : Nat) : (List.replicate n (0 : Int)).getD i 0 = 0 := by
  rw [List.getD_eq_getElem?_getD, List.getElem?_replicate]
  split <;> rfl
theorem laidL_ok {n : Nd} (hw : ∀ i, i < 24 → 0 ≤ wAt (wi n) i ∧ wAt (wi n) i < 18446744073709551616) {low : Int} (hl : 0 ≤ low ∧ low < 18446744073709551616) {k : Nat} (hk : k < 48) :
    ∃ a v : Nat, (laidL n low)[k]? = some ((a : Int), (v : Int)) ∧ a % 8 = 0 ∧ a < 4096 ∧ v < 18446744073709551616 := by
  have hs : ∀ i, i < 24 → 0 ≤ wAt (wi (sideNd low)) i ∧ wAt (wi (sideNd low)) i < 18446744073709551616 := by
    intro i hi
    have hwi : wi (sideNd low) = [5495893775785918464, low, 0, 0, 1280, 0, 0, 0, 0, 0, 0, 0, 0, 0, 0, 0, 0, 0, 0, 0, 0, 0, 0, 0] := by
      unfold wi sideNd isLv
      rfl
    rw [hwi]
    match i, hi with
    | 0, _ => exact (show (0 : Int) ≤ 5495893775785918464 ∧ (5495893775785918464 : Int) < 18446744073709551616 by omega)
    | 1, _ => exact hl
    | 2, _ => exact (show (0 : Int) ≤ 0 ∧ (0 : Int) < 18446744073709551616 by omega)
    | 3, _ => exact (show (0 : Int) ≤ 0 ∧ (0 : Int) < 18446744073709551616 by omega)
    | 4, _ => exact (show (0 : Int) ≤ 1280 ∧ (1280 : Int) < 18446744073709551616 by omega)
    | i + 5, h =>
      have : wAt [5495893775785918464, low, 0, 0, 1280, 0, 0, 0, 0, 0, 0, 0, 0, 0, 0, 0, 0, 0, 0, 0, 0, 0, 0, 0] (i + 5) = 0 := by
        unfold wAt
        simp only [List.getD_cons_succ]
        exact getD_zeros 19 i
      rw [this]
      exact ⟨by decide, by decide⟩
  unfold laidL
  by_cases h24 : k < 24
  · refine ⟨1088 + 8 * k, (wAt (wi n) k).toNat, ?_, by omega, by omega, by have := hw k h24; omega⟩
    rw [List.getElem?_append_left (by rw [layL_len]; exact h24), layL_at _ _ h24]
    have := hw k h24
    congr 2 <;> omega
  · obtain ⟨j, rfl⟩ : ∃ j, k = 24 + j := ⟨k - 24, by omega⟩
    have hj : j < 24 := by omega
    refine ⟨1280 + 8 * j, (wAt (wi (sideNd low)) j).toNat, ?_, by omega, by omega, by have := hs j hj; omega⟩
    rw [List.getElem?_append_right (by rw [layL_len]; omega), layL_len, Nat.add_sub_cancel_left, layL_at _ _ hj]
    have := hs j hj
    congr 2 <;> omega
theorem laidS_succ {n : Nd} {low : Int} {k a v : Nat} (h : (laidL n low)[k]? = some ((a : Int), (v : Int))) : laidS n low (k + 1) = (laidS n low k).store a v := by
  unfold laidS
  have hk : k < (laidL n low).length := (List.getElem?_eq_some_iff.1 h).1
  rw [List.getElem?_eq_getElem hk] at h
  rw [List.take_succ_eq_append_getElem hk, Option.some.inj h]
  unfold natL
  rw [List.map_append, List.map_cons, List.map_nil, stF_snoc]
  rfl
theorem laidS_Lds {n : Nd} (hw : ∀ i, i < 24 → 0 ≤ wAt (wi n) i ∧ wAt (wi n) i < 18446744073709551616) {low : Int} (hl : 0 ≤ low ∧ low < 18446744073709551616) {k : Nat} (hk : k ≤ 48) : Lds 64 48 (laidS n low k) := by
  have := stF_Lds (natL ((laidL n low).take k)) (zero_Lds 64) (by unfold natL; rw [List.length_map, List.length_take, laidL_len]; omega) (fun p hp => by
    obtain ⟨q, hq, rfl⟩ := List.mem_map.1 hp
    obtain ⟨i, hi, rfl⟩ := List.mem_iff_getElem.1 (List.mem_of_mem_take hq)
    rw [laidL_len] at hi
    obtain ⟨a, v, hav, h8, ha, hv⟩ := laidL_ok hw hl hi
    rw [List.getElem?_eq_getElem (by rw [laidL_len]; exact hi)] at hav
    rw [Option.some.inj hav]
    exact ⟨by simpa using h8, by simpa using ha, by simpa using hv⟩)
  refine this.mono ?_
  unfold natL
  rw [List.length_map, List.length_take, laidL_len]
  omega
theorem flF_Lds {s : St} (h : Lds 64 48 s) {k : Nat} (hk : k ≤ 6) : Lds 64 (48 + k) (flF s k) := by
  induction k with
  | zero => exact h
  | succ k ih => exact (ih (by omega)).flush (by omega) 0 _
set_option maxRecDepth 100000 in
set_option maxHeartbeats 3200000 in
theorem laid11_any (n : Nd) (low : Int) (hw : ∀ i, i < 24 → 0 ≤ wAt (wi n) i ∧ wAt (wi n) i < 18446744073709551616) (hl : 0 ≤ low ∧ low < 18446744073709551616) (w : World) :
    Calls Try.prog 8 #[n.V, .int .u64 low] w fun e w' => ∃ y : Lay, e = .returned (.pointer (some ⟨y.g, 0, none⟩)) ∧ MemAt w' y (laidM n low) ∧ (∀ k, y.fp k → w.heap.size ≤ k) ∧ Below w.heap.size w w' := by
  have mixed : Try.prog.follows .mixedOrders = true := by kernel_rfl
  obtain ⟨i0, hi, hz0, hz1, hz2⟩ := info_parts infoPut11
  have r0 := Row.new w 27 n.cl.toArray
  obtain ⟨Wa, hWa⟩ : ∃ Wa, Wa = w.alloc (.cells n.cl.toArray 27) := ⟨_, rfl⟩
  rw [← hWa] at r0
  have HSa := Lib.hid (show w.heap.size ≤ Wa.heap.size by rw [hWa]; simp)
  have HB0 := Lib.hid (show Below w.heap.size w Wa by rw [hWa]; exact alloc_below _ _)
  have R0 := Lib.hid r0
  have HWa := Lib.hid hWa
  have HN := Lib.hid (show Calls Try.prog 22 #[.int .i64 4096] Wa (NewPost 64 Wa) from new_yes 64 Wa (by decide) (by decide))
  have HWn := Lib.hid fun W => r11Words_any (base := 1088) (by decide) n W
  have HWs := Lib.hid fun W => (show Calls Try.prog 32 #[.int .u64 1280, .agg #[.int .i64 0, .int .u64 low, .int .u64 0, .int .u64 0, .int .u64 1280, .int .u64 0, .int .u64 0, .int .u64 0, .int .u64 0, .int .u64 0, .int .u64 0, .int .u64 0, .int .u64 0, .int .u64 0, .int .u64 0, .int .u64 0, .int .u64 0, .int .u64 0, .int .u64 0, .int .u64 0, .int .u64 0]] W _ from r11Words_any (base := 1280) (by decide) (sideNd low) W)
  have HW := Lib.hid hw
  have HL := Lib.hid hl
  clear r0 hWa hw hl
  go_enter Try.func8, Try.ntmps8
  go_wp2_with (first
    | (rw [← HWa.out]; refine HN.out.mono ?_; rintro e w1 ⟨y, rfl, hm, hf, hb1⟩; have HM := Lib.hid hm; have HF := Lib.hid hf; have HB1 := Lib.hid hb1; have R1 := Lib.hid (R0.out.below hb1 R0.out.lt); clear hm hf hb1)
    | (refine wpList_load_mid rfl _ _ rfl w.heap.size 0 rfl n.cl _ (ndR R1.out) Try.underlying27 rfl ndI ?_)
    | (go_at_call 32; with_reducible refine (HWs.out _).mono ?_; rintro e w3 ⟨⟨v2, rfl, ho2⟩, hb3⟩; have HO13 := Lib.hid (ownS_low HO1.out hb3); have HB3 := Lib.hid hb3; obtain ⟨g2, c2, rfl, hg2, _, _, _, hc2⟩ := flatE_cells (l := layL 1280 (sideNd low)) (by rw [layL_len]; exact ho2) (by rw [layL_len]; decide); rw [layL_len]; have HC2 := Lib.hid hc2; clear hc2 ho2 hb3)
    | (go_at_call 32; refine (HWn.out _).mono ?_; rintro e w2 ⟨⟨v1, rfl, ho1⟩, hb2⟩; have HO1 := Lib.hid ho1; have HB2 := Lib.hid hb2; clear ho1 hb2)
    | (at_builtin; refine wpList_append_own _ rfl _ _ 61 rfl w1.heap.size 66 i0 (.agg #[.int .u64 0, .int .u64 0]) 2 16 Try.underlying61 hi hz0 hz1 hz2 rfl (by decide) _ _ _ rfl HO13.out ⟨g2, 0, none⟩ 24 c2 (flatE (layL 1280 (sideNd low))) rfl ?qc1 ?qc2 ?qc3 ?qc4 ?qc5 ?qc6 ?_))
  case qc1 => rw [flatE_len, layL_len]
  case qc2 =>
    intro j u hj
    rw [Addr.add_lit, Nat.zero_add]
    exact HC2.out j u hj
  case qc3 => exact flatE_one _
  case qc4 => decide
  case qc5 => decide
  case qc6 => exact Nat.le_trans HB2.out.size HB3.out.size
  intro v4 w4 hown hgrow hnil
  rw [← flatE_app] at hown
  obtain ⟨g4, c4, rfl, hg4, hg4', hc4, hc4', hcells⟩ := flatE_cells (l := laidL n low) (by rw [laidL_len]; exact hown) (by rw [laidL_len]; decide)
  rw [laidL_len] at hc4' ⊢
  have HB4 := Lib.hid (show Below w1.heap.size w1 w4 from (Below.and HB2.out HB3.out).grown hgrow (Nat.le_trans HB2.out.size HB3.out.size) (fun g hg => (ownS_from HO13.out g hg).1))
  have HM4 := Lib.hid (HM.out.below HB4.out)
  have HC4 := Lib.hid hcells
  have HNF := Lib.hid (show ¬ y.fp g4 from fun hf => by have := HM.out.lt g4 hf; omega)
  have HG4 := Lib.hid hg4'
  clear hown hgrow hnil hcells hg4'
  go_wp2
  go_loopw [8] (fun i wr => ∃ (k : Nat) (y' : Lay), k ≤ 48 ∧ i = .int .i64 (k : Int) ∧ MemAt wr y' (laidS n low k) ∧ Turn w4 wr y y') (fun i _ => 48 - (intOf i).toNat)
  case atStart => exact ⟨0, y, by omega, rfl, HM4.out, Turn.refl _ _⟩
  case round =>
    rename World => wr
    obtain ⟨k, y', hk, rfl, hm, ht⟩ := hrel
    have HCR := Lib.hid (show ∀ j u, (flatE (laidL n low))[j]? = some u → wr.cell? ⟨g4, j, none⟩ = some u from fun j u hu => (World.cell?_of_block (a := ⟨g4, j, none⟩) (ht.but.block g4 HG4.out HNF.out)).trans (HC4.out j u hu))
    by_cases hlt : k < 48
    · obtain ⟨a, v, hav, h8, ha, hv⟩ := laidL_ok HW.out HL.out hlt
      obtain ⟨f1, f2⟩ := flatE_at (laidL n low) k _ hav
      have q1 := HCR.out _ _ f1
      have q2 := HCR.out _ _ f2
      have ca := fun q : LowBy wr => q.cell q1
      have cb := fun q : LowBy wr => q.cell q2
      dsimp only [uw] at ca cb
      have hL := laidS_Lds HW.out HL.out hk
      have HST := Lib.hid (show ∀ W, Below wr.heap.size wr W → Calls Try.prog 23 #[.pointer (some ⟨y.g, 0, none⟩), .int .u64 (a : Int), .int .u64 (v : Int)] W (StPost W y' (laidS n low (k + 1)) 0) from fun W hb => by
        rw [laidS_succ hav, ← ht.g]
        exact store_ok (hm.below hb) a v h8 (by rw [hL.nls]; exact ha) hv (by have := hL.num; omega) (fun l hl => hL.ok.few l hl))
      have HT := Lib.hid ht
      clear q1 q2 f1 f2 hav h8 ha hv hm ht
      go_wp2_with fail
      refine wp_region_low_tail 11 (by assumption) (by kernel_rfl) ?_
      simp only [List.take_succ_cons, List.take_zero, List.drop_succ_cons, List.drop_zero]
      repeat (go_big_quiet_step (fail))
      refine wpQuiet_nil ?_
      intro _ hw'
      obtain ⟨q, hw''⟩ := hw'
      subst hw''
      have HQ := Lib.hid (HST.out q.W q.low)
      have HTq := Lib.hid (HT.out.trans (Turn.of_below y' q.low))
      clear ca cb HST
      go_wp2_with (refine HQ.out.mono ?_; rintro e w5 ⟨rfl, y5, hm5, ht5⟩; have HM5 := Lib.hid hm5; have HT5 := Lib.hid (HTq.out.trans ht5); clear hm5 ht5)
      exact ⟨⟨k + 1, y5, by omega, by go_num, HM5.out, HT5.out⟩, by simp [intOf]; omega⟩
    · have h48 : k = 48 := by omega
      rw [h48] at hm
      have HM6 := Lib.hid hm
      have HT6 := Lib.hid ht
      clear hm ht h48
      go_wp2
      clear hlt hk
      go_loopw [9] (fun i wq => ∃ (m : Nat) (y6 : Lay), m ≤ 6 ∧ i = .int .i64 (m : Int) ∧ MemAt wq y6 (flF (laidS n low 48) m) ∧ Turn w4 wq y y6) (fun i _ => 6 - (intOf i).toNat)
      case atStart => exact ⟨0, y', by omega, rfl, HM6.out, HT6.out⟩
      case round =>
        rename World => wq
        obtain ⟨m, y6, hk, rfl, hm, ht⟩ := hrel
        have hL := flF_Lds (laidS_Lds HW.out HL.out (Nat.le_refl 48)) hk
        by_cases hlt : m < 6
        · obtain ⟨A, hA⟩ : ∃ A : Nat, A = 1088 + 64 * m := ⟨_, rfl⟩
          have hw1 : IntKind.i64.wrap (64 * (m : Int)) = 64 * (m : Int) := IntWalk.i64_in _ (by omega)
          have hw2 : IntKind.u64.wrap (64 * (m : Int)) = 64 * (m : Int) := by rw [IntKind.wrap_u64]; omega
          have hw3 : IntKind.u64.wrap (1088 + 64 * (m : Int)) = (A : Int) := by rw [IntKind.wrap_u64]; omega
          have HFL := Lib.hid (show Calls Try.prog 33 #[.pointer (some ⟨y.g, 0, none⟩), .int .i64 0, .int .u64 (A : Int)] wq (StPost wq y6 (flF (laidS n low 48) (m + 1)) 0) from by
            have := flush_ok hm hL.ok 0 A (by decide) (by omega) (by rw [hL.nls]; omega)
            rw [ht.g] at this
            rw [show flF (laidS n low 48) (m + 1) = (flF (laidS n low 48) m).flush 0 A by rw [hA]; rfl]
            exact this)
          have HT := Lib.hid ht
          clear hm ht hA
          go_wp2_with (refine HFL.out.mono ?_; rintro e w7 ⟨rfl, y7, hm7, ht7⟩; have HM7 := Lib.hid hm7; have HT7 := Lib.hid (HT.out.trans ht7); clear hm7 ht7)
          exact ⟨⟨m + 1, y7, by omega, by go_num, HM7.out, HT7.out⟩, by simp [intOf]; omega⟩
        · have h6 : m = 6 := by omega
          rw [h6] at hm hL
          have HFE := Lib.hid (show Calls Try.prog 34 #[.pointer (some ⟨y.g, 0, none⟩), .int .i64 0] wq (StPost wq y6 (laidM n low) 0) from by
            have := fence_ok hm hL.ok 0 (by decide) (by have := hL.num; omega)
            rw [ht.g] at this
            exact this)
          have HT := Lib.hid ht
          clear hm ht h6 hL
          go_wp2_with (refine HFE.out.mono ?_; rintro e w7 ⟨rfl, y7, hm7, ht7⟩; have HM7 := Lib.hid hm7; have HT7 := Lib.hid (HT.out.trans ht7); clear hm7 ht7)
          go_ret
          have hf4 : ∀ k, y.fp k → w.heap.size ≤ k := fun k hk => Nat.le_trans HSa.out (HF.out k hk)
          have hs4 : w.heap.size ≤ w4.heap.size := Nat.le_trans HSa.out (Nat.le_trans HB1.out.size HB4.out.size)
          refine ⟨y7, by rw [HT7.out.g]; rfl, HM7.out, fun k hk => ?_, ?_⟩
          · rcases HT7.out.fp k hk with h | h
            · exact hf4 k h
            · omega
          · exact (Below.and HB0.out (Below.and HB1.out HB4.out)).trans (HT7.out.but.below hs4 hf4)
end Go.Proofs.Ytaabdmlmemmnaaa
/- What a snapshot that is done has read, in the words of the node that lies there; what is seen of a node that was laid; plain facts. -/
namespace Go.Proofs.Ytaabdmlmemmnaaa
open Go.RowKit
set_option linter.unusedVariables false
theorem len_tr (n : Nd) {a : Nat} : (n.tr a n.len).len = n.len := by
  refine (n.tr a n.len).len_eq n.len_le (fun i hi => ?_) (fun h8 => ?_)
  · have := n.len_le
    rw [n.tr_ptr _ _ (by omega), if_pos hi]
    exact n.len_before hi
  · rw [n.tr_ptr _ _ h8, if_neg (by omega)]
theorem tr_tr (n : Nd) : (n.tr (n.len + 1) n.len).tr (n.tr (n.len + 1) n.len).len (n.tr (n.len + 1) n.len).len = n.tr n.len n.len := by
  rw [len_tr]
  refine Nd.ext_of rfl (fun i hi => ?_) (fun i hi => ?_)
  · rw [Nd.tr_key _ _ _ hi, Nd.tr_key _ _ _ hi, Nd.tr_key _ _ _ hi]
    by_cases h : i < n.len
    · rw [if_pos h, if_pos (by omega), if_pos h]
    · rw [if_neg h, if_neg h]
  · rw [Nd.tr_ptr _ _ _ hi, Nd.tr_ptr _ _ _ hi, Nd.tr_ptr _ _ _ hi]
    split <;> rfl
theorem len_iff (n : Nd) {i : Nat} (hi : i ≤ 8) : i ≤ n.len ↔ ∀ j, j < i → n.ptr j ≠ 0 := by
  constructor
  · exact fun h j hj => n.len_before (by omega)
  · intro h
    by_cases hl : i ≤ n.len
    · exact hl
    · exact absurd (n.len_at (by omega)) (h _ (by omega))
theorem ofN_hd (l : Int) (x : List Int) : (ofN l x 8).hd = (l, wAt x 1, wAt x 2, wAt x 3, wAt x 4) := rfl
theorem ofN_key (l : Int) (x : List Int) {i : Nat} (hi : i < 8) : (ofN l x 8).key i = wAt x (8 + 2 * i) := by
  rcases lt8 hi with rfl | rfl | rfl | rfl | rfl | rfl | rfl | rfl <;> rfl
theorem ofN_ptr (l : Int) (x : List Int) {i : Nat} (hi : i < 8) : (ofN l x 8).ptr i = wAt x (9 + 2 * i) := by
  rcases lt8 hi with rfl | rfl | rfl | rfl | rfl | rfl | rfl | rfl <;> rfl
theorem wAt_map (f : Nat → Int) {i : Nat} (hi : i < 24) : wAt ((List.range 24).map f) i = f i := by
  unfold wAt
  rw [List.getD_eq_getElem?_getD, List.getElem?_map, List.getElem?_range hi]
  rfl
theorem zeroNd_tr (a b : Nat) : zeroNd.tr a b = zeroNd := by
  refine Nd.ext_of rfl (fun i hi => ?_) (fun i hi => ?_)
  · rw [Nd.tr_key _ _ _ hi]
    split
    · rfl
    · rcases lt8 hi with rfl | rfl | rfl | rfl | rfl | rfl | rfl | rfl <;> rfl
  · rw [Nd.tr_ptr _ _ _ hi]
    split
    · rfl
    · rcases lt8 hi with rfl | rfl | rfl | rfl | rfl | rfl | rfl | rfl <;> rfl
theorem full_low {W : Nat → Int} {j : Nat} (h3 : j ≠ 3) (h5 : j < 5) : full W j = W j := by
  unfold full
  rw [if_pos ⟨⟨h3, .inl h5⟩, fun i hi h9 => by omega⟩]
/-- A reading's words make the node without what stands behind its entries. -/
theorem ofR_full {x : List Int} {W : Nat → Int} (hW : ∀ i, i < 24 → W i = wAt x i) : ofR ((List.range 24).map (fullC W (W 3))) = ((ofR x).1.tr ((ofR x).1.len + 1) (ofR x).1.len, (ofR x).2) := by
  have h0 : wAt ((List.range 24).map (fullC W (W 3))) 0 = wAt x 0 := by
    rw [wAt_map _ (by omega), ← hW 0 (by omega)]
    unfold fullC
    rw [if_neg (by omega), full_low (by omega) (by omega)]
  unfold ofR
  rw [h0]
  by_cases hl : 5495893775785918464 ≤ wAt x 0 ∧ wAt x 0 ≤ 5495893775785918479
  · rw [if_pos hl, if_pos hl]
    dsimp only
    refine Prod.ext ?_ rfl
    dsimp only
    obtain ⟨l, hl'⟩ : ∃ l, l = wAt x 0 - 5495893775785918464 := ⟨_, rfl⟩
    rw [← hl']
    have hh := ofN_hd l x
    have hk := fun i (hi : i < 8) => ofN_key l x hi
    have hp := fun i (hi : i < 8) => ofN_ptr l x hi
    have hh' := ofN_hd l ((List.range 24).map (fullC W (W 3)))
    have hk' := fun i (hi : i < 8) => ofN_key l ((List.range 24).map (fullC W (W 3))) hi
    have hp' := fun i (hi : i < 8) => ofN_ptr l ((List.range 24).map (fullC W (W 3))) hi
    generalize ofN l x 8 = N at hh hk hp ⊢
    generalize ofN l ((List.range 24).map (fullC W (W 3))) 8 = M at hh' hk' hp' ⊢
    have hf : ∀ i, i ≤ 8 → ∀ b, b = 8 + 2 * i ∨ b = 9 + 2 * i → (fullTo W b ↔ i ≤ N.len) := by
      intro i hi b hb
      rw [len_iff _ hi]
      constructor
      · intro h j hj
        rw [hp _ (by omega), ← hW _ (by omega)]
        exact h (9 + 2 * j) (by omega) (by omega) (by omega)
      · intro h j hj h9 ho
        have := h ((j - 9) / 2) (by omega)
        rw [hp _ (by omega), ← hW _ (by omega), show 9 + 2 * ((j - 9) / 2) = j by omega] at this
        exact this
    refine Nd.ext_of ?_ (fun i hi => ?_) (fun i hi => ?_)
    · rw [show (N.tr (N.len + 1) N.len).hd = N.hd from rfl, hh, hh', wAt_map _ (by omega), wAt_map _ (by omega), wAt_map _ (by omega), wAt_map _ (by omega), ← hW 1 (by omega), ← hW 2 (by omega), ← hW 3 (by omega), ← hW 4 (by omega)]
      unfold fullC
      rw [if_neg (by omega), if_neg (by omega), if_pos rfl, if_neg (by omega), full_low (by omega) (by omega), full_low (by omega) (by omega), full_low (by omega) (by omega)]
    · rw [hk' _ hi, Nd.tr_key _ _ _ hi, hk _ hi, wAt_map _ (by omega), ← hW _ (by omega)]
      unfold fullC full
      rw [if_neg (by omega)]
      have := hf i (by omega) (8 + 2 * i) (.inl rfl)
      by_cases h : i ≤ N.len
      · rw [if_pos ⟨by omega, this.2 h⟩, if_pos (by omega)]
      · rw [if_neg (fun hh => h (this.1 hh.2)), if_neg (by omega)]
    · rw [hp' _ hi, Nd.tr_ptr _ _ _ hi, hp _ hi, wAt_map _ (by omega), ← hW _ (by omega)]
      unfold fullC full
      rw [if_neg (by omega)]
      have := hf i (by omega) (9 + 2 * i) (.inr rfl)
      by_cases h : i ≤ N.len
      · rw [if_pos ⟨by omega, this.2 h⟩]
        by_cases h' : i < N.len
        · rw [if_pos h']
        · rw [if_neg h', hW _ (by omega), ← hp i hi, show i = N.len by omega]
          exact N.len_at (by omega)
      · rw [if_neg (fun hh => h (this.1 hh.2)), if_neg (by omega)]
  · rw [if_neg hl, if_neg hl]
    dsimp only
    rw [zeroNd_tr]
/-- What is seen of what was laid. -/
theorem laidM_Lds {n : Nd} (hw : ∀ i, i < 24 → 0 ≤ wAt (wi n) i ∧ wAt (wi n) i < 18446744073709551616) {low : Int} (hl : 0 ≤ low ∧ low < 18446744073709551616) : Lds 64 55 (laidM n low) :=
  (flF_Lds (laidS_Lds hw hl (Nat.le_refl 48)) (Nat.le_refl 6)).fence (by omega) 0
theorem flF_view (s : St) : ∀ k, (flF s k).view = s.view
  | 0 => rfl
  | k + 1 => (show (flF s k).view = s.view from flF_view s k)
theorem natL_lay (base : Nat) (n : Nd) : natL (layL base n) = layN base n := by
  unfold natL layL layN
  rw [List.map_map]
  exact List.map_congr_left fun i _ => Prod.ext (show ((base : Int) + 8 * (i : Int)).toNat = base + 8 * i by omega) rfl
theorem fence_view (s : St) (c : Nat) : (s.fence c).view = s.view := rfl
theorem laidM_view (n : Nd) (low : Int) : (laidM n low).view = seenV (seenV (List.replicate 512 0) (layN 1088 n)) (layN 1280 (sideNd low)) := by
  unfold laidM
  rw [fence_view, flF_view]
  unfold laidS
  rw [List.take_of_length_le (by rw [laidL_len]; exact Nat.le_refl _), stF_view]
  unfold laidL natL
  rw [List.map_append, seenV_app]
  have h1 := natL_lay 1088 n
  have h2 := natL_lay 1280 (sideNd low)
  unfold natL at h1 h2
  rw [show ((1088 : Int)) = ((1088 : Nat) : Int) from rfl, show ((1280 : Int)) = ((1280 : Nat) : Int) from rfl, h1, h2]
  rfl
theorem laid_word {n : Nd} (hw : ∀ i, i < 24 → 0 ≤ wAt (wi n) i ∧ wAt (wi n) i < 18446744073709551616) (low : Int) {i : Nat} (hi : i < 24) : (((laidM n low).view.getD (136 + i) 0 : Nat) : Int) = wAt (wi n) i := by
  rw [laidM_view, layN_row (b := 136) rfl, layN_row (b := 160) rfl, seenV_row_far _ _ _ _ _ (by omega), seenV_row _ _ _ _ (by rw [List.length_replicate]; omega) i hi]
  have := hw i hi
  omega
theorem laid_low (n : Nd) {low : Int} (hl : 0 ≤ low ∧ low < 18446744073709551616) : (((laidM n low).view.getD 161 0 : Nat) : Int) = low := by
  rw [laidM_view, layN_row (b := 160) (base := 1280) rfl, show 161 = 160 + 1 from rfl, seenV_row _ _ _ _ (by rw [seenV_len, List.length_replicate]; omega) 1 (by omega)]
  have : wAt (wi (sideNd low)) 1 = low := rfl
  rw [this]
  omega
theorem laid_V {n : Nd} (hw : ∀ i, i < 24 → 0 ≤ wAt (wi n) i ∧ wAt (wi n) i < 18446744073709551616) {low : Int} (hl : 0 ≤ low ∧ low < 18446744073709551616) :
    (∀ i, i < 24 → ldV (laidM n low) (wordAt 1088 i) = wAt (wi n) i) ∧ ldV (laidM n low) (wordAt 1280 1) = low ∧ (∀ i, i < 24 → ldK (laidM n low) (wordAt 1088 i) = 0) ∧ ldK (laidM n low) (wordAt 1280 1) = 0 := by
  have hn : (laidM n low).nl = 64 := (laidM_Lds hw hl).nls
  have hA : ∀ i, i < 24 → wordAt 1088 i = 1088 + 8 * i := fun i hi => by unfold wordAt; rw [if_pos (by omega)]
  have hB : wordAt 1280 1 = 1288 := rfl
  refine ⟨fun i hi => ?_, ?_, fun i hi => ?_, ?_⟩
  · unfold ldV
    rw [hA i hi, hn, if_pos ⟨by omega, by omega⟩, show (1088 + 8 * i) / 8 = 136 + i by omega]
    exact laid_word hw low hi
  · unfold ldV
    rw [hB, hn, if_pos ⟨by omega, by omega⟩, show 1288 / 8 = 161 from rfl]
    exact laid_low n hl
  · unfold ldK
    rw [hA i hi, hn, if_pos ⟨by omega, by omega⟩]
  · unfold ldK
    rw [hB, hn, if_pos ⟨by omega, by omega⟩]
end Go.Proofs.Ytaabdmlmemmnaaa
/- A snapshot in a memory in which nobody stores: its steps, its node, its high bound; conditions: its state is such as it can have. -/
namespace Go.Proofs.Ytaabdmlmemmnaaa
open Go.RowKit
set_option linter.unusedVariables false
structure SnAt (W0 wr : World) (y : Lay) (g : Nat) (s s' : St) (n : Nat) (S : SS) : Prop where
  ex : ∃ y', MemAt wr y' s' ∧ RT W0 wr y y' g
  sn : SnapAt wr g (some ⟨y.g, 0, none⟩) S
  nls : s'.nl = s.nl
  vw : s'.view = s.view
  lds : Lds s.nl n s'
  sep : ¬ y.fp g
  lt : g < W0.heap.size
theorem sn_sep {W0 wr : World} {y y' : Lay} {g : Nat} (h : RT W0 wr y y' g) (sep : ¬ y.fp g) (lt : g < W0.heap.size) : ¬ y'.fp g := fun hf => by
  rcases h.fp g hf with h1 | h1
  · exact sep h1
  · omega
section
variable {W0 wr : World} {y : Lay} {g n : Nat} {s s' : St} {S : SS}
theorem SnAt.below (h : SnAt W0 wr y g s s' n S) {W : World} (hb : Below wr.heap.size wr W) : SnAt W0 W y g s s' n S := by
  obtain ⟨⟨y', hm, ht⟩, ⟨cs, hr, hs⟩, h3, h4, h5, h6, h7⟩ := h
  exact ⟨⟨y', hm.below hb, ht.trans (RT.of_below y' g hb)⟩, ⟨cs, hr.below hb hr.lt, hs⟩, h3, h4, h5, h6, h7⟩
theorem SnAt.val (h : SnAt W0 wr y g s s' n S) (A : Nat) : ldV s' A = ldV s A ∧ ldK s' A = ldK s A := by
  unfold ldV ldK
  rw [h.nls, h.vw]
  exact ⟨rfl, rfl⟩
theorem SnAt.step (h : SnAt W0 wr y g s s' n S) (hn : n ≤ 1000000) (G : S.Good) :
    Calls Try.prog 12 #[.pointer (some ⟨g, 0, none⟩)] wr fun e w' => e = .returned (.tuple #[.bool (S.go (ldV s) (ldK s)).d, .int .i64 (S.go (ldV s) (ldK s)).k]) ∧ SnAt W0 w' y g s (ldS s' S.ask) (n + 1) (S.go (ldV s) (ldK s)) := by
  have hv := h.val S.ask
  obtain ⟨⟨y', hm, ht⟩, hsn, h3, h4, h5, h6, h7⟩ := h
  rw [← ht.g] at hsn
  refine (sstep_any hm h5.ok hsn (sn_sep ht h6 h7) G).mono ?_
  rintro e w' ⟨rfl, y2, hm2, hsn2, ht2⟩
  rw [hv.1, hv.2] at hsn2 ⊢
  rw [ht.g] at hsn2
  refine ⟨rfl, ⟨y2, hm2, ht.trans ht2⟩, hsn2, ?_, ?_, h5.load hn _, h6, h7⟩
  · unfold ldS
    split <;> exact h3
  · unfold ldS
    split <;> exact h4
theorem SnAt.stepK (h : SnAt W0 wr y g s s' n S) (hn : n ≤ 1000000) (G : S.Good) {w : World} (hb : Below wr.heap.size wr w) :
    Calls Try.prog 12 #[.pointer (some ⟨g, 0, none⟩)] w fun e w' => e = .returned (.tuple #[.bool (S.go (ldV s) (ldK s)).d, .int .i64 (S.go (ldV s) (ldK s)).k]) ∧ SnAt W0 w' y g s (ldS s' S.ask) (n + 1) (S.go (ldV s) (ldK s)) ∧ ∀ k, wr.heap.size ≤ k → k < w.heap.size → w'.heap[k]? = w.heap[k]? := by
  have hv := h.val S.ask
  obtain ⟨⟨y', hm, ht⟩, ⟨cs, hr, hs⟩, h3, h4, h5, h6, h7⟩ := h
  have hlt := hm.lt
  have hglt := hr.lt
  have hsn : SnapAt w g (some ⟨y.g, 0, none⟩) S := ⟨cs, hr.below hb hr.lt, hs⟩
  rw [← ht.g] at hsn
  refine (sstep_any (hm.below hb) h5.ok hsn (sn_sep ht h6 h7) G).mono ?_
  rintro e w' ⟨rfl, y2, hm2, hsn2, ht2⟩
  rw [hv.1, hv.2] at hsn2 ⊢
  rw [ht.g] at hsn2
  refine ⟨rfl, ⟨⟨y2, hm2, (ht.trans (RT.of_below y' g hb)).trans ht2⟩, hsn2, ?_, ?_, h5.load hn _, h6, h7⟩, fun k hk hk' => ht2.but.block k hk' (fun e => ?_)⟩
  · unfold ldS
    split <;> exact h3
  · unfold ldS
    split <;> exact h4
  · rcases e with e | e
    · have := hlt k e
      omega
    · omega
theorem ldS_num (s : St) (A : Nat) : (ldS s A).st = s.st ∧ (ldS s A).fl = s.fl ∧ (ldS s A).fe = s.fe ∧ s.ld ≤ (ldS s A).ld ∧ (ldS s A).ld ≤ s.ld + 1 := by
  unfold ldS
  split
  · exact ⟨rfl, rfl, rfl, Nat.le_succ _, Nat.le_refl _⟩
  · exact ⟨rfl, rfl, rfl, Nat.le_refl _, Nat.le_succ _⟩
theorem SnAt.refusal (h : SnAt W0 wr y g s s' n S) (h0 : 0 < s.nl) : ∀ W, Below wr.heap.size wr W → Calls Try.prog 38 #[.pointer (some ⟨g, 0, none⟩)] W fun e w' => e = .returned (.int .i64 (if S.d = true then S.k else 7)) ∧ W = w' := by
  intro W hb
  obtain ⟨⟨y', hm, ht⟩, ⟨cs, hr, hs⟩, h3, h4, h5, h6, h7⟩ := h.below hb
  have hz := size_yes hm
  rw [ht.g] at hz
  have := snRefusal_any hr hs.c0 hs.c1 hs.c2 hs.c3 hz
  have e : refK false S.d S.k ((64 * s'.nl : Nat) : Int) = if S.d = true then S.k else 7 := by
    unfold refK
    rw [if_neg (by simp)]
    split
    · rfl
    · rw [if_neg (by rw [h3]; omega)]
  rw [e] at this
  exact this
theorem SnAt.node (h : SnAt W0 wr y g s s' n S) (h0 : 0 < s.nl) : ∀ W, Below wr.heap.size wr W → Calls Try.prog 13 #[.pointer (some ⟨g, 0, none⟩)] W fun e w' => e = .returned (.tuple #[S.n.V, .int .i64 (if S.d = true then S.k else 7)]) ∧ Below W.heap.size W w' := by
  intro W hb
  have h' := h.below hb
  have hrf := h'.refusal h0
  obtain ⟨_, ⟨cs, hr, hs⟩, _, _, _, _, _⟩ := h'
  exact snNode_any hr hs hrf
theorem SnAt.high (h : SnAt W0 wr y g s s' n S) (h0 : 0 < s.nl) : ∀ W, Below wr.heap.size wr W → Calls Try.prog 14 #[.pointer (some ⟨g, 0, none⟩)] W fun e w' => e = .returned (.tuple #[.int .u64 (hiV (if S.d = true then S.k else 7) S.lo S.n), .bool (hiB (if S.d = true then S.k else 7) S.n)]) ∧ Below W.heap.size W w' := by
  intro W hb
  have h' := h.below hb
  obtain ⟨_, ⟨cs, hr, hs⟩, _, _, _, _, _⟩ := h'
  exact snHigh_of ((h.below hb).node h0 W (Below.refl _ _)) (fun _ => ⟨g, rfl, (hr.cell 55).trans hs.cl⟩)
theorem SnAt.nodeD (h : SnAt W0 wr y g s s' n S) (h0 : 0 < s.nl) {k : Int} {N : Nd} (hd : S.d = true) (hk : S.k = k) (hN : S.n = N) : ∀ W, Below wr.heap.size wr W → Calls Try.prog 13 #[.pointer (some ⟨g, 0, none⟩)] W fun e w' => e = .returned (.tuple #[N.V, .int .i64 k]) ∧ Below W.heap.size W w' := by
  intro W hb
  have := h.node h0 W hb
  rw [if_pos hd, hk, hN] at this
  exact this
theorem SnAt.high0 (h : SnAt W0 wr y g s s' n S) (h0 : 0 < s.nl) {k : Int} {N : Nd} (hd : S.d = true) (hk : S.k = k) (hN : S.n = N) (hx : k ≠ 0 ∨ N.nx = 0) : ∀ W, Below wr.heap.size wr W → Calls Try.prog 14 #[.pointer (some ⟨g, 0, none⟩)] W fun e w' => e = .returned (.tuple #[.int .u64 0, .bool false]) ∧ Below W.heap.size W w' := by
  intro W hb
  have := h.high h0 W hb
  have hn : ¬ (k = 0 ∧ N.nx ≠ 0) := fun ⟨a, b⟩ => hx.elim (fun h => h a) (fun h => b h)
  rw [if_pos hd, hk, hN] at this
  unfold hiV hiB at this
  rw [if_neg hn, if_neg hn] at this
  exact this
theorem SnAt.high1 (h : SnAt W0 wr y g s s' n S) (h0 : 0 < s.nl) {N : Nd} {lo : Int} (hd : S.d = true) (hk : S.k = 0) (hN : S.n = N) (hx : N.nx ≠ 0) (hlo : S.lo = lo) : ∀ W, Below wr.heap.size wr W → Calls Try.prog 14 #[.pointer (some ⟨g, 0, none⟩)] W fun e w' => e = .returned (.tuple #[.int .u64 lo, .bool true]) ∧ Below W.heap.size W w' := by
  intro W hb
  have := h.high h0 W hb
  rw [if_pos hd, hk, hN, hlo] at this
  unfold hiV hiB at this
  rw [if_pos ⟨rfl, hx⟩, if_pos ⟨rfl, hx⟩] at this
  exact this
/-- What lies elsewhere stays. -/
theorem SnAt.keep (h : SnAt W0 wr y g s s' n S) {k : Nat} (hk : k < W0.heap.size) (h1 : ¬ y.fp k) (h2 : k ≠ g) : wr.heap[k]? = W0.heap[k]? := by
  obtain ⟨⟨y', hm, ht⟩, _, _, _, _, _, _⟩ := h
  exact ht.but.block k hk (fun e => e.elim h1 h2)
theorem SnAt.low (h : SnAt W0 wr y g s s' n S) {B : Nat} (hB : B ≤ W0.heap.size) (h1 : ∀ k, y.fp k → B ≤ k) (h2 : B ≤ g) : Below B W0 wr := by
  obtain ⟨⟨y', hm, ht⟩, _, _, _, _, _, _⟩ := h
  exact ht.but.below hB (fun k hk => hk.elim (h1 k) (fun e => by omega))
/-- The memory's numbers. -/
theorem SnAt.stats (h : SnAt W0 wr y g s s' n S) : ∀ W, Below wr.heap.size wr W → Calls Try.prog 11 #[.pointer (some ⟨y.g, 0, none⟩)] W fun e w' => e = .returned (.agg #[wv s'.ld, wv s'.st, wv s'.fl, wv s'.fe]) ∧ Below W.heap.size W w' := by
  intro W hb
  obtain ⟨⟨y', hm, ht⟩, _, _, _, _, _, _⟩ := h.below hb
  have := stats_yes hm
  rw [ht.g] at this
  exact this
/-- Where the memory lies now. -/
theorem SnAt.now (h : SnAt W0 wr y g s s' n S) : ∃ y', MemAt wr y' s' ∧ y'.g = y.g ∧ ∀ k, y'.fp k → y.fp k ∨ W0.heap.size ≤ k := by
  obtain ⟨⟨y', hm, ht⟩, _, _, _, _, _, _⟩ := h
  exact ⟨y', hm, ht.g, ht.fp⟩
theorem ldV_in (ok : s.Ok) (A : Nat) : 0 ≤ ldV s A ∧ ldV s A < 18446744073709551616 := by
  unfold ldV
  split
  · rw [List.getD_eq_getElem?_getD]
    cases e : s.view[A / 8]? with
    | none => exact ⟨by simp, by simp⟩
    | some x =>
      have := ok.vie x (List.mem_of_getElem? e)
      simp only [Option.getD_some]
      omega
  · omega
theorem ldK_is (s : St) (A : Nat) : ldK s A = 0 ∨ ldK s A = 3 := by
  unfold ldK
  split <;> simp
end
/-- As long as it isn't done. -/
theorem it_good {V K : Nat → Int} (hV : ∀ A, 0 ≤ V A ∧ V A < 18446744073709551616) {S : SS} (G : S.Good) : ∀ t, (∀ u, u ≤ t → (SS.it V K u S).d = false) → (SS.it V K t S).Good
  | 0, _ => G
  | t + 1, h => by
    have := it_good hV G t (fun u hu => h u (by omega))
    exact SS.next_good this (hV _) (h (t + 1) (Nat.le_refl _))
theorem next_k {S : SS} {v kk : Int} (h : (S.next v kk).d = false) : (S.next v kk).k = 0 := by
  obtain ⟨ph, d, k, a, r, wh, wd, lo, n⟩ := S
  cases ph with
  | bg => simpa [SS.next] using h
  | rd => simpa [SS.next] using h
  | lw => simpa [SS.next] using h
  | en =>
    simp only [SS.next, Bool.or_eq_false_iff] at h ⊢
    simpa using h.2
/-- A new snapshot in a memory. -/
theorem SnAt.new {w : World} {y : Lay} {s : St} {n a : Nat} (hm : MemAt w y s) (hl : Lds s.nl n s) : 
    SnAt (w.alloc (.cells (zeroS (some ⟨y.g, 0, none⟩) (nextV 35 w.heap.size) a).toArray 81)) (w.alloc (.cells (zeroS (some ⟨y.g, 0, none⟩) (nextV 35 w.heap.size) a).toArray 81)) y w.heap.size s s n (SS.new a) :=
  ⟨⟨y, hm.below (alloc_below _ _), RT.of_below y _ (Below.refl _ _)⟩, ⟨_, Row.new _ _ _, zeroS_is _ _ _⟩, rfl, rfl, hl, fun hf => by have := hm.lt _ hf; omega, by simp⟩
end Go.Proofs.Ytaabdmlmemmnaaa
/- The chapter's row, of the law; no conditions. -/
namespace Go.Proofs.Ytaabdmlmemmnaaa
open Go.RowKit
set_option linter.unusedVariables false
attribute [local go_sem] Oper.semAt_some
theorem show_loadN {P : Program} {ops : Array Oper} {rest : List Oper} {Q : Exit → Act → World → Prop} {d : Option Nat} {t2 : TypeId} {x : Operand} {ps : String} {af : Array Edge} {g : Option (Nat × Bool)} {a : Act} {w : World} (h : wpList P ops Q (⟨d, .load 27 x, t2, ps, af, g⟩ :: rest) a w) : wpList P ops Q (⟨d, .load 27 x, t2, ps, af, g⟩ :: rest) a w := h
theorem show_storeN {P : Program} {ops : Array Oper} {rest : List Oper} {Q : Exit → Act → World → Prop} {d : Option Nat} {t2 : TypeId} {x y : Operand} {ps : String} {af : Array Edge} {a : Act} {w : World} (h : wpList P ops Q (⟨d, .store 27 x y, t2, ps, af, none⟩ :: rest) a w) : wpList P ops Q (⟨d, .store 27 x y, t2, ps, af, none⟩ :: rest) a w := h
def kb0 : Nd := ⟨0, 0, 0, 0, 1088, 0, 0, 0, 0, 0, 0, 0, 0, 0, 0, 0, 0, 0, 0, 0, 0⟩
/-- The row's node. -/
def kn0 : Nd := ⟨0, 0, 0, 0, 1088, 5, 9, 0, 0, 0, 0, 0, 0, 2112, 2176, 0, 0, 0, 0, 0, 0⟩
theorem kn0_set {W : World} {b : Nat} (h : NdAt W b kb0) : NdAt ((((W.setCell ⟨b, 5, none⟩ (.int .u64 5)).setCell ⟨b, 13, none⟩ (.int .u64 2112)).setCell ⟨b, 6, none⟩ (.int .u64 9)).setCell ⟨b, 14, none⟩ (.int .u64 2176)) b kn0 :=
  (((h.set 5 (.int .u64 5)).set 13 (.int .u64 2112)).set 6 (.int .u64 9)).set 14 (.int .u64 2176)
theorem kn0_words : (∀ i, i < 24 → 0 ≤ wAt (wi kn0) i ∧ wAt (wi kn0) i < 18446744073709551616) := by decide
theorem kn0_len : kn0.len = 2 := by decide
theorem kn0_tr : kn0.tr 3 2 = kn0 := rfl
/-- What a snapshot of a node that was laid comes to. -/
theorem laid_snap {n : Nd} (hw : ∀ i, i < 24 → 0 ≤ wAt (wi n) i ∧ wAt (wi n) i < 18446744073709551616) {low : Int} (hl : 0 ≤ low ∧ low < 18446744073709551616) (hv : isLv n = true) (hx : n.nx = 0 ∨ n.nx = 1280) :
    ∃ T S', 1 ≤ T ∧ T ≤ 60 ∧ Goes (ldV (laidM n low)) (ldK (laidM n low)) (SS.new 1088) T S' ∧ S'.d = true ∧ S'.k = 0 ∧ S'.n = n.tr (n.len + 1) n.len ∧ (n.nx ≠ 0 → S'.lo = low) := by
  obtain ⟨h1, h2, h3, h4⟩ := laid_V hw hl
  have hw2 : wAt (wi n) 2 = n.nx := by unfold wi; rw [if_pos hv]; rfl
  obtain ⟨T, S', t1, t2, hG, hd, hr⟩ := sn_alone (V := ldV (laidM n low)) (K := ldK (laidM n low)) (ldK_is _) 1088
  refine ⟨T, S', t1, t2, hG, hd, ?_⟩
  rcases hr with ⟨_, _, hb⟩ | ⟨e1, e2, e3, _⟩
  · exfalso
    rcases hb with ⟨k, hk, e⟩ | ⟨e, e'⟩
    · rw [h3 k hk] at e
      cases e
    · rw [h1 2 (by omega), hw2] at e e'
      rcases hx with hx | hx
      · exact e hx
      · rw [hx, show (1280 : Int).toNat = 1280 from rfl, h4] at e'
        cases e'
  · have hR := ofR_full (x := wi n) (W := fun i => ldV (laidM n low) (wordAt 1088 i)) h1
    rw [(wi_of n).2, if_pos hv] at hR
    rw [hR] at e1 e2
    refine ⟨e1, e2, fun h => ?_⟩
    rw [e3 (by rw [h1 2 (by omega), hw2]; exact h), h1 2 (by omega), hw2]
    rcases hx with hx | hx
    · exact absurd hx h
    · rw [hx]
      exact h2
set_option maxRecDepth 100000 in
set_option maxHeartbeats 400000 in
theorem known11_any (w : World) : Calls Try.prog 9 #[] w fun e w' => e = .returned (.bool true) ∧ Below w.heap.size w w' := by
  have hl0 : (0 : Int) ≤ 0 ∧ (0 : Int) < 18446744073709551616 := by omega
  obtain ⟨T, S', t1, t2, hG, hd, hk, hn, _⟩ := laid_snap kn0_words hl0 (by decide) (.inl rfl)
  rw [kn0_len, kn0_tr] at hn
  have HLD := Lib.hid fun W => laid11_any kn0 0 kn0_words hl0 W
  have HLds := Lib.hid (laidM_Lds kn0_words hl0)
  obtain ⟨N, hN⟩ : ∃ N, N = kn0 := ⟨_, rfl⟩
  have hNx : N.nx = 0 := by rw [hN]; rfl
  have HSET := Lib.hid (show ∀ (W : World) (b : Nat), NdAt W b kb0 → NdAt ((((W.setCell ⟨b, 5, none⟩ (.int .u64 5)).setCell ⟨b, 13, none⟩ (.int .u64 2112)).setCell ⟨b, 6, none⟩ (.int .u64 9)).setCell ⟨b, 14, none⟩ (.int .u64 2176)) b N from by rw [hN]; exact fun _ _ h => kn0_set h)
  rw [← hN] at hG hn HLD HLds
  obtain ⟨s, hs⟩ : ∃ s, s = laidM N 0 := ⟨_, rfl⟩
  rw [← hs] at hG HLD HLds
  have HG := Lib.hid hG
  have HD := Lib.hid hd
  have HK := Lib.hid hk
  have HNn := Lib.hid hn
  have HX := Lib.hid hNx
  have HQ := fun W => eq_node N W
  clear hG hd hk hn hN hs hNx
  go_enter Try.func9, Try.ntmps9
  go_wp2_with (first
    | ((with_reducible refine show_storeN ?_); refine wpList_store_row rfl _ _ _ rfl w.heap.size kb0.cl rfl rfl (Row.new w 27 zeroNd.cl.toArray) rfl ndI (cl_one _) ?_; obtain ⟨W2, hW2, hn2, hb2⟩ := store_gen11 w kb0; rw [← hW2]; have HB2 := Lib.hid hb2; have c5 : W2.cell? ⟨w.heap.size, 5, none⟩ = some (.int .u64 0) := ndAt_at hn2 5; have c6 : W2.cell? ⟨w.heap.size, 6, none⟩ = some (.int .u64 0) := ndAt_at hn2 6; have c13 : W2.cell? ⟨w.heap.size, 13, none⟩ = some (.int .u64 0) := ndAt_at hn2 13; have c14 : W2.cell? ⟨w.heap.size, 14, none⟩ = some (.int .u64 0) := ndAt_at hn2 14; have f5 := hn2.free 5; have f6 := hn2.free 6; have f13 := hn2.free 13; have f14 := hn2.free 14; have HN3 := Lib.hid (HSET.out _ _ hn2); clear hW2 hn2 hb2)
    | ((with_reducible refine show_loadN ?_); refine wpList_load_mid rfl _ _ rfl w.heap.size 0 rfl N.cl _ (ndR HN3.out) Try.underlying27 rfl ndI ?_; obtain ⟨W3, hW3⟩ : ∃ W3, W3 = (((W2.setCell ⟨w.heap.size, 5, none⟩ (.int .u64 5)).setCell ⟨w.heap.size, 13, none⟩ (.int .u64 2112)).setCell ⟨w.heap.size, 6, none⟩ (.int .u64 9)).setCell ⟨w.heap.size, 14, none⟩ (.int .u64 2176) := ⟨_, rfl⟩; rw [← hW3] at HN3 ⊢; have HB3 := Lib.hid (show Below w.heap.size w W3 by rw [hW3]; exact (((HB2.out.setCell (p := ⟨w.heap.size, 5, none⟩) (Nat.le_refl _) _).setCell (p := ⟨w.heap.size, 13, none⟩) (Nat.le_refl _) _).setCell (p := ⟨w.heap.size, 6, none⟩) (Nat.le_refl _) _).setCell (p := ⟨w.heap.size, 14, none⟩) (Nat.le_refl _) _); clear hW3 c5 c6 c13 c14 f5 f6 f13 f14)
    | (go_at_call 8; refine (HLD.out _).mono ?_; rintro e w4 ⟨y, rfl, hm, hf, hb4⟩; have HM := Lib.hid hm; have HF := Lib.hid hf; have HB4 := Lib.hid hb4; clear hm hf hb4)
    | (go_at_call 10; refine (snNew_any _ 1088 _).mono ?_; rintro e w5 ⟨rfl, hw5⟩; have HS5 := Lib.hid (show SnAt w5 w5 y w4.heap.size s s 55 (SS.new 1088) from by rw [← hw5]; exact SnAt.new HM.out (by rw [HLds.out.nls]; exact HLds.out)); have HB5 := Lib.hid (show Below w4.heap.size w4 w5 from by rw [← hw5]; exact alloc_below _ _); obtain ⟨g5, hg5⟩ : ∃ g5, g5 = w4.heap.size := ⟨_, rfl⟩; rw [← hg5] at HS5 ⊢; have HG5 := Lib.hid hg5; clear hw5 hg5)
    | (go_at_call 13; refine (show Calls Try.prog 13 #[.pointer (some ⟨g5, 0, none⟩)] w5 fun e w' => e = .returned (.tuple #[zeroNd.V, .int .i64 7]) ∧ Below w5.heap.size w5 w' from HS5.out.node (by rw [HLds.out.nls]; decide) w5 (Below.refl _ _)).mono ?_; rintro e w6 ⟨rfl, hb6⟩; have HB6 := Lib.hid hb6; clear hb6)
    | ((with_reducible refine show_storeN ?_); refine wpList_store_row rfl _ _ _ rfl w6.heap.size zeroNd.cl rfl rfl (Row.new w6 27 zeroNd.cl.toArray) rfl ndI (cl_one _) ?_; obtain ⟨W7, hW7, hn7, hb7⟩ := store_gen11 w6 zeroNd; rw [← hW7]; have HB7 := Lib.hid (Below.and HB6.out hb7); clear hW7 hn7 hb7))
  go_loopw [6] (fun i wr => ∃ (t : Nat) (s' : St), t < T ∧ i = .int .i64 (t : Int) ∧ SnAt w5 wr y g5 s s' (55 + t) (SS.it (ldV s) (ldK s) t (SS.new 1088))) (fun i _ => 64 - (intOf i).toNat)
  case atStart => exact ⟨0, s, by omega, rfl, HS5.out.below HB7.out⟩
  case round =>
    rename World => wr
    obtain ⟨t, s', ht, rfl, hsn⟩ := hrel
    have hgood := it_good (V := ldV s) (K := ldK s) (ldV_in HLds.out.ok) (new_SGood (a := 1088) (by decide)) t (fun u hu => HG.out.on u (by omega))
    have hst := hsn.step (by omega) hgood
    have hlt : t < 64 := by omega
    by_cases hT : t + 1 < T
    · have hd := HG.out.on (t + 1) hT
      have hk : ((SS.it (ldV s) (ldK s) t (SS.new 1088)).go (ldV s) (ldK s)).k = 0 := next_k hd
      have hd' : ((SS.it (ldV s) (ldK s) t (SS.new 1088)).go (ldV s) (ldK s)).d = false := hd
      rw [hd', hk] at hst
      have HST := Lib.hid hst
      clear hst hsn hgood hd hd' hk
      go_wp2_with (go_at_call 12; refine HST.out.mono ?_; rintro e w8 ⟨rfl, h8⟩; have H8 := Lib.hid h8; clear h8)
      exact ⟨⟨t + 1, _, hT, by go_num, H8.out⟩, by simp [intOf]; omega⟩
    · have hS : (SS.it (ldV s) (ldK s) t (SS.new 1088)).go (ldV s) (ldK s) = S' := by
        have := HG.out.it
        rw [show T = t + 1 by omega] at this
        exact this
      rw [hS] at hst
      rw [HD.out, HK.out] at hst
      have HST := Lib.hid hst
      clear hst hsn hgood hS
      have HFP := Lib.hid (show ∀ k, y.fp k → w.heap.size < k from fun k hk => by have := HF.out k hk; have := HN3.out.lt; omega)
      have HBW := Lib.hid (show w.heap.size < w4.heap.size from Nat.lt_of_lt_of_le HN3.out.lt HB4.out.size)
      go_wp2_with (first
        | (go_at_call 12; refine HST.out.mono ?_; rintro e w8 ⟨rfl, h8⟩; have HN8 := Lib.hid (show NdAt w8 w.heap.size N from (h8.keep (k := w.heap.size) (Nat.lt_of_lt_of_le HBW.out HB5.out.size) (fun hf => by have := HFP.out _ hf; omega) (by have := HBW.out; have := HG5.out; omega)).trans (((HN3.out.below HB4.out HN3.out.lt).below HB5.out HBW.out))); have HB8 := Lib.hid (show Below w.heap.size w w8 from (Below.and (Below.and HB3.out HB4.out) HB5.out).trans (h8.low (Nat.le_of_lt (Nat.lt_of_lt_of_le HBW.out HB5.out.size)) (fun k hk => Nat.le_of_lt (HFP.out k hk)) (by have := HBW.out; have := HG5.out; omega))); have HNO := Lib.hid (h8.nodeD (by rw [HLds.out.nls]; decide) HD.out HK.out HNn.out); have HHI := Lib.hid (h8.high0 (by rw [HLds.out.nls]; decide) HD.out HK.out HNn.out (.inr HX.out)); clear h8)
        | (go_at_call 13; refine (HNO.out w8 (Below.refl _ _)).mono ?_; rintro e w9 ⟨rfl, hb9⟩; have HB9 := Lib.hid hb9; clear hb9)
        | ((with_reducible refine show_storeN ?_); refine wpList_store_row rfl _ _ _ rfl w9.heap.size N.cl rfl rfl (Row.new w9 27 zeroNd.cl.toArray) rfl ndI (cl_one _) ?_; obtain ⟨W10, hW10, hn10, hb10⟩ := store_gen11 w9 N; rw [← hW10]; have HB10 := Lib.hid (Below.and HB9.out hb10); have HN10 := Lib.hid hn10; clear hW10 hn10 hb10)
        | (go_at_call 14; refine (HHI.out W10 HB10.out).mono ?_; rintro e w11 ⟨rfl, hb11⟩; have HB11 := Lib.hid hb11; have HN11 := Lib.hid (HN10.out.below hb11 HN10.out.lt); have HN1 := Lib.hid (HN8.out.below (Below.and HB10.out hb11) HN8.out.lt); clear hb11)
        | ((with_reducible refine show_loadN ?_); refine wpList_load_midg (by rfl) _ _ rfl w9.heap.size 0 rfl N.cl _ (ndR HN11.out) Try.underlying27 rfl ndI ?_)
        | ((with_reducible refine show_loadN ?_); refine wpList_load_midg (by rfl) _ _ rfl w.heap.size 0 rfl N.cl _ (ndR HN1.out) Try.underlying27 rfl ndI ?_))
      go_ret
      exact ⟨rfl, Below.and (Below.and HB8.out HB10.out) HB11.out⟩
end Go.Proofs.Ytaabdmlmemmnaaa
/- What is answered of nothing: Still, Last, Lines, of none and of zero ones; a snapshot and a Last of no memory; no conditions. -/
namespace Go.Proofs.Ytaabdmlmemmnaaa
open Go.RowKit
set_option linter.unusedVariables false
attribute [local go_sem] Oper.semAt_some
theorem stillStep_nil (w : World) : Calls Try.prog 26 #[.pointer none] w fun e w' => e = .returned (.tuple #[.bool true, .int .i64 1]) ∧ w = w' := by
  go_enter Try.func26, Try.ntmps26
  go_wp2
  go_ret2
  exact ⟨rfl, rfl⟩
theorem stillStep_of {w : World} {g : Nat} {D : Bool} {k : Int} {Q : World → Prop} (H : Calls Try.prog 37 #[.pointer (some ⟨g, 0, none⟩)] w fun e w' => e = .returned (.tuple #[.bool D, .int .i64 k]) ∧ Q w') :
    Calls Try.prog 26 #[.pointer (some ⟨g, 0, none⟩)] w fun e w' => e = .returned (.tuple #[.bool D, .int .i64 k]) ∧ Q w' := by
  have H := Lib.hid H
  go_enter Try.func26, Try.ntmps26
  go_wp2_with fail
  refine H.out.mono ?_
  rintro e w1 ⟨rfl, hq⟩
  have HQ := Lib.hid hq
  clear hq
  go_wp2
  go_ret2
  exact ⟨rfl, HQ.out⟩
theorem lastStep_nil (w : World) : Calls Try.prog 27 #[.pointer none] w fun e w' => e = .returned (.tuple #[.bool true, .int .i64 1]) ∧ w = w' := by
  go_enter Try.func27, Try.ntmps27
  go_wp2
  go_ret2
  exact ⟨rfl, rfl⟩
theorem lastStep_of {w : World} {g : Nat} {D : Bool} {k : Int} {Q : World → Prop} (H : Calls Try.prog 37 #[.pointer (some ⟨g, 0, none⟩)] w fun e w' => e = .returned (.tuple #[.bool D, .int .i64 k]) ∧ Q w') :
    Calls Try.prog 27 #[.pointer (some ⟨g, 0, none⟩)] w fun e w' => e = .returned (.tuple #[.bool D, .int .i64 k]) ∧ Q w' := by
  have H := Lib.hid H
  go_enter Try.func27, Try.ntmps27
  go_wp2_with fail
  refine H.out.mono ?_
  rintro e w1 ⟨rfl, hq⟩
  have HQ := Lib.hid hq
  clear hq
  go_wp2
  go_ret2
  exact ⟨rfl, HQ.out⟩
set_option maxRecDepth 100000 in
set_option maxHeartbeats 1600000 in
theorem stillSame_nil (w : World) : Calls Try.prog 30 #[.pointer none] w fun e w' => e = .returned (.bool false) ∧ Below w.heap.size w w' := by
  have mixed : Try.prog.follows .mixedOrders = true := by kernel_rfl
  go_enter Try.func30, Try.ntmps30
  go_wp2_with fail
  refine wp_region_quiet_low (by assumption) (by kernel_rfl) ?_
  repeat (go_big_quiet_step (fail))
  refine wpQuiet_nil ?_
  intro _ hw'
  obtain ⟨q, hw''⟩ := hw'
  subst hw''
  have hp := Lib.hid q.low
  go_wp2
  go_ret
  exact ⟨rfl, hp.out⟩
set_option maxRecDepth 100000 in
set_option maxHeartbeats 1600000 in
theorem stillSame_zero {w : World} {g : Nat} {t : TypeId} {cs : Array Value} (hr : Row w g t cs) (h1 : cs[1]? = some .nilFunc) : Calls Try.prog 30 #[.pointer (some ⟨g, 0, none⟩)] w fun e w' => e = .returned (.bool false) ∧ Below w.heap.size w w' := by
  have mixed : Try.prog.follows .mixedOrders = true := by kernel_rfl
  have HC := Lib.hid (fun q : LowBy w => Calls.low_of_same (snRefusal_nil (hr.below q.low hr.lt) h1))
  go_enter Try.func30, Try.ntmps30
  go_wp2_with fail
  refine wp_region_quiet_low (by assumption) (by kernel_rfl) ?_
  repeat (go_big_quiet_step ((go_at_call 38; with_reducible exact HC.out _)))
  refine wpQuiet_nil ?_
  intro _ hw'
  obtain ⟨q, hw''⟩ := hw'
  subst hw''
  have hp := Lib.hid q.low
  go_wp2
  go_ret
  exact ⟨rfl, hp.out⟩
theorem lastLines_any (w : World) : Calls Try.prog 29 #[.int .u64 64] w fun e w' => e = .returned (.slice (some ⟨w.heap.size, 0, none⟩) 3 3) ∧ w.alloc (.cells #[.int .u64 64, .int .u64 128, .int .u64 192] 23) = w' := by
  go_enter Try.func29, Try.ntmps29
  go_wp2
  go_ret
  exact ⟨rfl, rfl⟩
theorem lastFN_none {w : World} {g : Nat} {t : TypeId} {cs : Array Value} {u : Value} (hr : Row w g t cs) (h1 : cs[1]? = some u) (h5 : cs[5]? = some (.slice none 0 0)) :
    Calls Try.prog 49 #[.pointer (some ⟨g, 0, none⟩)] w fun e w' => e = .returned (.tuple #[]) ∧ Row w' g t ((cs.setIfInBounds 1 (nextV 67 g)).setIfInBounds 1 (nextV 68 g)) ∧ But w w' (fun k => k = g) := by
  have c1 := hr.cell 1
  have c5 := hr.cell 5
  rw [h1] at c1
  rw [h5] at c5
  have f1 := hr.free 1
  have HE := Lib.hid (show Row ((w.setCell ⟨g, 1, none⟩ (.func (.func 67) #[.pointer (some ⟨g, 0, none⟩)] #[])).setCell ⟨g, 1, none⟩ (.func (.func 68) #[.pointer (some ⟨g, 0, none⟩)] #[])) g t ((cs.setIfInBounds 1 (nextV 67 g)).setIfInBounds 1 (nextV 68 g)) ∧ But w ((w.setCell ⟨g, 1, none⟩ (.func (.func 67) #[.pointer (some ⟨g, 0, none⟩)] #[])).setCell ⟨g, 1, none⟩ (.func (.func 68) #[.pointer (some ⟨g, 0, none⟩)] #[])) (fun k => k = g) from
    ⟨(hr.set 1 _).set 1 _, ((But.refl w (fun k => k = g)).set (p := ⟨g, 1, none⟩) rfl _).set (p := ⟨g, 1, none⟩) rfl _⟩)
  clear hr h1 h5
  go_enter Try.func49, Try.ntmps49
  go_wp2
  go_end0
  exact ⟨rfl, HE.out⟩
set_option maxRecDepth 100000 in
set_option maxHeartbeats 1600000 in
theorem lastFence_none {w : World} {g : Nat} {t : TypeId} {cs : Array Value} {u : Value} {c : Int} (hr : Row w g t cs) (h0 : cs[0]? = some (.pointer none)) (h2 : cs[2]? = some u) (h4 : cs[4]? = some (.int .i64 c)) :
    Calls Try.prog 68 #[.pointer (some ⟨g, 0, none⟩)] w fun e w' => e = .returned (.int .i64 1) ∧ Row w' g t (cs.setIfInBounds 2 (.bool true)) ∧ But w w' (fun k => k = g) := by
  have mixed : Try.prog.follows .mixedOrders = true := by kernel_rfl
  have c2 := hr.cell 2
  rw [h2] at c2
  have f2 := hr.free 2
  have hrow := hr.set 2 (.bool true)
  have hbut := (But.refl w (fun k => k = g)).set (p := ⟨g, 2, none⟩) rfl (.bool true)
  obtain ⟨W1, hW1⟩ : ∃ W1, W1 = w.setCell ⟨g, 2, none⟩ (.bool true) := ⟨_, rfl⟩
  rw [← hW1] at hrow hbut
  have e0 : W1.cell? ⟨g, 0, none⟩ = some (.pointer none) := (hrow.cell 0).trans (by rw [Array.getElem?_setIfInBounds_ne (by omega)]; exact h0)
  have e4 : W1.cell? ⟨g, 4, none⟩ = some (.int .i64 c) := (hrow.cell 4).trans (by rw [Array.getElem?_setIfInBounds_ne (by omega)]; exact h4)
  have ca := fun q : LowBy W1 => q.cell e0
  have cb := fun q : LowBy W1 => q.cell e4
  have HC := Lib.hid (fun q : LowBy W1 => Calls.low_of_same (fence_no (w := q.W) (p := none) (.inl rfl) c))
  have HE := Lib.hid (show ∀ W, Below W1.heap.size W1 W → Row W g t (cs.setIfInBounds 2 (.bool true)) ∧ But w W (fun k => k = g) from fun W hb => ⟨hrow.below hb hrow.lt, hbut.trans (But.of_below hb (fun _ => False)) (fun _ h => h.elim)⟩)
  have HW1 := Lib.hid hW1
  clear hr h0 h2 h4 hrow hbut hW1 e0 e4
  go_enter Try.func68, Try.ntmps68
  go_wp2_with fail
  rw [← HW1.out]
  clear c2 f2
  refine wp_region_quiet_low (by assumption) (by kernel_rfl) ?_
  repeat (go_big_quiet_step ((go_at_call 34; with_reducible exact HC.out _)))
  refine wpQuiet_nil ?_
  intro _ hw'
  obtain ⟨q, hw''⟩ := hw'
  subst hw''
  have hp := Lib.hid (HE.out q.W q.low)
  clear ca cb HC HE
  go_wp2
  go_ret
  exact ⟨rfl, hp.out⟩
set_option maxRecDepth 100000 in
set_option maxHeartbeats 3200000 in
theorem lstep_of {w : World} {g f : Nat} {t : TypeId} {cs cs' : Array Value} {k0 k kk : Int} (hcall : ∀ (w : World) (v : Value), (callFunc f #[v]).run Try.prog w = .ok (.enter f #[v]) w)
    (hr : Row w g t cs) (h1 : cs[1]? = some (nextV f g)) (h2 : cs[2]? = some (.bool false)) (h2' : cs'[2]? = some (.bool true)) (h3' : cs'[3]? = some (.int .i64 k0))
    (H : Calls Try.prog f #[.pointer (some ⟨g, 0, none⟩)] w fun e w' => e = .returned (.int .i64 kk) ∧ Row w' g t cs' ∧ But w w' (fun k => k = g)) :
    Calls Try.prog 37 #[.pointer (some ⟨g, 0, none⟩)] w fun e w' => e = .returned (.tuple #[.bool true, .int .i64 kk]) ∧ But w w' (fun k => k = g) := by
  have mixed : Try.prog.follows .mixedOrders = true := by kernel_rfl
  have c1 := hr.cell 1
  have c2 := hr.cell 2
  rw [h1] at c1
  rw [h2] at c2
  unfold nextV at c1
  have q1 := fun w => eqFnR w f #[.pointer (some ⟨g, 0, none⟩)] #[]
  have q2 := fun w => guardFnR w f #[.pointer (some ⟨g, 0, none⟩)] #[] (.tmp 8)
  have H := Lib.hid H
  have H2 := Lib.hid h2'
  have H3 := Lib.hid h3'
  clear hr h1 h2 h2' h3'
  go_enter Try.func37, Try.ntmps37
  go_wp2_with fail
  refine H.out.mono ?_
  rintro e w1 ⟨rfl, hrow, hbut⟩
  have e2 : w1.cell? ⟨g, 2, none⟩ = some (.bool true) := (hrow.cell 2).trans H2.out
  have e3 : w1.cell? ⟨g, 3, none⟩ = some (.int .i64 k0) := (hrow.cell 3).trans H3.out
  have g2 := hrow.free 2
  have g3 := hrow.free 3
  have hr2 := (hrow.set 3 (.int .i64 kk)).set 2 (.bool true)
  have hb2 := (hbut.set (p := ⟨g, 3, none⟩) rfl (.int .i64 kk)).set (p := ⟨g, 2, none⟩) rfl (.bool true)
  have hs3 : 3 < cs'.size := (Array.getElem?_eq_some_iff.1 H3.out).1
  have hc2 := (hr2.cell 2).trans (gset_eq _ (by rw [Array.size_setIfInBounds]; omega))
  have hc3 := (hr2.cell 3).trans ((gset_ne _ (by omega)).trans (gset_eq _ hs3))
  obtain ⟨W2, hW2⟩ : ∃ W2, W2 = (w1.setCell ⟨g, 3, none⟩ (.int .i64 kk)).setCell ⟨g, 2, none⟩ (.bool true) := ⟨_, rfl⟩
  rw [← hW2] at hr2 hb2 hc2 hc3
  have ca := fun q : LowBy W2 => q.cell hc2
  have cb := fun q : LowBy W2 => q.cell hc3
  have HB := Lib.hid hb2
  have HW2 := Lib.hid hW2
  clear hrow hbut c1 c2 q1 q2 H hcall hr2 hb2 hc2 hc3 hW2 hs3
  go_wp2_with fail
  rw [← HW2.out]
  clear e2 e3 g2 g3
  refine wp_region_quiet_low (by assumption) (by kernel_rfl) ?_
  repeat (go_big_quiet_step (fail))
  refine wpQuiet_nil ?_
  intro _ hw'
  obtain ⟨q, hw''⟩ := hw'
  subst hw''
  have HE := Lib.hid (HB.out.trans (But.of_below q.low (fun _ => False)) (fun _ h => h.elim))
  clear ca cb
  go_wp2
  go_ret2
  exact ⟨rfl, HE.out⟩
theorem But.low {w w' : World} {g : Nat} (h : But w w' (fun k => k = g)) {B : Nat} (hB : B ≤ w.heap.size) (hg : B ≤ g) : Below B w w' := h.below hB (fun k hk => by omega)
theorem cloneAd_none (w : World) : Calls Try.prog 48 #[.slice none 0 0] w fun e w' => e = .returned (.slice none 0 0) ∧ w = w' := by
  have q22 : ∀ (w : World) (a : Option Addr) (n c n' c' : Nat), (binOp .eql 85 (.slice a n c) (.slice none n' c')).run Try.prog w = .ok (.bool a.isNone) w := fun w a n c n' c' => Lib.run_eql_slice_nil w _ _ a n c n' c' Try.underlying85
  go_enter Try.func48, Try.ntmps48
  go_wp2
  go_ret
  exact ⟨rfl, rfl⟩
set_option maxRecDepth 100000 in
set_option maxHeartbeats 1600000 in
theorem lastNew_none (w : World) : Calls Try.prog 28 #[.pointer none, .int .i64 0, .slice none 0 0] w fun e w' => (∃ g cs, e = .returned (.pointer (some ⟨g, 0, none⟩)) ∧ w.heap.size ≤ g ∧ Row w' g 87 cs ∧ cs[0]? = some (.pointer none) ∧ cs[1]? = some (nextV 68 g) ∧ cs[2]? = some (.bool false) ∧ cs[3]? = some (.int .i64 0) ∧ cs[4]? = some (.int .i64 0)) ∧ Below w.heap.size w w' := by
  go_enter Try.func28, Try.ntmps28
  go_wp2_with (first
    | (go_at_call 48; refine (cloneAd_none _).mono ?_; rintro e w1 ⟨rfl, rfl⟩)
    | (go_at_call 49; refine (lastFN_none (Row.new w 87 #[.pointer none, .nilFunc, .bool false, .int .i64 0, .int .i64 0, .slice none 0 0]) rfl rfl).mono ?_; rintro e w2 ⟨rfl, hr2, hb2⟩; have HR2 := Lib.hid hr2; have HB2 := Lib.hid (hb2.low (B := w.heap.size) (by simp) (Nat.le_refl _)); clear hr2 hb2))
  go_ret
  exact ⟨⟨w.heap.size, _, rfl, Nat.le_refl _, HR2.out, rfl, rfl, rfl, rfl, rfl⟩, (alloc_below _ _).trans HB2.out⟩
/-- A snapshot of no memory: its first step. -/
theorem snNil_step {w : World} {g : Nat} (hr : Row w g 81 (zeroS none (nextV 35 g) 64).toArray) : Calls Try.prog 12 #[.pointer (some ⟨g, 0, none⟩)] w fun e w' => e = .returned (.tuple #[.bool true, .int .i64 1]) ∧ Below g w w' := by
  have hs := zeroS_is none (nextV 35 g) 64
  refine (snStep_of (mstep_of (P := fun W => Below w.heap.size w W) (d' := false) (D := true) (kk := 1) (fun w v => Try.call35 _ _) hr hs.c1 hs.c2 rfl (snBegin_any (a := 64) (v := 0) (kk := 1) hr hs (by decide) (fun W hb => ?_)))).mono ?_
  · refine (load_no (w := W) (p := none) (.inl rfl) _).mono ?_
    rintro e w' ⟨rfl, rfl⟩
    exact ⟨rfl, hr.below hb hr.lt, hb⟩
  · rintro e w' ⟨rfl, w1, cs', hb, _, hsw⟩
    exact ⟨rfl, (hb.mono (Nat.le_of_lt hr.lt)).trans (hsw.but.low (Nat.le_trans (Nat.le_of_lt hr.lt) hb.size) (Nat.le_refl _))⟩
theorem snHigh_nil (w : World) : Calls Try.prog 14 #[.pointer none] w fun e w' => e = .returned (.tuple #[.int .u64 0, .bool false]) ∧ Below w.heap.size w w' := by
  have := snHigh_of (lo := 0) (snNode_nil w) (fun h => by cases h)
  unfold hiV hiB at this
  rw [if_neg (by simp), if_neg (by simp)] at this
  exact this
end Go.Proofs.Ytaabdmlmemmnaaa
/- The law SnapNil; no conditions. -/
namespace Go.Proofs.Ytaabdmlmemmnaaa
open Go.RowKit
set_option linter.unusedVariables false
attribute [local go_sem] Oper.semAt_some
theorem zs81 : Try.zeroCells81[1]? = some .nilFunc := by kernel_rfl
theorem low_up {B : Nat} {a b c : World} (h : Below B a b) (hB : B ≤ b.heap.size) (k : Below b.heap.size b c) : Below B a c := h.trans (k.mono hB)
theorem last_done {w : World} {g : Nat} {cs : Array Value} (hr : Row w g 87 cs) (h0 : cs[0]? = some (.pointer none)) (h1 : cs[1]? = some (nextV 68 g)) (h2 : cs[2]? = some (.bool false)) (h3 : cs[3]? = some (.int .i64 0)) (h4 : cs[4]? = some (.int .i64 0)) :
    Calls Try.prog 27 #[.pointer (some ⟨g, 0, none⟩)] w fun e w' => e = .returned (.tuple #[.bool true, .int .i64 1]) ∧ But w w' (fun k => k = g) :=
  lastStep_of (lstep_of (k := 0) (k0 := 0) (fun w v => Try.call68 _ _) hr h1 h2 (gset_eq _ (by have := (Array.getElem?_eq_some_iff.1 h4).1; omega)) ((gset_ne _ (by omega)).trans h3) (lastFence_none hr h0 h2 h4))
set_option maxRecDepth 100000 in
set_option maxHeartbeats 3200000 in
theorem snapNil_any (w : World) : Calls Try.prog 6 #[] w fun e w' => e = .returned (.bool true) ∧ Below w.heap.size w w' := by
  obtain ⟨W0, hW0⟩ : ∃ W0, W0 = (((w.alloc (.cells Try.zeroCells81 81)).alloc (.cells #[.pointer none, .nilFunc, .bool false, .int .i64 0, .int .u64 0, .int .u64 0, .int .u64 0, .int .u64 0, .int .u64 0] 84)).alloc (.cells #[.pointer none, .nilFunc, .bool false, .int .i64 0, .int .i64 0, .slice none 0 0] 87)) := ⟨_, rfl⟩
  have r4 : Row W0 w.heap.size 81 Try.zeroCells81 := by rw [hW0]; exact ((Row.new _ _ _).alloc _).alloc _
  have r5 : Row W0 (w.heap.size + 1) 84 #[.pointer none, .nilFunc, .bool false, .int .i64 0, .int .u64 0, .int .u64 0, .int .u64 0, .int .u64 0, .int .u64 0] := by
    rw [hW0]
    have := Row.new (w.alloc (.cells Try.zeroCells81 81)) 84 #[.pointer none, .nilFunc, .bool false, .int .i64 0, .int .u64 0, .int .u64 0, .int .u64 0, .int .u64 0, .int .u64 0]
    simp only [World.size_alloc] at this
    exact this.alloc _
  have r6 : Row W0 (w.heap.size + 1 + 1) 87 #[.pointer none, .nilFunc, .bool false, .int .i64 0, .int .i64 0, .slice none 0 0] := by
    rw [hW0]
    have := Row.new ((w.alloc (.cells Try.zeroCells81 81)).alloc (.cells #[.pointer none, .nilFunc, .bool false, .int .i64 0, .int .u64 0, .int .u64 0, .int .u64 0, .int .u64 0, .int .u64 0] 84)) 87 #[.pointer none, .nilFunc, .bool false, .int .i64 0, .int .i64 0, .slice none 0 0]
    simp only [World.size_alloc] at this
    exact this
  have HB0 := Lib.hid (show Below w.heap.size w W0 by rw [hW0]; exact low_and (low_and (alloc_low _ _) (alloc_low _ _)) (alloc_low _ _))
  have HW0 := Lib.hid hW0
  have R5 := Lib.hid r5
  have H4 := Lib.hid (snStep_of (mstep_nil r4 zs81))
  have H5 := Lib.hid (stillStep_of (mstep_nil r5 rfl))
  have H6 := Lib.hid (lastStep_of (mstep_nil r6 rfl))
  clear r4 r5 r6 hW0
  go_enter Try.func6, Try.ntmps6
  go_wp2_with (first
    | (go_at_call 12; first
        | (rw [← HW0.out]; refine (snStep_nil _).mono ?_; rintro e w1 ⟨rfl, rfl⟩)
        | (with_reducible refine H4.out.mono ?_; rintro e w1 ⟨rfl, rfl⟩))
    | (go_at_call 26; first
        | (with_reducible refine (stillStep_nil _).mono ?_; rintro e w1 ⟨rfl, rfl⟩)
        | (with_reducible refine H5.out.mono ?_; rintro e w1 ⟨rfl, rfl⟩))
    | (go_at_call 27; first
        | (with_reducible refine (lastStep_nil _).mono ?_; rintro e w1 ⟨rfl, rfl⟩)
        | (with_reducible refine H6.out.mono ?_; rintro e w1 ⟨rfl, rfl⟩))
    | (go_at_call 13; with_reducible refine (snNode_nil _).mono ?_; rintro e w1 ⟨rfl, hb1⟩; have HB1 := Lib.hid hb1; clear hb1 H4 H5 H6)
    | ((with_reducible refine show_storeN ?_); refine wpList_store_row rfl _ _ _ rfl w1.heap.size zeroNd.cl rfl rfl (Row.new w1 27 zeroNd.cl.toArray) rfl ndI (cl_one _) ?_; obtain ⟨W2, hW2, hn2, hb2⟩ := store_gen11 w1 zeroNd; rw [← hW2]; have HB2 := Lib.hid (low_and HB1.out hb2); clear hW2 hn2 hb2))
  go_wp2_with (first
    | (go_at_call 10; refine (snNew_any none 64 W2).mono ?_; rintro e w3 ⟨rfl, hw3⟩; have R3 := Lib.hid (show Row w3 W2.heap.size 81 (zeroS none (nextV 35 W2.heap.size) 64).toArray by rw [← hw3]; exact Row.new _ _ _); have HB3 := Lib.hid (show Below W0.heap.size W0 w3 by rw [← hw3]; exact low_and HB2.out (alloc_low _ _)); obtain ⟨g3, hg3⟩ : ∃ g3, g3 = W2.heap.size := ⟨_, rfl⟩; rw [← hg3] at R3 ⊢; have HG3 := Lib.hid (show W0.heap.size ≤ g3 by rw [hg3]; exact HB2.out.size); clear hw3 hg3)
    | (go_at_call 12; refine (snNil_step R3.out).mono ?_; rintro e w4 ⟨rfl, hb4⟩; have HB4 := Lib.hid (show Below W0.heap.size W0 w4 from HB3.out.trans (hb4.mono HG3.out)); clear hb4)
    | (go_at_call 28; refine (lastNew_none _).mono ?_; rintro e w5 ⟨⟨g5, cs5, rfl, hg5, hr5, q0, q1, q2, q3, q4⟩, hb5⟩; have HL5 := Lib.hid (last_done hr5 q0 q1 q2 q3 q4); have HB5 := Lib.hid (low_and HB4.out hb5); have HG5 := Lib.hid (show W0.heap.size ≤ g5 from Nat.le_trans HB4.out.size hg5); clear hr5 q0 q1 q2 q3 q4 hb5 hg5)
    | (go_at_call 27; refine HL5.out.mono ?_; rintro e w6 ⟨rfl, hb6⟩; have HB6 := Lib.hid (HB5.out.trans (hb6.low HB5.out.size HG5.out)); clear hb6)
    | (go_at_call 14; refine (snHigh_nil _).mono ?_; rintro e w7 ⟨rfl, hb7⟩; have HB7 := Lib.hid (low_and HB6.out hb7); clear hb7)
    | (go_at_call 29; refine (lastLines_any _).mono ?_; rintro e w8 ⟨rfl, hw8⟩; have R8 := Lib.hid (show Row w8 w7.heap.size 23 #[.int .u64 64, .int .u64 128, .int .u64 192] by rw [← hw8]; exact Row.new _ _ _); have HB8 := Lib.hid (show Below W0.heap.size W0 w8 by rw [← hw8]; exact low_and HB7.out (alloc_low _ _)); clear hw8)
    | (go_at_call 30; first
        | (with_reducible refine (stillSame_nil _).mono ?_; rintro e w9 ⟨rfl, hb9⟩; have HB9 := Lib.hid (low_and HB8.out hb9); have R9 := Lib.hid (R8.out.below hb9 R8.out.lt); clear hb9)
        | (refine (stillSame_zero (R5.out.below HB9.out R5.out.lt) rfl).mono ?_; rintro e w10 ⟨rfl, hb10⟩; have HB10 := Lib.hid (low_and HB9.out hb10); have r10 := R9.out.below hb10 R9.out.lt; have c0 := r10.cell 0; have c2 : w10.cell? ⟨w7.heap.size, 2, none⟩ = some (.int .u64 192) := r10.cell 2; clear hb10 r10))
    | (go_at_call 9; refine (known11_any _).mono ?_; rintro e w11 ⟨rfl, hb11⟩; have HB11 := Lib.hid (low_and HB10.out hb11); clear hb11))
  go_ret
  exact ⟨rfl, low_and HB0.out HB11.out⟩
end Go.Proofs.Ytaabdmlmemmnaaa
