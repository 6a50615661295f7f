/- Texts of this claim, packed: R6Is, LClaim, Img0. -/
import Derived.Test.YtahojhaeebmpoaaGreatDoorPk35
import Derived.Test.YtahojhaeebmpoaaGreatDoorPk34
import Derived.Test.YtahojhaeebmpoaaGreatDoorPk36
/- Is and Room of the document's blocks; for at most a million blocks that are not free, at most sixty-four slabs. -/
namespace Go.Proofs.YtahojhaeebmpoaaGreatDoor
open Go.RowKit
set_option linter.unusedVariables false
theorem flatB_get : ∀ (L : List (Nat × Nat)) (i : Nat) (p : Nat × Nat), L[i]? = some p → (flatB L)[i * 2]? = some (wv p.1) ∧ (flatB L)[i * 2 + 1]? = some (jv p.2)
  | q :: t, 0, p, h => by
    cases h
    exact ⟨rfl, rfl⟩
  | q :: t, i + 1, p, h => by
    have := flatB_get t i p (by simpa using h)
    rw [show (i + 1) * 2 = i * 2 + 2 from by omega, show i * 2 + 2 + 1 = i * 2 + 1 + 2 from by omega]
    exact this
  | [], i, p, h => by simp at h
/-- What a block is, by the list. -/
def isL : List (Nat × Nat) → Nat → Nat
  | [], _ => 0
  | p :: t, a => if p.1 = a then p.2 else isL t a
theorem isL_skip : ∀ (L : List (Nat × Nat)) (i : Nat) (a : Nat), (∀ t p, t < i → L[t]? = some p → p.1 ≠ a) → isL L a = isL (L.drop i) a
  | [], i, a, _ => by simp
  | q :: t, 0, a, _ => rfl
  | q :: t, i + 1, a, h => by
    have h0 := h 0 q (by omega) rfl
    rw [List.drop_succ_cons, ← isL_skip t i a (fun k p hk hp => h (k + 1) p (by omega) (by simpa using hp))]
    simp [isL, h0]
theorem isL_at {L : List (Nat × Nat)} {i : Nat} {p : Nat × Nat} {a : Nat} (h : ∀ t p, t < i → L[t]? = some p → p.1 ≠ a) (hp : L[i]? = some p) (he : p.1 = a) : isL L a = p.2 := by
  obtain ⟨hi, hx⟩ := List.getElem?_eq_some_iff.1 hp
  rw [isL_skip L i a h, List.drop_eq_getElem_cons hi, hx]
  simp [isL, he]
theorem isL_none {L : List (Nat × Nat)} {a : Nat} (h : ∀ t p, t < L.length → L[t]? = some p → p.1 ≠ a) : isL L a = 0 := by
  rw [isL_skip L L.length a h, List.drop_of_length_le (Nat.le_refl _)]
  rfl
set_option maxRecDepth 100000 in
set_option maxHeartbeats 2000000 in
theorem r6Is_any {w : World} {B gw size : Nat} {cls : List Nat} {L : List (Nat × Nat)} {vc vl : Value} (h : W6At w B gw size cls L vc vl) (hL : L.length ≤ 1000000) (a : Nat) :
    Calls Tryz.prog 13 #[fpt gw, wv a] w fun e w' => e = .returned (jv (isL L a)) ∧ w = w' := by
  obtain ⟨A, cap, hv, _⟩ : ∃ A cap, vl = .slice A L.length cap ∧ L.length ≤ maxLen := by
    rcases h.bl.2 with ⟨rfl, h0⟩ | ⟨g, cap, cur, rfl, _, _, h1, h2, _⟩
    · exact ⟨none, 0, by rw [h0], by rw [h0]; decide⟩
    · exact ⟨_, cap, rfl, by omega⟩
  subst hv
  obtain ⟨n, hn⟩ : ∃ n, n = L.length := ⟨_, rfl⟩
  rw [← hn] at h hL
  have c2 := h.row.cell 2
  simp only [List.getElem?_toArray, List.getElem?_cons_succ, List.getElem?_cons_zero] at c2
  have HN := Lib.hid hn
  have HCELL := Lib.hid (fun (i : Nat) (p : Nat × Nat) (hp : L[i]? = some p) => (show ∃ g, A = some ⟨g, 0, none⟩ ∧ w.cell? ⟨g, i * 2, none⟩ = some (wv p.1) ∧ w.cell? ⟨g, i * 2 + 1, none⟩ = some (jv p.2) by
    obtain ⟨q1, q2⟩ := flatB_get L i p hp
    have hi := (List.getElem?_eq_some_iff.1 hp).1
    rcases h.bl.2 with ⟨_, h0⟩ | ⟨g, cap', cur, h0, _, hh, _, _, _, ht⟩
    · omega
    · simp only [Value.slice.injEq] at h0
      have hrow : Row w g 99 cur := hh
      refine ⟨g, h0.1, ?_, ?_⟩
      · rw [hrow.cell, ← Array.getElem?_toList]
        rw [← ht, List.getElem?_take] at q1
        split at q1
        · exact q1
        · cases q1
      · rw [hrow.cell, ← Array.getElem?_toList]
        rw [← ht, List.getElem?_take] at q2
        split at q2
        · exact q2
        · cases q2))
  unfold wv jv at HCELL
  obtain ⟨r, hr⟩ : ∃ r, r = isL L a := ⟨_, rfl⟩
  rw [← hr]
  have HR := Lib.hid hr
  clear h hn hr
  unfold fpt wv jv
  go_enter Tryz.func13, Tryz.ntmps13
  go_wp2
  go_loopg [5] n (fun k v wr => ∃ i : Nat, v = .int .i64 (i : Int) ∧ i ≤ n ∧ n - i ≤ k ∧ wr = w ∧ ∀ t p, t < i → L[t]? = some p → p.1 ≠ a)
  case atStart => exact ⟨0, rfl, by omega, by omega, rfl, fun t p ht => by omega⟩
  case round =>
    obtain ⟨i, rfl, hin, hk, rfl, hno⟩ := hrel
    have HNO := Lib.hid hno
    clear hno
    by_cases hlt : i < n
    · obtain ⟨p, hp⟩ : ∃ p, L[i]? = some p := ⟨_, List.getElem?_eq_getElem (by rw [← HN.out]; exact hlt)⟩
      obtain ⟨g, rfl, q1, q2⟩ := HCELL.out i p hp
      have HP := Lib.hid hp
      clear hp
      by_cases he : p.1 = a
      · have heb : ((p.1 : Int) == (a : Int)) = true := by simp; omega
        have HRR : Hid (r = p.2) := Lib.hid (by rw [HR.out]; exact isL_at HNO.out HP.out he)
        clear he
        go_wp2
        go_ret
        exact ⟨by rw [HRR.out]; rfl, rfl⟩
      · have heb : ((p.1 : Int) == (a : Int)) = false := by simp; omega
        have HE := Lib.hid he
        clear he
        go_wp2
        go_roundg (n - (i + 1))
        case measure => omega
        case rel => exact ⟨i + 1, by go_num, by omega, by omega, rfl, fun t y ht hy => by
          by_cases e : t = i
          · subst e; rw [HP.out] at hy; cases hy; exact HE.out
          · exact HNO.out t y (by omega) hy⟩
    · have hje : i = n := by omega
      have hid : decide ((i : Int) < (n : Int)) = false := by simp; omega
      have HRR : Hid (r = 0) := Lib.hid (by rw [HR.out]; exact isL_none (fun t p ht => HNO.out t p (by rw [← HN.out] at ht; omega)))
      clear hje
      go_wp2
      go_ret
      exact ⟨by rw [HRR.out]; rfl, rfl⟩
end Go.Proofs.YtahojhaeebmpoaaGreatDoor
/- claim: the least slab without a class has this class, if there is one. -/
namespace Go.Proofs.YtahojhaeebmpoaaGreatDoor
open Go.RowKit Go.Sort
set_option linter.unusedVariables false
def hdV (x : Hd) (v : Value) : Value := .agg #[jv x.no, jv x.cls, wv x.bits, v]
theorem claim1_any (a b c : Int) (v : Value) (w : World) : Calls Tryz.prog 94 #[.agg #[.int .i64 a, .int .i64 b, .int .u64 c, v]] w fun e w' => e = .returned (.bool (b == 0)) ∧ Below w.heap.size w w' := by
  cases hb : (b == 0) with
  | true =>
    go_enter Tryz.func94, Tryz.ntmps94
    go_wp2
    go_ret
    exact ⟨rfl, alloc_below _ _⟩
  | false =>
    go_enter Tryz.func94, Tryz.ntmps94
    go_wp2
    go_ret
    exact ⟨rfl, alloc_below _ _⟩
/-- Which slab is the first without a class. -/
def FirstZ (hs : List Hd) (i : Nat) : Prop := (∃ x, hs[i]? = some x ∧ x.cls = 0) ∧ ∀ k z, k < i → hs[k]? = some z → z.cls ≠ 0
def NoZ (hs : List Hd) : Prop := ∀ (k : Nat) (z : Hd), hs[k]? = some z → z.cls ≠ 0
def IdxPost (w : World) (hs : List Hd) (e : Ending) (w' : World) : Prop := ((∃ i, FirstZ hs i ∧ e = .returned (jv i)) ∨ (NoZ hs ∧ e = .returned (.int .i64 (-1)))) ∧ Below w.heap.size w w'
def IdxR (w : World) (hs : List Hd) (v : Value) (wr : World) : Prop := ∃ i : Nat, i ≤ hs.length ∧ v = .int .i64 (i : Int) ∧ Below w.heap.size w wr ∧ ∀ k z, k < i → hs[k]? = some z → z.cls ≠ 0
set_option maxRecDepth 100000 in
set_option maxHeartbeats 1600000 in
theorem indexH_any {w : World} {y : SLay} {hs : List Hd} {fs : Nat → List Nat} (h : SlabMem w y hs fs) :
    Calls Tryz.prog 93 #[.slice (some ⟨y.gh, 0, none⟩) hs.length hs.length, .func (.func 94) #[] #[]] w (IdxPost w hs) := by
  have hmost := h.most
  have HH := Lib.hid (fun (W : World) (hb : Below w.heap.size w W) (i : Nat) (x : Hd) (hx : hs[i]? = some x) => (h.below hb).head hx)
  have HI := Lib.hid (fun (i : Nat) (x : Hd) (hx : hs[i]? = some x) => (h.blk i x hx).shape)
  obtain ⟨n, hn⟩ : ∃ n, n = hs.length := ⟨_, rfl⟩
  obtain ⟨gh, hgh⟩ : ∃ g, g = y.gh := ⟨_, rfl⟩
  rw [← hn] at hmost ⊢
  rw [← hgh] at HH ⊢
  have HN := Lib.hid hn
  clear h hn hgh
  go_enter Tryz.func93, Tryz.ntmps93
  go_wp2
  go_loopw [8] (fun v wr => IdxR w hs v wr) (fun v _ => n - (intOf v).toNat)
  case atStart => exact ⟨0, Nat.zero_le _, rfl, Below.refl _ _, fun k z hk => by omega⟩
  case round =>
    obtain ⟨i, hi, rfl, hb, hno⟩ := hrel
    rename World => wr
    rw [← HN.out] at hi
    have HB := Lib.hid hb
    have HNO := Lib.hid hno
    by_cases hlt : i < n
    · obtain ⟨x, hx⟩ : ∃ x, hs[i]? = some x := ⟨_, List.getElem?_eq_getElem (by rw [← HN.out]; exact hlt)⟩
      obtain ⟨c0, c1, c2, c3⟩ := HH.out wr hb i x hx
      obtain ⟨ad, hsh⟩ := HI.out i x hx
      rw [hsh] at c3
      have HX := Lib.hid hx
      have HC := Lib.hid fun W => claim1_any (x.no : Int) (x.cls : Int) (x.bits : Int) (.slice ad x.bl.length x.bl.length) W
      by_cases hz : x.cls = 0
      · rw [show ((x.cls : Int) == 0) = true from by rw [hz]; rfl] at HC
        have HZ := Lib.hid hz
        generalize x.bl.length = m at *
        unfold jv at c0 c1
        unfold wv at c2
        clear hb hno hx hsh hz
        go_wp2_with fail
        refine (HC.out _).mono ?_
        rintro e w3 ⟨rfl, hb3⟩
        have HE := Lib.hid (show IdxPost w hs (.returned (.int .i64 (i : Int))) w3 from ⟨.inl ⟨i, ⟨⟨x, HX.out, HZ.out⟩, HNO.out⟩, rfl⟩, Below.and HB.out hb3⟩)
        clear hb3
        go_wp2
        go_ret
        exact HE.out
      · rw [show ((x.cls : Int) == 0) = false from by rw [Bool.eq_false_iff]; intro k; have := beq_iff_eq.1 k; omega] at HC
        have HZ := Lib.hid hz
        generalize x.bl.length = m at *
        unfold jv at c0 c1
        unfold wv at c2
        clear hb hno hx hsh hz
        go_wp2_with fail
        refine (HC.out _).mono ?_
        rintro e w3 ⟨rfl, hb3⟩
        have HB3 := Lib.hid (Below.and HB.out hb3)
        clear hb3
        go_wp2
        go_roundw
        case rel => exact ⟨i + 1, by rw [← HN.out]; exact hlt, by go_num, HB3.out, fun k z hk hz => by
          by_cases e : k = i
          · subst e
            rw [HX.out] at hz
            cases hz
            exact HZ.out
          · exact HNO.out k z (by omega) hz⟩
        case measure => simp [intOf]; omega
    · have HE := Lib.hid (show IdxPost w hs (.returned (.int .i64 (-1))) wr from ⟨.inr ⟨fun k z hz => hno k z (by have := (List.getElem?_eq_some_iff.1 hz).1; have := HN.out; omega) hz, rfl⟩, hb⟩)
      clear hb hno hi
      go_wp2
      go_ret
      exact HE.out
def ClaimPost (w : World) (y : SLay) (hs : List Hd) (fs : Nat → List Nat) (c : Nat) (e : Ending) (w' : World) : Prop :=
  e = .returned (.tuple #[]) ∧ ∃ y' hs' fs', SlabMem w' y' hs' fs' ∧ STurn w w' y y' ∧
    ((∃ (i : Nat) (x : Hd), FirstZ hs i ∧ hs[i]? = some x ∧ hs' = hs.set i ⟨x.no, c, 0, blK (blN c) 0 (blN c)⟩ ∧ fs' = updF fs c (grown x.no c 0 (fs c) (blN c))) ∨ (NoZ hs ∧ hs' = hs ∧ fs' = fs))
set_option maxRecDepth 100000 in
set_option maxHeartbeats 1600000 in
theorem claim_any {w : World} {y : SLay} {hs : List Hd} {fs : Nat → List Nat} (h : SlabMem w y hs fs) (ok : HsOk hs) (R : RS w y) {c : Nat} (hc3 : c ≤ 3) (hfew : (fs c).length + 15 ≤ 100000) :
    Calls Tryz.prog 68 #[fpt y.gs, jv c] w (ClaimPost w y hs fs c) := by
  have HI := Lib.hid (indexH_any h)
  have c0 := h.field
  have hmost := h.most
  have HG := Lib.hid (fun (W : World) (hb : Below w.heap.size w W) (i : Nat) (x : Hd) (hx : hs[i]? = some x) (hno : 1 ≤ x.no ∧ x.no ≤ 64) => give_any (h.below hb) (R.below hb) hx hno hc3 (b := 0) (by decide) hfew)
  have HM := Lib.hid h
  have HO := Lib.hid ok
  have HR := Lib.hid R
  have HC := Lib.hid (fun (W : World) (hb : Below w.heap.size w W) => (h.below hb).field)
  obtain ⟨n, hn⟩ : ∃ n, n = hs.length := ⟨_, rfl⟩
  have HN := Lib.hid hn
  obtain ⟨gs, hgs⟩ : ∃ g, g = y.gs := ⟨_, rfl⟩
  obtain ⟨gh, hgh⟩ : ∃ g, g = y.gh := ⟨_, rfl⟩
  unfold fpt at HG ⊢
  unfold jv at HG ⊢
  rw [← hn] at HI c0 HC hmost
  rw [← hgs] at c0 HC HG ⊢
  rw [← hgh] at c0 HC HG HI
  clear h ok R hn hgs hgh
  go_enter Tryz.func68, Tryz.ntmps68
  go_wp2_with fail
  refine HI.out.mono ?_
  rintro e w1 ⟨hi, hb⟩
  have HB := Lib.hid hb
  have c1 := HC.out w1 hb
  rcases hi with ⟨i, hf, rfl⟩ | ⟨hz, rfl⟩
  · obtain ⟨x, hx, _⟩ := hf.1
    have hil : i < n := by rw [HN.out]; exact (List.getElem?_eq_some_iff.1 hx).1
    have HGV := Lib.hid (HG.out w1 hb i x hx (by have := HO.out i x hx; omega))
    have HX := Lib.hid hx
    have HF := Lib.hid hf
    unfold wv at HGV
    rw [show (((0 : Nat)) : Int) = 0 from rfl] at HGV
    clear hb hx hf HG c0
    unfold jv
    go_wp2_with fail
    refine HGV.out.mono ?_
    rintro e w2 ⟨rfl, y2, hs2, ht2⟩
    have HE := Lib.hid (show ClaimPost w y hs fs c (.returned (.tuple #[])) w2 from ⟨rfl, y2, _, _, hs2, (STurn.of_below y HB.out).trans ht2, .inl ⟨i, x, HF.out, HX.out, rfl, rfl⟩⟩)
    clear hs2 ht2 HGV
    go_wp2
    refine bodyPost_ret (results_none rfl _ _ _) rfl ?_
    exact HE.out
  · have HE := Lib.hid (show ClaimPost w y hs fs c (.returned (.tuple #[])) w1 from ⟨rfl, y, hs, fs, HM.out.below hb, STurn.of_below y hb, .inr ⟨hz, rfl, rfl⟩⟩)
    clear hb hz HG
    go_wp2
    refine bodyPost_ret (results_none rfl _ _ _) rfl ?_
    exact HE.out
end Go.Proofs.YtahojhaeebmpoaaGreatDoor
/- The law's image of no slab, the document's blocks of it: there are none. -/
namespace Go.Proofs.YtahojhaeebmpoaaGreatDoor
open Go.RowKit Go.Sort
set_option linter.unusedVariables false
theorem r6Of_size {w : World} {A : Option Addr} {cap : Nat} :
    Calls Tryz.prog 10 #[.slice A 1024 cap] w fun e w' => e = .returned (.tuple #[.pointer none, .int .i64 2]) ∧ w = w' := by
  have H := Lib.hid (refSlabs_any 1024 w)
  rw [show slabsN 1024 = 0 from by unfold slabsN; decide] at H
  go_enter Tryz.func10, Tryz.ntmps10
  go_wp2_with fail
  refine H.out.mono ?_
  rintro e w1 ⟨rfl, rfl⟩
  go_wp2
  go_ret2
  exact ⟨rfl, rfl⟩
set_option maxRecDepth 100000 in
set_option maxHeartbeats 3200000 in
theorem image_none {w : World} {A : Option Addr} {cap f : Nat} (hf : f < 256) :
    Calls Tryz.prog 8 #[.slice A 0 cap, .int .u8 (f : Int)] w (ImPost w [] f) := by
  have mixed : Tryz.prog.follows .mixedOrders = true := by kernel_rfl
  obtain ⟨Z, hZ⟩ : ∃ Z, Z = 1024 := ⟨_, rfl⟩
  have hzI : (1024 : Int) = (Z : Int) := by omega
  have hZB : Z ≤ 66560 := by omega
  have HZ := Lib.hid hZ
  obtain ⟨gb, hgb⟩ : ∃ gb, gb = w.heap.size := ⟨_, rfl⟩
  have HGB := Lib.hid hgb
  clear hZ hgb
  obtain ⟨i0, hi, hz0, hz1, hz2⟩ := info_parts info5
  have hm1 := fun W : World => run_make (P := Tryz.prog) W 26 5 i0 _ Tryz.underlying26 hi hz0 .i64 .i64 ((Z : Nat) : Int) ((Z : Nat) : Int) (by omega) (by omega) (by rw [hz2]; omega) (by omega)
  simp only [Int.toNat_natCast, hz1, Nat.mul_one] at hm1
  go_enter Tryz.func8, Tryz.ntmps8
  go_wp2
  obtain ⟨W1, hW1⟩ : ∃ W1, W1 = w.alloc (.cells (madeCells #[.int .u8 0] Z) 5) := ⟨_, rfl⟩
  have hr1 : Row W1 gb 5 (part Z (fun j => decide (j < 0)) (fun _ => bv f) (bv 0)) := by
    rw [part_none Z _ _ (by simp), hW1, HGB.out]
    have e : madeCells #[.int .u8 0] Z = Array.replicate Z (bv 0) := by rw [madeCells_one]; simp [bv]
    rw [e]
    exact Row.new _ _ _
  have hb1 : Below w.heap.size w W1 := by rw [hW1]; exact alloc_below _ _
  have HR1 := Lib.hid hr1
  have HB1 := Lib.hid hb1
  rw [← hW1, ← HGB.out]
  clear hr1 hb1 hW1
  go_loopw [6] (fun v wr => ∃ i : Nat, i ≤ Z ∧ v = .int .i64 i ∧ Row wr gb 5 (part Z (fun j => decide (j < i)) (fun _ => bv f) (bv 0)) ∧ Below w.heap.size w wr) (fun v _ => Z - (intOf v).toNat)
  case atStart => exact ⟨0, Nat.zero_le _, rfl, HR1.out, HB1.out⟩
  case round =>
    obtain ⟨i, hiz, rfl, hrow, hb⟩ := hrel
    rename World => wr
    by_cases h8 : i < Z
    · have hc := hrow.cell i
      rw [part_get h8] at hc
      have hfz := hrow.free i
      simp only [decide_eq_true_eq, Nat.lt_irrefl, if_false] at hc
      have HRW := Lib.hid hrow
      have HB := Lib.hid hb
      clear hrow hb HR1 HB1
      go_wp2
      go_roundw
      case rel => exact ⟨i + 1, by omega, by go_num, by
        have h := HRW.out.set i (bv f)
        rw [part_next Z i (fun _ => bv f) (bv 0)] at h
        exact h, HB.out.setCell (p := ⟨gb, i, none⟩) (by rw [HGB.out]; exact Nat.le_refl _) _⟩
      case measure => simp [intOf]; omega
    · obtain rfl : i = Z := by omega
      have hst : Row wr gb 5 (part i (imW 0 0) (imV [] f) (bv f)) := by
        have e : part i (imW 0 0) (imV [] f) (bv f) = part i (fun j => decide (j < i)) (fun _ => bv f) (bv 0) := by
          rw [part_all _ _ (fun j hj => decide_eq_true hj), part_none i _ _ (by intro j; simp [imW])]
          apply Array.ext <;> simp
        rw [e]; exact hrow
      have HE := Lib.hid (show ImPost w [] f (.returned (.slice (some ⟨gb, 0, none⟩) i i)) wr from ⟨gb, by have := HZ.out; subst this; rfl, by
        have h := hst
        rw [HZ.out] at h
        rw [← im_end (l := []) (f := f)]
        exact h, hb, by rw [HGB.out]; exact Nat.le_refl _⟩)
      clear hrow hb hst HR1 HB1
      go_wp2
      go_loopw [7] (fun v wr2 => v = .int .i64 0 ∧ wr2 = wr) (fun v _ => 0)
      case atStart => exact ⟨rfl, rfl⟩
      case round =>
        obtain ⟨rfl, rfl⟩ := hrel
        go_wp2
        go_ret
        exact HE.out
end Go.Proofs.YtahojhaeebmpoaaGreatDoor
