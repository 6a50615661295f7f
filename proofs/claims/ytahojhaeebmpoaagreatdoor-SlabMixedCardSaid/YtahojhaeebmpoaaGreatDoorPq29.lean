/- Texts of this claim, packed: R6Is, LClaim, LRes, LRoom, LCount, LRsv, LRel. -/
import Derived.Test.YtahojhaeebmpoaaGreatDoorPq28
/- Is and Room of the document's blocks; for at most a million blocks that are not free, at most sixty-four slabs. -/
namespace Go.Proofs.YtahojhaeebmpoaaGreatDoor
open Go.RowKit
set_option linter.unusedVariables false
theorem flatB_get : ∀ (L : List (Nat × Nat)) (i : Nat) (p : Nat × Nat), L[i]? = some p → (flatB L)[i * 2]? = some (wv p.1) ∧ (flatB L)[i * 2 + 1]? = some (jv p.2)
  | q :: t, 0, p, h => by
    cases h
    exact ⟨rfl, rfl⟩
  | q :: t, i + 1, p, h => by
    have := flatB_get t i p (by simpa using h)
    rw [show (i + 1) * 2 = i * 2 + 2 from by omega, show i * 2 + 2 + 1 = i * 2 + 1 + 2 from by omega]
    exact this
  | [], i, p, h => by simp at h
/-- What a block is, by the list. -/
def isL : List (Nat × Nat) → Nat → Nat
  | [], _ => 0
  | p :: t, a => if p.1 = a then p.2 else isL t a
theorem isL_skip : ∀ (L : List (Nat × Nat)) (i : Nat) (a : Nat), (∀ t p, t < i → L[t]? = some p → p.1 ≠ a) → isL L a = isL (L.drop i) a
  | [], i, a, _ => by simp
  | q :: t, 0, a, _ => rfl
  | q :: t, i + 1, a, h => by
    have h0 := h 0 q (by omega) rfl
    rw [List.drop_succ_cons, ← isL_skip t i a (fun k p hk hp => h (k + 1) p (by omega) (by simpa using hp))]
    simp [isL, h0]
theorem isL_at {L : List (Nat × Nat)} {i : Nat} {p : Nat × Nat} {a : Nat} (h : ∀ t p, t < i → L[t]? = some p → p.1 ≠ a) (hp : L[i]? = some p) (he : p.1 = a) : isL L a = p.2 := by
  obtain ⟨hi, hx⟩ := List.getElem?_eq_some_iff.1 hp
  rw [isL_skip L i a h, List.drop_eq_getElem_cons hi, hx]
  simp [isL, he]
theorem isL_none {L : List (Nat × Nat)} {a : Nat} (h : ∀ t p, t < L.length → L[t]? = some p → p.1 ≠ a) : isL L a = 0 := by
  rw [isL_skip L L.length a h, List.drop_of_length_le (Nat.le_refl _)]
  rfl
set_option maxRecDepth 100000 in
set_option maxHeartbeats 2000000 in
theorem r6Is_any {w : World} {B gw size : Nat} {cls : List Nat} {L : List (Nat × Nat)} {vc vl : Value} (h : W6At w B gw size cls L vc vl) (hL : L.length ≤ 1000000) (a : Nat) :
    Calls Tryz.prog 13 #[fpt gw, wv a] w fun e w' => e = .returned (jv (isL L a)) ∧ w = w' := by
  obtain ⟨A, cap, hv, _⟩ : ∃ A cap, vl = .slice A L.length cap ∧ L.length ≤ maxLen := by
    rcases h.bl.2 with ⟨rfl, h0⟩ | ⟨g, cap, cur, rfl, _, _, h1, h2, _⟩
    · exact ⟨none, 0, by rw [h0], by rw [h0]; decide⟩
    · exact ⟨_, cap, rfl, by omega⟩
  subst hv
  obtain ⟨n, hn⟩ : ∃ n, n = L.length := ⟨_, rfl⟩
  rw [← hn] at h hL
  have c2 := h.row.cell 2
  simp only [List.getElem?_toArray, List.getElem?_cons_succ, List.getElem?_cons_zero] at c2
  have HN := Lib.hid hn
  have HCELL := Lib.hid (fun (i : Nat) (p : Nat × Nat) (hp : L[i]? = some p) => (show ∃ g, A = some ⟨g, 0, none⟩ ∧ w.cell? ⟨g, i * 2, none⟩ = some (wv p.1) ∧ w.cell? ⟨g, i * 2 + 1, none⟩ = some (jv p.2) by
    obtain ⟨q1, q2⟩ := flatB_get L i p hp
    have hi := (List.getElem?_eq_some_iff.1 hp).1
    rcases h.bl.2 with ⟨_, h0⟩ | ⟨g, cap', cur, h0, _, hh, _, _, _, ht⟩
    · omega
    · simp only [Value.slice.injEq] at h0
      have hrow : Row w g 99 cur := hh
      refine ⟨g, h0.1, ?_, ?_⟩
      · rw [hrow.cell, ← Array.getElem?_toList]
        rw [← ht, List.getElem?_take] at q1
        split at q1
        · exact q1
        · cases q1
      · rw [hrow.cell, ← Array.getElem?_toList]
        rw [← ht, List.getElem?_take] at q2
        split at q2
        · exact q2
        · cases q2))
  unfold wv jv at HCELL
  obtain ⟨r, hr⟩ : ∃ r, r = isL L a := ⟨_, rfl⟩
  rw [← hr]
  have HR := Lib.hid hr
  clear h hn hr
  unfold fpt wv jv
  go_enter Tryz.func13, Tryz.ntmps13
  go_wp2
  go_loopg [5] n (fun k v wr => ∃ i : Nat, v = .int .i64 (i : Int) ∧ i ≤ n ∧ n - i ≤ k ∧ wr = w ∧ ∀ t p, t < i → L[t]? = some p → p.1 ≠ a)
  case atStart => exact ⟨0, rfl, by omega, by omega, rfl, fun t p ht => by omega⟩
  case round =>
    obtain ⟨i, rfl, hin, hk, rfl, hno⟩ := hrel
    have HNO := Lib.hid hno
    clear hno
    by_cases hlt : i < n
    · obtain ⟨p, hp⟩ : ∃ p, L[i]? = some p := ⟨_, List.getElem?_eq_getElem (by rw [← HN.out]; exact hlt)⟩
      obtain ⟨g, rfl, q1, q2⟩ := HCELL.out i p hp
      have HP := Lib.hid hp
      clear hp
      by_cases he : p.1 = a
      · have heb : ((p.1 : Int) == (a : Int)) = true := by simp; omega
        have HRR : Hid (r = p.2) := Lib.hid (by rw [HR.out]; exact isL_at HNO.out HP.out he)
        clear he
        go_wp2
        go_ret
        exact ⟨by rw [HRR.out]; rfl, rfl⟩
      · have heb : ((p.1 : Int) == (a : Int)) = false := by simp; omega
        have HE := Lib.hid he
        clear he
        go_wp2
        go_roundg (n - (i + 1))
        case measure => omega
        case rel => exact ⟨i + 1, by go_num, by omega, by omega, rfl, fun t y ht hy => by
          by_cases e : t = i
          · subst e; rw [HP.out] at hy; cases hy; exact HE.out
          · exact HNO.out t y (by omega) hy⟩
    · have hje : i = n := by omega
      have hid : decide ((i : Int) < (n : Int)) = false := by simp; omega
      have HRR : Hid (r = 0) := Lib.hid (by rw [HR.out]; exact isL_none (fun t p ht => HNO.out t p (by rw [← HN.out] at ht; omega)))
      clear hje
      go_wp2
      go_ret
      exact ⟨by rw [HRR.out]; rfl, rfl⟩
end Go.Proofs.YtahojhaeebmpoaaGreatDoor
/- claim: the least slab without a class has this class, if there is one. -/
namespace Go.Proofs.YtahojhaeebmpoaaGreatDoor
open Go.RowKit Go.Sort
set_option linter.unusedVariables false
theorem claim1_any (a b c : Int) (v : Value) (w : World) : Calls Tryz.prog 94 #[.agg #[.int .i64 a, .int .i64 b, .int .u64 c, v]] w fun e w' => e = .returned (.bool (b == 0)) ∧ Below w.heap.size w w' := by
  cases hb : (b == 0) with
  | true =>
    go_enter Tryz.func94, Tryz.ntmps94
    go_wp2
    go_ret
    exact ⟨rfl, alloc_below _ _⟩
  | false =>
    go_enter Tryz.func94, Tryz.ntmps94
    go_wp2
    go_ret
    exact ⟨rfl, alloc_below _ _⟩
/-- Which slab is the first without a class. -/
def FirstZ (hs : List Hd) (i : Nat) : Prop := (∃ x, hs[i]? = some x ∧ x.cls = 0) ∧ ∀ k z, k < i → hs[k]? = some z → z.cls ≠ 0
def NoZ (hs : List Hd) : Prop := ∀ (k : Nat) (z : Hd), hs[k]? = some z → z.cls ≠ 0
def IdxPost (w : World) (hs : List Hd) (e : Ending) (w' : World) : Prop := ((∃ i, FirstZ hs i ∧ e = .returned (jv i)) ∨ (NoZ hs ∧ e = .returned (.int .i64 (-1)))) ∧ Below w.heap.size w w'
def IdxR (w : World) (hs : List Hd) (v : Value) (wr : World) : Prop := ∃ i : Nat, i ≤ hs.length ∧ v = .int .i64 (i : Int) ∧ Below w.heap.size w wr ∧ ∀ k z, k < i → hs[k]? = some z → z.cls ≠ 0
set_option maxRecDepth 100000 in
set_option maxHeartbeats 1600000 in
theorem indexH_any {w : World} {y : SLay} {hs : List Hd} {fs : Nat → List Nat} (h : SlabMem w y hs fs) :
    Calls Tryz.prog 93 #[.slice (some ⟨y.gh, 0, none⟩) hs.length hs.length, .func (.func 94) #[] #[]] w (IdxPost w hs) := by
  have hmost := h.most
  have HH := Lib.hid (fun (W : World) (hb : Below w.heap.size w W) (i : Nat) (x : Hd) (hx : hs[i]? = some x) => (h.below hb).head hx)
  have HI := Lib.hid (fun (i : Nat) (x : Hd) (hx : hs[i]? = some x) => (h.blk i x hx).shape)
  obtain ⟨n, hn⟩ : ∃ n, n = hs.length := ⟨_, rfl⟩
  obtain ⟨gh, hgh⟩ : ∃ g, g = y.gh := ⟨_, rfl⟩
  rw [← hn] at hmost ⊢
  rw [← hgh] at HH ⊢
  have HN := Lib.hid hn
  clear h hn hgh
  go_enter Tryz.func93, Tryz.ntmps93
  go_wp2
  go_loopw [8] (fun v wr => IdxR w hs v wr) (fun v _ => n - (intOf v).toNat)
  case atStart => exact ⟨0, Nat.zero_le _, rfl, Below.refl _ _, fun k z hk => by omega⟩
  case round =>
    obtain ⟨i, hi, rfl, hb, hno⟩ := hrel
    rename World => wr
    rw [← HN.out] at hi
    have HB := Lib.hid hb
    have HNO := Lib.hid hno
    by_cases hlt : i < n
    · obtain ⟨x, hx⟩ : ∃ x, hs[i]? = some x := ⟨_, List.getElem?_eq_getElem (by rw [← HN.out]; exact hlt)⟩
      obtain ⟨c0, c1, c2, c3⟩ := HH.out wr hb i x hx
      obtain ⟨ad, hsh⟩ := HI.out i x hx
      rw [hsh] at c3
      have HX := Lib.hid hx
      have HC := Lib.hid fun W => claim1_any (x.no : Int) (x.cls : Int) (x.bits : Int) (.slice ad x.bl.length x.bl.length) W
      by_cases hz : x.cls = 0
      · rw [show ((x.cls : Int) == 0) = true from by rw [hz]; rfl] at HC
        have HZ := Lib.hid hz
        generalize x.bl.length = m at *
        unfold jv at c0 c1
        unfold wv at c2
        clear hb hno hx hsh hz
        go_wp2_with fail
        refine (HC.out _).mono ?_
        rintro e w3 ⟨rfl, hb3⟩
        have HE := Lib.hid (show IdxPost w hs (.returned (.int .i64 (i : Int))) w3 from ⟨.inl ⟨i, ⟨⟨x, HX.out, HZ.out⟩, HNO.out⟩, rfl⟩, Below.and HB.out hb3⟩)
        clear hb3
        go_wp2
        go_ret
        exact HE.out
      · rw [show ((x.cls : Int) == 0) = false from by rw [Bool.eq_false_iff]; intro k; have := beq_iff_eq.1 k; omega] at HC
        have HZ := Lib.hid hz
        generalize x.bl.length = m at *
        unfold jv at c0 c1
        unfold wv at c2
        clear hb hno hx hsh hz
        go_wp2_with fail
        refine (HC.out _).mono ?_
        rintro e w3 ⟨rfl, hb3⟩
        have HB3 := Lib.hid (Below.and HB.out hb3)
        clear hb3
        go_wp2
        go_roundw
        case rel => exact ⟨i + 1, by rw [← HN.out]; exact hlt, by go_num, HB3.out, fun k z hk hz => by
          by_cases e : k = i
          · subst e
            rw [HX.out] at hz
            cases hz
            exact HZ.out
          · exact HNO.out k z (by omega) hz⟩
        case measure => simp [intOf]; omega
    · have HE := Lib.hid (show IdxPost w hs (.returned (.int .i64 (-1))) wr from ⟨.inr ⟨fun k z hz => hno k z (by have := (List.getElem?_eq_some_iff.1 hz).1; have := HN.out; omega) hz, rfl⟩, hb⟩)
      clear hb hno hi
      go_wp2
      go_ret
      exact HE.out
def ClaimPost (w : World) (y : SLay) (hs : List Hd) (fs : Nat → List Nat) (c : Nat) (e : Ending) (w' : World) : Prop :=
  e = .returned (.tuple #[]) ∧ ∃ y' hs' fs', SlabMem w' y' hs' fs' ∧ STurn w w' y y' ∧
    ((∃ (i : Nat) (x : Hd), FirstZ hs i ∧ hs[i]? = some x ∧ hs' = hs.set i ⟨x.no, c, 0, blK (blN c) 0 (blN c)⟩ ∧ fs' = updF fs c (grown x.no c 0 (fs c) (blN c))) ∨ (NoZ hs ∧ hs' = hs ∧ fs' = fs))
set_option maxRecDepth 100000 in
set_option maxHeartbeats 1600000 in
theorem claim_any {w : World} {y : SLay} {hs : List Hd} {fs : Nat → List Nat} (h : SlabMem w y hs fs) (ok : HsOk hs) (R : RS w y) {c : Nat} (hc3 : c ≤ 3) (hfew : (fs c).length + 15 ≤ 100000) :
    Calls Tryz.prog 68 #[fpt y.gs, jv c] w (ClaimPost w y hs fs c) := by
  have HI := Lib.hid (indexH_any h)
  have c0 := h.field
  have hmost := h.most
  have HG := Lib.hid (fun (W : World) (hb : Below w.heap.size w W) (i : Nat) (x : Hd) (hx : hs[i]? = some x) (hno : 1 ≤ x.no ∧ x.no ≤ 64) => give_any (h.below hb) (R.below hb) hx hno hc3 (b := 0) (by decide) hfew)
  have HM := Lib.hid h
  have HO := Lib.hid ok
  have HR := Lib.hid R
  have HC := Lib.hid (fun (W : World) (hb : Below w.heap.size w W) => (h.below hb).field)
  obtain ⟨n, hn⟩ : ∃ n, n = hs.length := ⟨_, rfl⟩
  have HN := Lib.hid hn
  obtain ⟨gs, hgs⟩ : ∃ g, g = y.gs := ⟨_, rfl⟩
  obtain ⟨gh, hgh⟩ : ∃ g, g = y.gh := ⟨_, rfl⟩
  unfold fpt at HG ⊢
  unfold jv at HG ⊢
  rw [← hn] at HI c0 HC hmost
  rw [← hgs] at c0 HC HG ⊢
  rw [← hgh] at c0 HC HG HI
  clear h ok R hn hgs hgh
  go_enter Tryz.func68, Tryz.ntmps68
  go_wp2_with fail
  refine HI.out.mono ?_
  rintro e w1 ⟨hi, hb⟩
  have HB := Lib.hid hb
  have c1 := HC.out w1 hb
  rcases hi with ⟨i, hf, rfl⟩ | ⟨hz, rfl⟩
  · obtain ⟨x, hx, _⟩ := hf.1
    have hil : i < n := by rw [HN.out]; exact (List.getElem?_eq_some_iff.1 hx).1
    have HGV := Lib.hid (HG.out w1 hb i x hx (by have := HO.out i x hx; omega))
    have HX := Lib.hid hx
    have HF := Lib.hid hf
    unfold wv at HGV
    rw [show (((0 : Nat)) : Int) = 0 from rfl] at HGV
    clear hb hx hf HG c0
    unfold jv
    go_wp2_with fail
    refine HGV.out.mono ?_
    rintro e w2 ⟨rfl, y2, hs2, ht2⟩
    have HE := Lib.hid (show ClaimPost w y hs fs c (.returned (.tuple #[])) w2 from ⟨rfl, y2, _, _, hs2, (STurn.of_below y HB.out).trans ht2, .inl ⟨i, x, HF.out, HX.out, rfl, rfl⟩⟩)
    clear hs2 ht2 HGV
    go_wp2
    refine bodyPost_ret (results_none rfl _ _ _) rfl ?_
    exact HE.out
  · have HE := Lib.hid (show ClaimPost w y hs fs c (.returned (.tuple #[])) w1 from ⟨rfl, y, hs, fs, HM.out.below hb, STurn.of_below y hb, .inr ⟨hz, rfl, rfl⟩⟩)
    clear hb hz HG
    go_wp2
    refine bodyPost_ret (results_none rfl _ _ _) rfl ?_
    exact HE.out
end Go.Proofs.YtahojhaeebmpoaaGreatDoor
/- Reserve: the least free block of a class; Release; for classes that there are, and others. -/
namespace Go.Proofs.YtahojhaeebmpoaaGreatDoor
open Go.RowKit Go.Sort
set_option linter.unusedVariables false
theorem list_min : ∀ (s : List Nat), s ≠ [] → ∃ m, m ∈ s ∧ ∀ x ∈ s, m ≤ x
  | [], h => absurd rfl h
  | [a], _ => ⟨a, List.mem_cons_self, fun x hx => by simp at hx; omega⟩
  | a :: b :: t, _ => by
    obtain ⟨m, hm, hl⟩ := list_min (b :: t) (by simp)
    by_cases h : a ≤ m
    · exact ⟨a, List.mem_cons_self, fun x hx => by
        rcases List.mem_cons.1 hx with rfl | hx
        · exact Nat.le_refl _
        · exact Nat.le_trans h (hl x hx)⟩
    · exact ⟨m, List.mem_cons_of_mem _ hm, fun x hx => by
        rcases List.mem_cons.1 hx with rfl | hx
        · omega
        · exact hl x hx⟩
/-- The slabs, one more of them with a class, if none of that class has a free block. -/
def Claimed (hs hs1 : List Hd) (c : Nat) : Prop := ((∃ a, FreeB hs c a) ∧ hs1 = hs) ∨ ((∀ a, ¬ FreeB hs c a) ∧ ((∃ (i : Nat) (x : Hd), FirstZ hs i ∧ hs[i]? = some x ∧ hs1 = hs.set i ⟨x.no, c, 0, blK (blN c) 0 (blN c)⟩) ∨ (NoZ hs ∧ hs1 = hs)))
/-- What Reserve answers, of the slabs hs1, and what it leaves. -/
def Took (hs1 hs' : List Hd) (c : Nat) (e : Ending) : Prop :=
  (∃ (i j : Nat) (x : Hd), hs1[i]? = some x ∧ x.cls = c ∧ x.bl[j]? = some 0 ∧ (∀ a, FreeB hs1 c a → adr x.no c j ≤ a) ∧ hs' = hs1.set i { x with bl := x.bl.set j 1 } ∧ e = .returned (.tuple #[wv (adr x.no c j), .int .i64 0])) ∨
  ((∀ a, ¬ FreeB hs1 c a) ∧ hs' = hs1 ∧ e = .returned (.tuple #[.int .u64 0, .int .i64 4]))
def ResPost (w : World) (y : SLay) (hs : List Hd) (c : Nat) (e : Ending) (w' : World) : Prop :=
  ∃ hs1 hs' y' fs', Claimed hs hs1 c ∧ Took hs1 hs' c e ∧ SlabMem w' y' hs' fs' ∧ HsOk hs' ∧ FsOk hs' fs' ∧ STurn w w' y y'
set_option maxRecDepth 100000 in
set_option maxHeartbeats 3200000 in
theorem reserve_any {w : World} {y : SLay} {hs : List Hd} {fs : Nat → List Nat} (h : SlabMem w y hs fs) (ok : HsOk hs) (fo : FsOk hs fs) (R : RS w y) {c : Nat} (hc1 : 1 ≤ c) (hc3 : c ≤ 3) :
    Calls Tryz.prog 26 #[fpt y.gs, jv c] w (ResPost w y hs c) := by
  have H := Lib.hid (snone_at h)
  have HC := Lib.hid (sClass_at (n := (c : Int)) (inB_yes ⟨by omega, by omega⟩) w)
  have hfew := fo.few ok h.most c
  have HLN := Lib.hid (len_any (h.fre c (by omega)) (by omega))
  have HCL := Lib.hid (claim_any h ok R hc3 (by omega))
  have d1 := h.set4 (c := c) (by omega)
  have HM := Lib.hid h
  have HO := Lib.hid ok
  have HF := Lib.hid fo
  have HR := Lib.hid R
  have HFW := Lib.hid hfew
  obtain ⟨gs, hgs⟩ : ∃ g, g = y.gs := ⟨_, rfl⟩
  obtain ⟨gf, hgf⟩ : ∃ g, g = y.gf c := ⟨_, rfl⟩
  unfold fpt at H HCL d1 ⊢
  unfold jv at HCL ⊢
  rw [← hgs] at H HCL d1 ⊢
  rw [← hgf] at HLN d1
  have HGS := Lib.hid hgs
  have HGF := Lib.hid hgf
  clear h ok fo R hgs hgf hfew
  go_enter Tryz.func26, Tryz.ntmps26
  go_wp2_with fail
  refine H.out.mono ?_
  rintro e w1 ⟨rfl, rfl⟩
  go_wp2_with fail
  refine HC.out.mono ?_
  rintro e w1 ⟨rfl, rfl⟩
  by_cases h0 : fs c = []
  · rw [h0] at HLN
    rw [show ((([] : List Nat).length : Nat) : Int) = 0 from rfl] at HLN
    have HZ := Lib.hid (show ∀ a, ¬ FreeB hs c a from fun a ha => by have := ((HF.out c).2 a).2 ha; rw [h0] at this; cases this)
    clear h0
    go_wp2_with fail
    refine HLN.out.mono ?_
    rintro e w1 ⟨rfl, rfl⟩
    go_wp2_with fail
    refine HCL.out.mono ?_
    rintro e w1 ⟨rfl, y1, hs1, fs1, hm1, ht1, hcc⟩
    have HS1 := Lib.hid hm1
    have HT1 := Lib.hid ht1
    have hcl : HsOk hs1 ∧ FsOk hs1 fs1 ∧ Claimed hs hs1 c := by
      rcases hcc with ⟨i, x, hf, hx, rfl, rfl⟩ | ⟨hz, rfl, rfl⟩
      · have hx0 : x.cls = 0 := by
          obtain ⟨x', hx', h0⟩ := hf.1
          rw [hx] at hx'
          cases hx'
          exact h0
        have hxl : x.bl.length = 0 := by rw [(HO.out i x hx).2, hx0]; rfl
        exact ⟨HO.out.claim hx, HF.out.claim hx hx0 hxl, .inr ⟨HZ.out, .inl ⟨i, x, hf, hx, rfl⟩⟩⟩
      · exact ⟨HO.out, HF.out, .inr ⟨HZ.out, .inr ⟨hz, rfl⟩⟩⟩
    have HO1 := Lib.hid hcl.1
    have HF1 := Lib.hid hcl.2.1
    have HCD := Lib.hid hcl.2.2
    clear hm1 ht1 hcc hcl d1 H HC HLN HCL
    have d2 := HS1.out.set4 (c := c) (by omega)
    unfold fpt at d2
    rw [HT1.out.gs, HT1.out.gf, ← HGS.out, ← HGF.out] at d2
    by_cases h1 : fs1 c = []
    · have hS := HS1.out.fre c (by omega)
      rw [h1, HT1.out.gf, ← HGF.out] at hS
      have HTN := Lib.hid (take_none hS)
      have HE := Lib.hid (show ResPost w y hs c (.returned (.tuple #[.int .u64 0, .int .i64 4])) w1 from ⟨hs1, hs1, y1, fs1, HCD.out, .inr ⟨(fun a ha => by have := ((HF1.out c).2 a).2 ha; rw [h1] at this; cases this), rfl, rfl⟩, HS1.out, HO1.out, HF1.out, HT1.out⟩)
      clear h1 hS
      go_wp2_with fail
      refine HTN.out.mono ?_
      rintro e w2 ⟨rfl, rfl⟩
      go_wp2
      go_ret2
      exact HE.out
    · obtain ⟨m, hmm, hmin⟩ := list_min _ h1
      have hS := HS1.out.fre c (by omega)
      have hfw := HF1.out.few HO1.out HS1.out.most c
      have hTK := take_any hS (by omega) hmm hmin
      rw [HT1.out.gf, ← HGF.out] at hTK
      unfold wv at hTK
      have HTK := Lib.hid hTK
      obtain ⟨i, j, x, hx, hxc, hb, ha, hfd⟩ := (((HF1.out c).2 m).1 hmm).found
      have HX := Lib.hid hx
      have HXC := Lib.hid hxc
      have HBL := Lib.hid hb
      have HAD := Lib.hid ha
      have HFD := Lib.hid hfd
      have HMIN := Lib.hid (show ∀ a, FreeB hs1 c a → m ≤ a from fun a ha => hmin a (((HF1.out c).2 a).2 ha))
      have HFW1 := Lib.hid hfw
      clear h1 hmm hmin hS hfw hTK hx hxc hb ha hfd
      go_wp2_with fail
      refine HTK.out.mono ?_
      rintro e w2 ⟨rfl, hl⟩
      have hl' : LeftSet w1 (y1.gf c) (y1.fv c) ((fs1 c).erase m) w2 := by rw [HT1.out.gf, ← HGF.out]; exact hl
      obtain ⟨y2, hm2, ht2⟩ := HS1.out.left (c := c) (by omega) hl' (by have := HFW1.out; have := List.length_erase_le (a := m) (l := fs1 c); omega)
      have HT2 := Lib.hid (HT1.out.trans ht2)
      have HFI := find_any hm2 HO1.out (HR.out.turn HT2.out).1 m
      unfold fpt wv at HFI
      rw [HT2.out.gs, ← HGS.out] at HFI
      have HFI := Lib.hid HFI
      have HS2 := Lib.hid hm2
      clear hl hl' hm2 ht2 HTK d2
      go_wp2_with fail
      refine HFI.out.mono ?_
      rintro e w3 ⟨hf, hb3⟩
      have HB3 := Lib.hid hb3
      rcases hf with ⟨i', j', hf', rfl⟩ | ⟨hn, rfl⟩
      · obtain ⟨rfl, rfl⟩ := found_one HO1.out HS2.out.most hf' HFD.out
        have hm3 := HS2.out.below hb3
        have hxl : j' < x.bl.length := (List.getElem?_eq_some_iff.1 HBL.out).1
        have hl15 := (HS2.out.lens x (List.mem_of_getElem? HX.out)).1
        obtain ⟨g, hsh, hrow⟩ := (hm3.blk i' x HX.out).pos (by omega)
        have hown : (y2.bv i').ownBlock = some g := by rw [hsh]; rfl
        have c3 := (hm3.head HX.out).2.2.2
        rw [hsh] at c3
        have cj := hrow.cell j'
        rw [List.getElem?_toArray, List.getElem?_map, HBL.out, Option.map_some] at cj
        have fj := hrow.free j'
        obtain ⟨hp, tp⟩ := hm3.put_bl (j := j') HX.out hown 1
        have HE := Lib.hid (show ResPost w y hs c (.returned (.tuple #[.int .u64 (m : Int), .int .i64 0])) (w3.setCell ⟨g, j', none⟩ (.int .i64 1)) from by
          have hmost := HS2.out.most
          have hfo := HF1.out.take HO1.out hmost (v := 1) HX.out HBL.out (by decide)
          refine ⟨hs1, _, y2, _, HCD.out, .inl ⟨i', j', x, HX.out, HXC.out, HBL.out, by rw [HAD.out]; exact HMIN.out, rfl, by rw [HAD.out]; rfl⟩, hp, HO1.out.set_bl HX.out, ?_, (HT2.out.trans (STurn.of_below y2 HB3.out)).trans tp⟩
          have e : updF fs1 x.cls ((fs1 x.cls).erase (adr x.no x.cls j')) = updF fs1 c ((fs1 c).erase m) := by rw [HXC.out, HAD.out]
          rw [e] at hfo
          exact hfo)
        generalize x.bl.length = q at *
        unfold jv at cj
        unfold jv
        clear hf' hb3 hm3 hsh hrow hown hp tp HFI
        go_wp2
        go_ret2
        exact HE.out
      · exact absurd HFD.out (hn i j)
  · have hne : ((((fs c).length : Nat) : Int) == 0) = false := by
      rw [Bool.eq_false_iff]
      intro k
      have h1 := beq_iff_eq.1 k
      exact h0 (List.eq_nil_of_length_eq_zero (by omega))
    have HT1 := Lib.hid (STurn.refl w y)
    have HS1 := HM
    have HO1 := HO
    have HF1 := HF
    have HCD := Lib.hid (show Claimed hs hs c from .inl ⟨by
      obtain ⟨m, hm, _⟩ := list_min _ h0
      exact ⟨m, ((HF.out c).2 m).1 hm⟩, rfl⟩)
    generalize (fs c).length = L at HLN hne
    clear h0
    go_wp2_with fail
    refine HLN.out.mono ?_
    rintro e w1 ⟨rfl, rfl⟩
    clear H HC HLN HCL
    have d2 := HS1.out.set4 (c := c) (by omega)
    unfold fpt at d2
    rw [HT1.out.gs, HT1.out.gf, ← HGS.out, ← HGF.out] at d2
    by_cases h1 : fs c = []
    · have hS := HS1.out.fre c (by omega)
      rw [h1, HT1.out.gf, ← HGF.out] at hS
      have HTN := Lib.hid (take_none hS)
      have HE := Lib.hid (show ResPost w y hs c (.returned (.tuple #[.int .u64 0, .int .i64 4])) w from ⟨hs, hs, y, fs, HCD.out, .inr ⟨(fun a ha => by have := ((HF1.out c).2 a).2 ha; rw [h1] at this; cases this), rfl, rfl⟩, HS1.out, HO1.out, HF1.out, HT1.out⟩)
      clear h1 hS
      go_wp2_with fail
      refine HTN.out.mono ?_
      rintro e w2 ⟨rfl, rfl⟩
      go_wp2
      go_ret2
      exact HE.out
    · obtain ⟨m, hmm, hmin⟩ := list_min _ h1
      have hS := HS1.out.fre c (by omega)
      have hfw := HF1.out.few HO1.out HS1.out.most c
      have hTK := take_any hS (by omega) hmm hmin
      rw [HT1.out.gf, ← HGF.out] at hTK
      unfold wv at hTK
      have HTK := Lib.hid hTK
      obtain ⟨i, j, x, hx, hxc, hb, ha, hfd⟩ := (((HF1.out c).2 m).1 hmm).found
      have HX := Lib.hid hx
      have HXC := Lib.hid hxc
      have HBL := Lib.hid hb
      have HAD := Lib.hid ha
      have HFD := Lib.hid hfd
      have HMIN := Lib.hid (show ∀ a, FreeB hs c a → m ≤ a from fun a ha => hmin a (((HF1.out c).2 a).2 ha))
      have HFW1 := Lib.hid hfw
      clear h1 hmm hmin hS hfw hTK hx hxc hb ha hfd
      go_wp2_with fail
      refine HTK.out.mono ?_
      rintro e w2 ⟨rfl, hl⟩
      have hl' : LeftSet w (y.gf c) (y.fv c) ((fs c).erase m) w2 := by rw [HT1.out.gf, ← HGF.out]; exact hl
      obtain ⟨y2, hm2, ht2⟩ := HS1.out.left (c := c) (by omega) hl' (by have := HFW1.out; have := List.length_erase_le (a := m) (l := fs c); omega)
      have HT2 := Lib.hid (HT1.out.trans ht2)
      have HFI := find_any hm2 HO1.out (HR.out.turn HT2.out).1 m
      unfold fpt wv at HFI
      rw [HT2.out.gs, ← HGS.out] at HFI
      have HFI := Lib.hid HFI
      have HS2 := Lib.hid hm2
      clear hl hl' hm2 ht2 HTK d2
      go_wp2_with fail
      refine HFI.out.mono ?_
      rintro e w3 ⟨hf, hb3⟩
      have HB3 := Lib.hid hb3
      rcases hf with ⟨i', j', hf', rfl⟩ | ⟨hn, rfl⟩
      · obtain ⟨rfl, rfl⟩ := found_one HO1.out HS2.out.most hf' HFD.out
        have hm3 := HS2.out.below hb3
        have hxl : j' < x.bl.length := (List.getElem?_eq_some_iff.1 HBL.out).1
        have hl15 := (HS2.out.lens x (List.mem_of_getElem? HX.out)).1
        obtain ⟨g, hsh, hrow⟩ := (hm3.blk i' x HX.out).pos (by omega)
        have hown : (y2.bv i').ownBlock = some g := by rw [hsh]; rfl
        have c3 := (hm3.head HX.out).2.2.2
        rw [hsh] at c3
        have cj := hrow.cell j'
        rw [List.getElem?_toArray, List.getElem?_map, HBL.out, Option.map_some] at cj
        have fj := hrow.free j'
        obtain ⟨hp, tp⟩ := hm3.put_bl (j := j') HX.out hown 1
        have HE := Lib.hid (show ResPost w y hs c (.returned (.tuple #[.int .u64 (m : Int), .int .i64 0])) (w3.setCell ⟨g, j', none⟩ (.int .i64 1)) from by
          have hmost := HS2.out.most
          have hfo := HF1.out.take HO1.out hmost (v := 1) HX.out HBL.out (by decide)
          refine ⟨hs, _, y2, _, HCD.out, .inl ⟨i', j', x, HX.out, HXC.out, HBL.out, by rw [HAD.out]; exact HMIN.out, rfl, by rw [HAD.out]; rfl⟩, hp, HO1.out.set_bl HX.out, ?_, (HT2.out.trans (STurn.of_below y2 HB3.out)).trans tp⟩
          have e : updF fs x.cls ((fs x.cls).erase (adr x.no x.cls j')) = updF fs c ((fs c).erase m) := by rw [HXC.out, HAD.out]
          rw [e] at hfo
          exact hfo)
        generalize x.bl.length = q at *
        unfold jv at cj
        unfold jv
        clear hf' hb3 hm3 hsh hrow hown hp tp HFI
        go_wp2
        go_ret2
        exact HE.out
      · exact absurd HFD.out (hn i j)
def RelPost (w : World) (y : SLay) (hs : List Hd) (a : Nat) (e : Ending) (w' : World) : Prop :=
  (∃ (i j : Nat) (x : Hd) (y' : SLay) (fs' : Nat → List Nat), hs[i]? = some x ∧ x.bl[j]? = some 1 ∧ adr x.no x.cls j = a ∧ e = .returned (.int .i64 0) ∧ SlabMem w' y' (hs.set i { x with bl := x.bl.set j 0 }) fs' ∧ HsOk (hs.set i { x with bl := x.bl.set j 0 }) ∧ FsOk (hs.set i { x with bl := x.bl.set j 0 }) fs' ∧ STurn w w' y y') ∨
  (¬ isAt hs a 1 ∧ e = .returned (.int .i64 7) ∧ Below w.heap.size w w')
end Go.Proofs.YtahojhaeebmpoaaGreatDoor
/- Room: how many blocks of a class can be reserved. -/
namespace Go.Proofs.YtahojhaeebmpoaaGreatDoor
open Go.RowKit Go.Sort
set_option linter.unusedVariables false
/-- How many slabs of the first k have no class. -/
def voidN (hs : List Hd) : Nat → Nat
  | 0 => 0
  | k + 1 => voidN hs k + if (hs[k]?.map (·.cls)) = some 0 then 1 else 0
theorem voidN_le (hs : List Hd) (k : Nat) : voidN hs k ≤ k := by
  induction k with
  | zero => exact Nat.le_refl _
  | succ k ih => unfold voidN; split <;> omega
def roomS (hs : List Hd) (fs : Nat → List Nat) (c k : Nat) : Nat := (fs c).length + blN c * voidN hs k
theorem roomS_void {hs : List Hd} {fs : Nat → List Nat} {c k : Nat} {x : Hd} (hx : hs[k]? = some x) (h0 : x.cls = 0) : roomS hs fs c (k + 1) = roomS hs fs c k + blN c := by
  unfold roomS
  rw [show voidN hs (k + 1) = voidN hs k + 1 from by rw [voidN, hx]; simp [h0], Nat.mul_add, Nat.mul_one]; omega
theorem roomS_else {hs : List Hd} {fs : Nat → List Nat} {c k : Nat} {x : Hd} (hx : hs[k]? = some x) (h0 : x.cls ≠ 0) : roomS hs fs c (k + 1) = roomS hs fs c k := by
  unfold roomS
  rw [show voidN hs (k + 1) = voidN hs k from by rw [voidN, hx]; simp [h0]]
set_option maxRecDepth 100000 in
set_option maxHeartbeats 1600000 in
theorem room_any {w : World} {y : SLay} {hs : List Hd} {fs : Nat → List Nat} (h : SlabMem w y hs fs) (R : RS w y) {c : Nat} (hc1 : 1 ≤ c) (hc3 : c ≤ 3) :
    Calls Tryz.prog 15 #[fpt y.gs, jv c] w fun e w' => e = .returned (jv (roomS hs fs c hs.length)) ∧ Gr w w' := by
  have H := Lib.hid (snone_at h)
  have HC := Lib.hid (sClass_at (n := (c : Int)) (inB_yes ⟨by omega, by omega⟩) w)
  have hfew := h.few c (by omega)
  have HLN := Lib.hid (len_any (h.fre c (by omega)) (by omega))
  have d0 := h.field
  have d1 := h.set4 (c := c) (by omega)
  have hm := h.most
  have HBL := Lib.hid fun (W : World) (hg : Gr w W) => blocks_any (c : Int) W (R.1.gr hg)
  rw [blN_C] at HBL
  have hbl := blN_le c
  have HM := Lib.hid h
  obtain ⟨gs, hgs⟩ : ∃ g, g = y.gs := ⟨_, rfl⟩
  obtain ⟨gf, hgf⟩ : ∃ g, g = y.gf c := ⟨_, rfl⟩
  obtain ⟨gh, hgh⟩ : ∃ g, g = y.gh := ⟨_, rfl⟩
  obtain ⟨N, hN⟩ : ∃ N, N = hs.length := ⟨_, rfl⟩
  obtain ⟨m, hmb⟩ : ∃ m, m = blN c := ⟨_, rfl⟩
  unfold fpt at H d1 ⊢
  unfold jv
  rw [← hgs] at H d0 d1 ⊢
  rw [← hgf] at HLN d1
  rw [← hgh, ← hN] at d0
  rw [← hN] at hm ⊢
  rw [← hmb] at HBL hbl
  have HGH := Lib.hid hgh
  have HMB := Lib.hid hmb
  have HN := Lib.hid hN
  have hst : roomS hs fs c 0 = (fs c).length := by unfold roomS voidN; omega
  have HST := Lib.hid hst.symm
  obtain ⟨F, hF⟩ : ∃ F, F = (fs c).length := ⟨_, rfl⟩
  rw [← hF] at HLN HST hfew
  have HF := Lib.hid hF
  have HBD := Lib.hid (show ∀ k, roomS hs fs c k ≤ F + 15 * k from fun k => by
    unfold roomS
    have := voidN_le hs k
    have := Nat.mul_le_mul (show blN c ≤ 15 from by rw [← hmb]; exact hbl) this
    omega)
  clear h R hgs hgf hgh hN hmb hst hF
  go_enter Tryz.func15, Tryz.ntmps15
  go_wp2_with fail
  refine H.out.mono ?_
  rintro e w1 ⟨rfl, rfl⟩
  go_wp2_with fail
  refine HC.out.mono ?_
  rintro e w1 ⟨rfl, rfl⟩
  go_wp2_with fail
  refine HLN.out.mono ?_
  rintro e w1 ⟨rfl, rfl⟩
  clear d1
  go_wp2
  go_loopw [5, 27] (fun u v wr => ∃ k : Nat, k ≤ N ∧ v = .int .i64 k ∧ u = .int .i64 (roomS hs fs c k) ∧ Gr w wr) (fun _ v _ => N - (intOf v).toNat)
  case atStart => exact ⟨0, Nat.zero_le _, rfl, by rw [← HST.out], Gr.refl _⟩
  case round =>
    obtain ⟨k, hk, rfl, rfl, hg⟩ := hrel
    rename World => wr
    have HG := Lib.hid hg
    clear hg H HC HLN d0
    by_cases hkn : k < N
    · have hx : hs[k]? = some hs[k] := List.getElem?_eq_getElem (by rw [← HN.out]; exact hkn)
      obtain ⟨x, hxe⟩ : ∃ x, x = hs[k]'(by rw [← HN.out]; exact hkn) := ⟨_, rfl⟩
      rw [← hxe] at hx
      have hmr := HM.out.below HG.out.all
      obtain ⟨b0, b1, b2, b3⟩ := hmr.head hx
      rw [← HGH.out] at b0 b1 b2 b3
      have hsl := hmr.blk k x hx
      have HX := Lib.hid hx
      have hgl : gh < wr.heap.size := by
        exact wr.block_lt_of_cell? _ b0
      have hbd := HBD.out k
      obtain ⟨T, hT⟩ : ∃ T, T = roomS hs fs c k := ⟨_, rfl⟩
      rw [← hT] at hbd ⊢
      have HT := Lib.hid hT
      obtain ⟨Av, hv⟩ := hsl.shape
      rw [hv] at b3
      unfold jv at b0 b1
      unfold wv at b2
      clear hx hxe hmr hsl hv hT
      cases hz : decide (x.cls = 0) with
      | false =>
        have hz' : ((x.cls : Int) == 0) = false := by rw [Bool.eq_false_iff]; intro e; have := beq_iff_eq.1 e; have := of_decide_eq_false hz; omega
        have HE := Lib.hid (roomS_else (fs := fs) (c := c) HX.out (of_decide_eq_false hz))
        clear hz
        go_wp2
        go_roundw
        case rel => exact ⟨k + 1, by omega, by go_num, by rw [HE.out, ← HT.out], HG.out.alloc _⟩
        case measure => simp [intOf]; omega
      | true =>
        have hz' : ((x.cls : Int) == 0) = true := by have := of_decide_eq_true hz; simp [this]
        have HE := Lib.hid (roomS_void (fs := fs) (c := c) HX.out (of_decide_eq_true hz))
        clear hz
        go_wp2_with fail
        refine (HBL.out _ (HG.out.alloc _)).mono ?_
        rintro e w5 ⟨rfl, hg5⟩
        have HG5 := Lib.hid ((HG.out.alloc _).trans hg5)
        clear hg5
        go_wp2
        go_roundw
        case rel => exact ⟨k + 1, by omega, by go_num, by rw [HE.out, ← HT.out, ← HMB.out]; go_num, HG5.out⟩
        case measure => simp [intOf]; omega
    · obtain rfl : k = N := by omega
      go_wp2
      go_ret
      exact ⟨rfl, HG.out⟩
end Go.Proofs.YtahojhaeebmpoaaGreatDoor
/- Room, and what Reserve takes of it: plain facts. -/
namespace Go.Proofs.YtahojhaeebmpoaaGreatDoor
open Go.RowKit Go.Sort
set_option linter.unusedVariables false
end Go.Proofs.YtahojhaeebmpoaaGreatDoor
/- Room's bound; what is reserved is another than what was free: plain facts. -/
namespace Go.Proofs.YtahojhaeebmpoaaGreatDoor
open Go.RowKit Go.Sort
set_option linter.unusedVariables false
def Rsv (hs : List Hd) (a : Nat) : Prop := ∃ (i j : Nat) (x : Hd), hs[i]? = some x ∧ x.bl[j]? = some 1 ∧ adr x.no x.cls j = a
theorem Rsv.found {hs : List Hd} {a : Nat} (h : Rsv hs a) : ∃ i j x, hs[i]? = some x ∧ x.bl[j]? = some 1 ∧ Found hs a i j := by
  obtain ⟨i, j, x, hx, hb, ha⟩ := h
  exact ⟨i, j, x, hx, hb, x, hx, (List.getElem?_eq_some_iff.1 hb).1, ha⟩
theorem isAt_rsv {hs : List Hd} (ok : HsOk hs) (hm : hs.length ≤ 64) {a v : Nat} (h : isAt hs a v) (hr : Rsv hs a) : v = 1 := by
  obtain ⟨k, q, z, hz, hb, hf⟩ := hr.found
  rcases h with ⟨i, j, x, hx, hj, ha, hv⟩ | ⟨hn, _⟩
  · obtain ⟨rfl, rfl⟩ := found_one ok hm hf ⟨x, hx, hj, ha⟩
    rw [hx] at hz
    cases hz
    rw [hv] at hb
    exact Option.some.inj hb
  · exact absurd hf (hn k q)
end Go.Proofs.YtahojhaeebmpoaaGreatDoor
/- Release of a block of an arena. -/
namespace Go.Proofs.YtahojhaeebmpoaaGreatDoor
open Go.RowKit Go.Sort
set_option linter.unusedVariables false
set_option maxRecDepth 100000 in
set_option maxHeartbeats 1600000 in
theorem release_any {w : World} {y : SLay} {hs : List Hd} {fs : Nat → List Nat} (h : SlabMem w y hs fs) (ok : HsOk hs) (fo : FsOk hs fs) (R : RS w y) (a : Nat) :
    Calls Tryz.prog 51 #[fpt y.gs, wv a] w (RelPost w y hs a) := by
  have H := Lib.hid (snone_at h)
  have HIS := Lib.hid (is_any h ok R.1 a)
  by_cases hr : Rsv hs a
  · obtain ⟨i, j, x, hx, hb, ha⟩ := hr
    have hm := h.most
    have o := ok i x hx
    have hi := (List.getElem?_eq_some_iff.1 hx).1
    have hj := (List.getElem?_eq_some_iff.1 hb).1
    have HONE := Lib.hid (fun v (hv : isAt hs a v) => isAt_rsv ok hm hv ⟨i, j, x, hx, hb, ha⟩)
    have HFD := Lib.hid (fun (W : World) (hW : Below w.heap.size w W) => find_any (h.below hW) ok (R.1.below hW) a)
    have HF1 := Lib.hid (fun i' j' (hf : Found hs a i' j') => found_one ok hm hf (⟨x, hx, hj, ha⟩ : Found hs a i j))
    have HF0 := Lib.hid (⟨x, hx, hj, ha⟩ : Found hs a i j)
    have HLV := Lib.hid (fun (W : World) (hW : Below w.heap.size w W) => leave_any (h.below hW) (R.below hW) hx (by omega) hj (by rw [← o.2]; exact hj) (by have := fo.few ok hm x.cls; omega))
    have HP := Lib.hid (fun (W W' : World) (y' : SLay) (hW : Below w.heap.size w W) (hmem : SlabMem W' y' (hs.set i { x with bl := x.bl.set j 0 }) (updF fs x.cls (ins (adr x.no x.cls j) (fs x.cls)))) (ht : STurn W W' y y') => (show RelPost w y hs a (.returned (.int .i64 0)) W' from
      .inl ⟨i, j, x, y', _, hx, hb, ha, rfl, hmem, ok.set_bl hx, fo.back ok hm hx hj, (STurn.of_below y hW).trans ht⟩))
    obtain ⟨gs, hgs⟩ : ∃ g, g = y.gs := ⟨_, rfl⟩
    obtain ⟨gh, hgh⟩ : ∃ g, g = y.gh := ⟨_, rfl⟩
    unfold fpt wv jv at *
    rw [← hgs] at H HIS HFD HLV ⊢
    rw [← hgh] at HLV
    have HGH := Lib.hid hgh
    clear h ok fo R hx hb ha hm o hi hj hgs hgh
    go_enter Tryz.func51, Tryz.ntmps51
    go_wp2_with fail
    refine H.out.mono ?_
    rintro e w1 ⟨rfl, rfl⟩
    go_wp2_with fail
    refine HIS.out.mono ?_
    rintro e w2 ⟨⟨v, hv, rfl⟩, hb2⟩
    obtain rfl := HONE.out v hv
    have HB2 := Lib.hid hb2
    have HFD2 := Lib.hid (HFD.out w2 hb2)
    clear hv hb2 HIS
    unfold jv
    rw [show ((1 : Nat) : Int) = 1 from rfl]
    go_wp2_with fail
    refine HFD2.out.mono ?_
    rintro e w3 ⟨⟨i', j', hf, rfl⟩ | ⟨hno, _⟩, hb3⟩
    · obtain ⟨rfl, rfl⟩ := HF1.out i' j' hf
      rw [← HGH.out]
      have HB3 := Lib.hid (Below.and HB2.out hb3)
      have HLV3 := Lib.hid (HLV.out w3 HB3.out)
      clear hf hb3 HFD2 HLV
      unfold jv
      go_wp2_with fail
      refine HLV3.out.mono ?_
      rintro e w4 ⟨rfl, y', hmem, ht⟩
      have HE := Lib.hid (HP.out w3 w4 y' HB3.out hmem ht)
      clear hmem ht
      go_wp2
      go_ret
      exact HE.out
    · exact absurd HF0.out (hno i j)
  · have HN := Lib.hid (show ¬ isAt hs a 1 from fun hv => by
      rcases hv with ⟨i, j, x, hx, _, ha, hb⟩ | ⟨_, h1⟩
      · exact hr ⟨i, j, x, hx, hb, ha⟩
      · cases h1)
    obtain ⟨gs, hgs⟩ : ∃ g, g = y.gs := ⟨_, rfl⟩
    unfold fpt wv at *
    rw [← hgs] at H HIS ⊢
    clear h ok fo R hr hgs
    go_enter Tryz.func51, Tryz.ntmps51
    go_wp2_with fail
    refine H.out.mono ?_
    rintro e w1 ⟨rfl, rfl⟩
    go_wp2_with fail
    refine HIS.out.mono ?_
    rintro e w2 ⟨⟨v, hv, rfl⟩, hb2⟩
    have hv1 : v ≠ 1 := fun e => by subst e; exact HN.out hv
    have hvb : ((v : Int) != 1) = true := by simp; omega
    have HE := Lib.hid (show RelPost w y hs a (.returned (.int .i64 7)) w2 from .inr ⟨HN.out, rfl, hb2⟩)
    clear hv hb2 hv1
    unfold jv
    go_wp2
    go_ret
    exact HE.out
end Go.Proofs.YtahojhaeebmpoaaGreatDoor
