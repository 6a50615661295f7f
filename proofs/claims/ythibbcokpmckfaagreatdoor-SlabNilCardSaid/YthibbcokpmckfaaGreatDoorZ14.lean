/- Texts of this claim, packed: LClaim, LRes, LTurn, LPub. -/
import Derived.Test.YthibbcokpmckfaaGreatDoorZ13
import Derived.Laws.EntriesVeiled
/- claim: the least slab without a class has this class, if there is one. -/
namespace Go.Proofs.YthibbcokpmckfaaGreatDoor
open Go.RowKit Go.Sort
set_option linter.unusedVariables false
def hdV (x : Hd) (v : Value) : Value := .agg #[jv x.no, jv x.cls, wv x.bits, v]
theorem claim1_any (a b c : Int) (v : Value) (w : World) : Calls Tryz.prog 97 #[.agg #[.int .i64 a, .int .i64 b, .int .u64 c, v]] w fun e w' => e = .returned (.bool (b == 0)) ∧ Below w.heap.size w w' := by
  cases hb : (b == 0) with
  | true =>
    go_enter Tryz.func97, Tryz.ntmps97
    go_wp2
    go_ret
    exact ⟨rfl, alloc_below _ _⟩
  | false =>
    go_enter Tryz.func97, Tryz.ntmps97
    go_wp2
    go_ret
    exact ⟨rfl, alloc_below _ _⟩
/-- Which slab is the first without a class. -/
def FirstZ (hs : List Hd) (i : Nat) : Prop := (∃ x, hs[i]? = some x ∧ x.cls = 0) ∧ ∀ k z, k < i → hs[k]? = some z → z.cls ≠ 0
def NoZ (hs : List Hd) : Prop := ∀ (k : Nat) (z : Hd), hs[k]? = some z → z.cls ≠ 0
def IdxPost (w : World) (hs : List Hd) (e : Ending) (w' : World) : Prop := ((∃ i, FirstZ hs i ∧ e = .returned (jv i)) ∨ (NoZ hs ∧ e = .returned (.int .i64 (-1)))) ∧ Below w.heap.size w w'
def IdxR (w : World) (hs : List Hd) (v : Value) (wr : World) : Prop := ∃ i : Nat, i ≤ hs.length ∧ v = .int .i64 (i : Int) ∧ Below w.heap.size w wr ∧ ∀ k z, k < i → hs[k]? = some z → z.cls ≠ 0
set_option maxRecDepth 100000 in
set_option maxHeartbeats 1600000 in
theorem indexH_any {w : World} {y : SLay} {hs : List Hd} {fs : Nat → List Nat} (h : SlabMem w y hs fs) :
    Calls Tryz.prog 96 #[.slice (some ⟨y.gh, 0, none⟩) hs.length hs.length, .func (.func 97) #[] #[]] w (IdxPost w hs) := by
  have hmost := h.most
  have HH := Lib.hid (fun (W : World) (hb : Below w.heap.size w W) (i : Nat) (x : Hd) (hx : hs[i]? = some x) => (h.below hb).head hx)
  have HI := Lib.hid (fun (i : Nat) (x : Hd) (hx : hs[i]? = some x) => (h.blk i x hx).shape)
  obtain ⟨n, hn⟩ : ∃ n, n = hs.length := ⟨_, rfl⟩
  obtain ⟨gh, hgh⟩ : ∃ g, g = y.gh := ⟨_, rfl⟩
  rw [← hn] at hmost ⊢
  rw [← hgh] at HH ⊢
  have HN := Lib.hid hn
  clear h hn hgh
  go_enter Tryz.func96, Tryz.ntmps96
  go_wp2
  go_loopw [8] (fun v wr => IdxR w hs v wr) (fun v _ => n - (intOf v).toNat)
  case atStart => exact ⟨0, Nat.zero_le _, rfl, Below.refl _ _, fun k z hk => by omega⟩
  case round =>
    obtain ⟨i, hi, rfl, hb, hno⟩ := hrel
    rename World => wr
    rw [← HN.out] at hi
    have HB := Lib.hid hb
    have HNO := Lib.hid hno
    by_cases hlt : i < n
    · obtain ⟨x, hx⟩ : ∃ x, hs[i]? = some x := ⟨_, List.getElem?_eq_getElem (by rw [← HN.out]; exact hlt)⟩
      obtain ⟨c0, c1, c2, c3⟩ := HH.out wr hb i x hx
      obtain ⟨ad, hsh⟩ := HI.out i x hx
      rw [hsh] at c3
      have HX := Lib.hid hx
      have HC := Lib.hid fun W => claim1_any (x.no : Int) (x.cls : Int) (x.bits : Int) (.slice ad x.bl.length x.bl.length) W
      by_cases hz : x.cls = 0
      · rw [show ((x.cls : Int) == 0) = true from by rw [hz]; rfl] at HC
        have HZ := Lib.hid hz
        generalize x.bl.length = m at *
        unfold jv at c0 c1
        unfold wv at c2
        clear hb hno hx hsh hz
        go_wp2_with fail
        refine (HC.out _).mono ?_
        rintro e w3 ⟨rfl, hb3⟩
        have HE := Lib.hid (show IdxPost w hs (.returned (.int .i64 (i : Int))) w3 from ⟨.inl ⟨i, ⟨⟨x, HX.out, HZ.out⟩, HNO.out⟩, rfl⟩, Below.and HB.out hb3⟩)
        clear hb3
        go_wp2
        go_ret
        exact HE.out
      · rw [show ((x.cls : Int) == 0) = false from by rw [Bool.eq_false_iff]; intro k; have := beq_iff_eq.1 k; omega] at HC
        have HZ := Lib.hid hz
        generalize x.bl.length = m at *
        unfold jv at c0 c1
        unfold wv at c2
        clear hb hno hx hsh hz
        go_wp2_with fail
        refine (HC.out _).mono ?_
        rintro e w3 ⟨rfl, hb3⟩
        have HB3 := Lib.hid (Below.and HB.out hb3)
        clear hb3
        go_wp2
        go_roundw
        case rel => exact ⟨i + 1, by rw [← HN.out]; exact hlt, by go_num, HB3.out, fun k z hk hz => by
          by_cases e : k = i
          · subst e
            rw [HX.out] at hz
            cases hz
            exact HZ.out
          · exact HNO.out k z (by omega) hz⟩
        case measure => simp [intOf]; omega
    · have HE := Lib.hid (show IdxPost w hs (.returned (.int .i64 (-1))) wr from ⟨.inr ⟨fun k z hz => hno k z (by have := (List.getElem?_eq_some_iff.1 hz).1; have := HN.out; omega) hz, rfl⟩, hb⟩)
      clear hb hno hi
      go_wp2
      go_ret
      exact HE.out
def ClaimPost (w : World) (y : SLay) (hs : List Hd) (fs : Nat → List Nat) (c : Nat) (e : Ending) (w' : World) : Prop :=
  e = .returned (.tuple #[]) ∧ ∃ y' hs' fs', SlabMem w' y' hs' fs' ∧ STurn w w' y y' ∧
    ((∃ (i : Nat) (x : Hd), FirstZ hs i ∧ hs[i]? = some x ∧ hs' = hs.set i ⟨x.no, c, 0, blK (blN c) 0 (blN c)⟩ ∧ fs' = updF fs c (grown x.no c 0 (fs c) (blN c))) ∨ (NoZ hs ∧ hs' = hs ∧ fs' = fs))
set_option maxRecDepth 100000 in
set_option maxHeartbeats 1600000 in
theorem claim_any {w : World} {y : SLay} {hs : List Hd} {fs : Nat → List Nat} (h : SlabMem w y hs fs) (ok : HsOk hs) (R : RS w y) {c : Nat} (hc3 : c ≤ 3) (hfew : (fs c).length + 15 ≤ 100000) :
    Calls Tryz.prog 71 #[fpt y.gs, jv c] w (ClaimPost w y hs fs c) := by
  have HI := Lib.hid (indexH_any h)
  have c0 := h.field
  have hmost := h.most
  have HG := Lib.hid (fun (W : World) (hb : Below w.heap.size w W) (i : Nat) (x : Hd) (hx : hs[i]? = some x) (hno : 1 ≤ x.no ∧ x.no ≤ 64) => give_any (h.below hb) (R.below hb) hx hno hc3 (b := 0) (by decide) hfew)
  have HM := Lib.hid h
  have HO := Lib.hid ok
  have HR := Lib.hid R
  have HC := Lib.hid (fun (W : World) (hb : Below w.heap.size w W) => (h.below hb).field)
  obtain ⟨n, hn⟩ : ∃ n, n = hs.length := ⟨_, rfl⟩
  have HN := Lib.hid hn
  obtain ⟨gs, hgs⟩ : ∃ g, g = y.gs := ⟨_, rfl⟩
  obtain ⟨gh, hgh⟩ : ∃ g, g = y.gh := ⟨_, rfl⟩
  unfold fpt at HG ⊢
  unfold jv at HG ⊢
  rw [← hn] at HI c0 HC hmost
  rw [← hgs] at c0 HC HG ⊢
  rw [← hgh] at c0 HC HG HI
  clear h ok R hn hgs hgh
  go_enter Tryz.func71, Tryz.ntmps71
  go_wp2_with fail
  refine HI.out.mono ?_
  rintro e w1 ⟨hi, hb⟩
  have HB := Lib.hid hb
  have c1 := HC.out w1 hb
  rcases hi with ⟨i, hf, rfl⟩ | ⟨hz, rfl⟩
  · obtain ⟨x, hx, _⟩ := hf.1
    have hil : i < n := by rw [HN.out]; exact (List.getElem?_eq_some_iff.1 hx).1
    have HGV := Lib.hid (HG.out w1 hb i x hx (by have := HO.out i x hx; omega))
    have HX := Lib.hid hx
    have HF := Lib.hid hf
    unfold wv at HGV
    rw [show (((0 : Nat)) : Int) = 0 from rfl] at HGV
    clear hb hx hf HG c0
    unfold jv
    go_wp2_with fail
    refine HGV.out.mono ?_
    rintro e w2 ⟨rfl, y2, hs2, ht2⟩
    have HE := Lib.hid (show ClaimPost w y hs fs c (.returned (.tuple #[])) w2 from ⟨rfl, y2, _, _, hs2, (STurn.of_below y HB.out).trans ht2, .inl ⟨i, x, HF.out, HX.out, rfl, rfl⟩⟩)
    clear hs2 ht2 HGV
    go_wp2
    refine bodyPost_ret (results_none rfl _ _ _) rfl ?_
    exact HE.out
  · have HE := Lib.hid (show ClaimPost w y hs fs c (.returned (.tuple #[])) w1 from ⟨rfl, y, hs, fs, HM.out.below hb, STurn.of_below y hb, .inr ⟨hz, rfl, rfl⟩⟩)
    clear hb hz HG
    go_wp2
    refine bodyPost_ret (results_none rfl _ _ _) rfl ?_
    exact HE.out
end Go.Proofs.YthibbcokpmckfaaGreatDoor
/- Reserve: the least free block of a class; Release; for classes that there are, and others. -/
namespace Go.Proofs.YthibbcokpmckfaaGreatDoor
open Go.RowKit Go.Sort
set_option linter.unusedVariables false
theorem reserve_none {p : Option Addr} {w : World} (h : NoSlab w p) (n : Int) : Calls Tryz.prog 28 #[.pointer p, .int .i64 n] w fun e w' => e = .returned (.tuple #[.int .u64 0, .int .i64 1]) ∧ w = w' := by
  have H := Lib.hid (snone_none h)
  clear h
  go_enter Tryz.func28, Tryz.ntmps28
  go_wp2_with fail
  refine H.out.mono ?_
  rintro e w1 ⟨rfl, rfl⟩
  go_wp2
  go_ret2
  exact ⟨rfl, rfl⟩
theorem reserve_arg {w : World} {y : SLay} {hs : List Hd} {fs : Nat → List Nat} (h : SlabMem w y hs fs) {n : Int} (hn : ¬ (1 ≤ n ∧ n ≤ 3)) : Calls Tryz.prog 28 #[fpt y.gs, .int .i64 n] w fun e w' => e = .returned (.tuple #[.int .u64 0, .int .i64 2]) ∧ w = w' := by
  have H := Lib.hid (snone_at h)
  have HC := Lib.hid (sClass_at (inB_no hn) w)
  unfold fpt at H ⊢
  clear h hn
  go_enter Tryz.func28, Tryz.ntmps28
  go_wp2_with fail
  refine H.out.mono ?_
  rintro e w1 ⟨rfl, rfl⟩
  go_wp2_with fail
  refine HC.out.mono ?_
  rintro e w1 ⟨rfl, rfl⟩
  go_wp2
  go_ret2
  exact ⟨rfl, rfl⟩
theorem list_min : ∀ (s : List Nat), s ≠ [] → ∃ m, m ∈ s ∧ ∀ x ∈ s, m ≤ x
  | [], h => absurd rfl h
  | [a], _ => ⟨a, List.mem_cons_self, fun x hx => by simp at hx; omega⟩
  | a :: b :: t, _ => by
    obtain ⟨m, hm, hl⟩ := list_min (b :: t) (by simp)
    by_cases h : a ≤ m
    · exact ⟨a, List.mem_cons_self, fun x hx => by
        rcases List.mem_cons.1 hx with rfl | hx
        · exact Nat.le_refl _
        · exact Nat.le_trans h (hl x hx)⟩
    · exact ⟨m, List.mem_cons_of_mem _ hm, fun x hx => by
        rcases List.mem_cons.1 hx with rfl | hx
        · omega
        · exact hl x hx⟩
/-- The slabs, one more of them with a class, if none of that class has a free block. -/
def Claimed (hs hs1 : List Hd) (c : Nat) : Prop := ((∃ a, FreeB hs c a) ∧ hs1 = hs) ∨ ((∀ a, ¬ FreeB hs c a) ∧ ((∃ (i : Nat) (x : Hd), FirstZ hs i ∧ hs[i]? = some x ∧ hs1 = hs.set i ⟨x.no, c, 0, blK (blN c) 0 (blN c)⟩) ∨ (NoZ hs ∧ hs1 = hs)))
/-- What Reserve answers, of the slabs hs1, and what it leaves. -/
def Took (hs1 hs' : List Hd) (c : Nat) (e : Ending) : Prop :=
  (∃ (i j : Nat) (x : Hd), hs1[i]? = some x ∧ x.cls = c ∧ x.bl[j]? = some 0 ∧ (∀ a, FreeB hs1 c a → adr x.no c j ≤ a) ∧ hs' = hs1.set i { x with bl := x.bl.set j 1 } ∧ e = .returned (.tuple #[wv (adr x.no c j), .int .i64 0])) ∨
  ((∀ a, ¬ FreeB hs1 c a) ∧ hs' = hs1 ∧ e = .returned (.tuple #[.int .u64 0, .int .i64 4]))
def ResPost (w : World) (y : SLay) (hs : List Hd) (c : Nat) (e : Ending) (w' : World) : Prop :=
  ∃ hs1 hs' y' fs', Claimed hs hs1 c ∧ Took hs1 hs' c e ∧ SlabMem w' y' hs' fs' ∧ HsOk hs' ∧ FsOk hs' fs' ∧ STurn w w' y y'
set_option maxRecDepth 100000 in
set_option maxHeartbeats 3200000 in
theorem reserve_any {w : World} {y : SLay} {hs : List Hd} {fs : Nat → List Nat} (h : SlabMem w y hs fs) (ok : HsOk hs) (fo : FsOk hs fs) (R : RS w y) {c : Nat} (hc1 : 1 ≤ c) (hc3 : c ≤ 3) :
    Calls Tryz.prog 28 #[fpt y.gs, jv c] w (ResPost w y hs c) := by
  have H := Lib.hid (snone_at h)
  have HC := Lib.hid (sClass_at (n := (c : Int)) (inB_yes ⟨by omega, by omega⟩) w)
  have hfew := fo.few ok h.most c
  have HLN := Lib.hid (len_any (h.fre c (by omega)) (by omega))
  have HCL := Lib.hid (claim_any h ok R hc3 (by omega))
  have d1 := h.set4 (c := c) (by omega)
  have HM := Lib.hid h
  have HO := Lib.hid ok
  have HF := Lib.hid fo
  have HR := Lib.hid R
  have HFW := Lib.hid hfew
  obtain ⟨gs, hgs⟩ : ∃ g, g = y.gs := ⟨_, rfl⟩
  obtain ⟨gf, hgf⟩ : ∃ g, g = y.gf c := ⟨_, rfl⟩
  unfold fpt at H HCL d1 ⊢
  unfold jv at HCL ⊢
  rw [← hgs] at H HCL d1 ⊢
  rw [← hgf] at HLN d1
  have HGS := Lib.hid hgs
  have HGF := Lib.hid hgf
  clear h ok fo R hgs hgf hfew
  go_enter Tryz.func28, Tryz.ntmps28
  go_wp2_with fail
  refine H.out.mono ?_
  rintro e w1 ⟨rfl, rfl⟩
  go_wp2_with fail
  refine HC.out.mono ?_
  rintro e w1 ⟨rfl, rfl⟩
  by_cases h0 : fs c = []
  · rw [h0] at HLN
    rw [show ((([] : List Nat).length : Nat) : Int) = 0 from rfl] at HLN
    have HZ := Lib.hid (show ∀ a, ¬ FreeB hs c a from fun a ha => by have := ((HF.out c).2 a).2 ha; rw [h0] at this; cases this)
    clear h0
    go_wp2_with fail
    refine HLN.out.mono ?_
    rintro e w1 ⟨rfl, rfl⟩
    go_wp2_with fail
    refine HCL.out.mono ?_
    rintro e w1 ⟨rfl, y1, hs1, fs1, hm1, ht1, hcc⟩
    have HS1 := Lib.hid hm1
    have HT1 := Lib.hid ht1
    have hcl : HsOk hs1 ∧ FsOk hs1 fs1 ∧ Claimed hs hs1 c := by
      rcases hcc with ⟨i, x, hf, hx, rfl, rfl⟩ | ⟨hz, rfl, rfl⟩
      · have hx0 : x.cls = 0 := by
          obtain ⟨x', hx', h0⟩ := hf.1
          rw [hx] at hx'
          cases hx'
          exact h0
        have hxl : x.bl.length = 0 := by rw [(HO.out i x hx).2, hx0]; rfl
        exact ⟨HO.out.claim hx, HF.out.claim hx hx0 hxl, .inr ⟨HZ.out, .inl ⟨i, x, hf, hx, rfl⟩⟩⟩
      · exact ⟨HO.out, HF.out, .inr ⟨HZ.out, .inr ⟨hz, rfl⟩⟩⟩
    have HO1 := Lib.hid hcl.1
    have HF1 := Lib.hid hcl.2.1
    have HCD := Lib.hid hcl.2.2
    clear hm1 ht1 hcc hcl d1 H HC HLN HCL
    have d2 := HS1.out.set4 (c := c) (by omega)
    unfold fpt at d2
    rw [HT1.out.gs, HT1.out.gf, ← HGS.out, ← HGF.out] at d2
    by_cases h1 : fs1 c = []
    · have hS := HS1.out.fre c (by omega)
      rw [h1, HT1.out.gf, ← HGF.out] at hS
      have HTN := Lib.hid (take_none hS)
      have HE := Lib.hid (show ResPost w y hs c (.returned (.tuple #[.int .u64 0, .int .i64 4])) w1 from ⟨hs1, hs1, y1, fs1, HCD.out, .inr ⟨(fun a ha => by have := ((HF1.out c).2 a).2 ha; rw [h1] at this; cases this), rfl, rfl⟩, HS1.out, HO1.out, HF1.out, HT1.out⟩)
      clear h1 hS
      go_wp2_with fail
      refine HTN.out.mono ?_
      rintro e w2 ⟨rfl, rfl⟩
      go_wp2
      go_ret2
      exact HE.out
    · obtain ⟨m, hmm, hmin⟩ := list_min _ h1
      have hS := HS1.out.fre c (by omega)
      have hfw := HF1.out.few HO1.out HS1.out.most c
      have hTK := take_any hS (by omega) hmm hmin
      rw [HT1.out.gf, ← HGF.out] at hTK
      unfold wv at hTK
      have HTK := Lib.hid hTK
      obtain ⟨i, j, x, hx, hxc, hb, ha, hfd⟩ := (((HF1.out c).2 m).1 hmm).found
      have HX := Lib.hid hx
      have HXC := Lib.hid hxc
      have HBL := Lib.hid hb
      have HAD := Lib.hid ha
      have HFD := Lib.hid hfd
      have HMIN := Lib.hid (show ∀ a, FreeB hs1 c a → m ≤ a from fun a ha => hmin a (((HF1.out c).2 a).2 ha))
      have HFW1 := Lib.hid hfw
      clear h1 hmm hmin hS hfw hTK hx hxc hb ha hfd
      go_wp2_with fail
      refine HTK.out.mono ?_
      rintro e w2 ⟨rfl, hl⟩
      have hl' : LeftSet w1 (y1.gf c) (y1.fv c) ((fs1 c).erase m) w2 := by rw [HT1.out.gf, ← HGF.out]; exact hl
      obtain ⟨y2, hm2, ht2⟩ := HS1.out.left (c := c) (by omega) hl' (by have := HFW1.out; have := List.length_erase_le (a := m) (l := fs1 c); omega)
      have HT2 := Lib.hid (HT1.out.trans ht2)
      have HFI := find_any hm2 HO1.out (HR.out.turn HT2.out).1 m
      unfold fpt wv at HFI
      rw [HT2.out.gs, ← HGS.out] at HFI
      have HFI := Lib.hid HFI
      have HS2 := Lib.hid hm2
      clear hl hl' hm2 ht2 HTK d2
      go_wp2_with fail
      refine HFI.out.mono ?_
      rintro e w3 ⟨hf, hb3⟩
      have HB3 := Lib.hid hb3
      rcases hf with ⟨i', j', hf', rfl⟩ | ⟨hn, rfl⟩
      · obtain ⟨rfl, rfl⟩ := found_one HO1.out HS2.out.most hf' HFD.out
        have hm3 := HS2.out.below hb3
        have hxl : j' < x.bl.length := (List.getElem?_eq_some_iff.1 HBL.out).1
        have hl15 := (HS2.out.lens x (List.mem_of_getElem? HX.out)).1
        obtain ⟨g, hsh, hrow⟩ := (hm3.blk i' x HX.out).pos (by omega)
        have hown : (y2.bv i').ownBlock = some g := by rw [hsh]; rfl
        have c3 := (hm3.head HX.out).2.2.2
        rw [hsh] at c3
        have cj := hrow.cell j'
        rw [List.getElem?_toArray, List.getElem?_map, HBL.out, Option.map_some] at cj
        have fj := hrow.free j'
        obtain ⟨hp, tp⟩ := hm3.put_bl (j := j') HX.out hown 1
        have HE := Lib.hid (show ResPost w y hs c (.returned (.tuple #[.int .u64 (m : Int), .int .i64 0])) (w3.setCell ⟨g, j', none⟩ (.int .i64 1)) from by
          have hmost := HS2.out.most
          have hfo := HF1.out.take HO1.out hmost (v := 1) HX.out HBL.out (by decide)
          refine ⟨hs1, _, y2, _, HCD.out, .inl ⟨i', j', x, HX.out, HXC.out, HBL.out, by rw [HAD.out]; exact HMIN.out, rfl, by rw [HAD.out]; rfl⟩, hp, HO1.out.set_bl HX.out, ?_, (HT2.out.trans (STurn.of_below y2 HB3.out)).trans tp⟩
          have e : updF fs1 x.cls ((fs1 x.cls).erase (adr x.no x.cls j')) = updF fs1 c ((fs1 c).erase m) := by rw [HXC.out, HAD.out]
          rw [e] at hfo
          exact hfo)
        generalize x.bl.length = q at *
        unfold jv at cj
        unfold jv
        clear hf' hb3 hm3 hsh hrow hown hp tp HFI
        go_wp2
        go_ret2
        exact HE.out
      · exact absurd HFD.out (hn i j)
  · have hne : ((((fs c).length : Nat) : Int) == 0) = false := by
      rw [Bool.eq_false_iff]
      intro k
      have h1 := beq_iff_eq.1 k
      exact h0 (List.eq_nil_of_length_eq_zero (by omega))
    have HT1 := Lib.hid (STurn.refl w y)
    have HS1 := HM
    have HO1 := HO
    have HF1 := HF
    have HCD := Lib.hid (show Claimed hs hs c from .inl ⟨by
      obtain ⟨m, hm, _⟩ := list_min _ h0
      exact ⟨m, ((HF.out c).2 m).1 hm⟩, rfl⟩)
    generalize (fs c).length = L at HLN hne
    clear h0
    go_wp2_with fail
    refine HLN.out.mono ?_
    rintro e w1 ⟨rfl, rfl⟩
    clear H HC HLN HCL
    have d2 := HS1.out.set4 (c := c) (by omega)
    unfold fpt at d2
    rw [HT1.out.gs, HT1.out.gf, ← HGS.out, ← HGF.out] at d2
    by_cases h1 : fs c = []
    · have hS := HS1.out.fre c (by omega)
      rw [h1, HT1.out.gf, ← HGF.out] at hS
      have HTN := Lib.hid (take_none hS)
      have HE := Lib.hid (show ResPost w y hs c (.returned (.tuple #[.int .u64 0, .int .i64 4])) w from ⟨hs, hs, y, fs, HCD.out, .inr ⟨(fun a ha => by have := ((HF1.out c).2 a).2 ha; rw [h1] at this; cases this), rfl, rfl⟩, HS1.out, HO1.out, HF1.out, HT1.out⟩)
      clear h1 hS
      go_wp2_with fail
      refine HTN.out.mono ?_
      rintro e w2 ⟨rfl, rfl⟩
      go_wp2
      go_ret2
      exact HE.out
    · obtain ⟨m, hmm, hmin⟩ := list_min _ h1
      have hS := HS1.out.fre c (by omega)
      have hfw := HF1.out.few HO1.out HS1.out.most c
      have hTK := take_any hS (by omega) hmm hmin
      rw [HT1.out.gf, ← HGF.out] at hTK
      unfold wv at hTK
      have HTK := Lib.hid hTK
      obtain ⟨i, j, x, hx, hxc, hb, ha, hfd⟩ := (((HF1.out c).2 m).1 hmm).found
      have HX := Lib.hid hx
      have HXC := Lib.hid hxc
      have HBL := Lib.hid hb
      have HAD := Lib.hid ha
      have HFD := Lib.hid hfd
      have HMIN := Lib.hid (show ∀ a, FreeB hs c a → m ≤ a from fun a ha => hmin a (((HF1.out c).2 a).2 ha))
      have HFW1 := Lib.hid hfw
      clear h1 hmm hmin hS hfw hTK hx hxc hb ha hfd
      go_wp2_with fail
      refine HTK.out.mono ?_
      rintro e w2 ⟨rfl, hl⟩
      have hl' : LeftSet w (y.gf c) (y.fv c) ((fs c).erase m) w2 := by rw [HT1.out.gf, ← HGF.out]; exact hl
      obtain ⟨y2, hm2, ht2⟩ := HS1.out.left (c := c) (by omega) hl' (by have := HFW1.out; have := List.length_erase_le (a := m) (l := fs c); omega)
      have HT2 := Lib.hid (HT1.out.trans ht2)
      have HFI := find_any hm2 HO1.out (HR.out.turn HT2.out).1 m
      unfold fpt wv at HFI
      rw [HT2.out.gs, ← HGS.out] at HFI
      have HFI := Lib.hid HFI
      have HS2 := Lib.hid hm2
      clear hl hl' hm2 ht2 HTK d2
      go_wp2_with fail
      refine HFI.out.mono ?_
      rintro e w3 ⟨hf, hb3⟩
      have HB3 := Lib.hid hb3
      rcases hf with ⟨i', j', hf', rfl⟩ | ⟨hn, rfl⟩
      · obtain ⟨rfl, rfl⟩ := found_one HO1.out HS2.out.most hf' HFD.out
        have hm3 := HS2.out.below hb3
        have hxl : j' < x.bl.length := (List.getElem?_eq_some_iff.1 HBL.out).1
        have hl15 := (HS2.out.lens x (List.mem_of_getElem? HX.out)).1
        obtain ⟨g, hsh, hrow⟩ := (hm3.blk i' x HX.out).pos (by omega)
        have hown : (y2.bv i').ownBlock = some g := by rw [hsh]; rfl
        have c3 := (hm3.head HX.out).2.2.2
        rw [hsh] at c3
        have cj := hrow.cell j'
        rw [List.getElem?_toArray, List.getElem?_map, HBL.out, Option.map_some] at cj
        have fj := hrow.free j'
        obtain ⟨hp, tp⟩ := hm3.put_bl (j := j') HX.out hown 1
        have HE := Lib.hid (show ResPost w y hs c (.returned (.tuple #[.int .u64 (m : Int), .int .i64 0])) (w3.setCell ⟨g, j', none⟩ (.int .i64 1)) from by
          have hmost := HS2.out.most
          have hfo := HF1.out.take HO1.out hmost (v := 1) HX.out HBL.out (by decide)
          refine ⟨hs, _, y2, _, HCD.out, .inl ⟨i', j', x, HX.out, HXC.out, HBL.out, by rw [HAD.out]; exact HMIN.out, rfl, by rw [HAD.out]; rfl⟩, hp, HO1.out.set_bl HX.out, ?_, (HT2.out.trans (STurn.of_below y2 HB3.out)).trans tp⟩
          have e : updF fs x.cls ((fs x.cls).erase (adr x.no x.cls j')) = updF fs c ((fs c).erase m) := by rw [HXC.out, HAD.out]
          rw [e] at hfo
          exact hfo)
        generalize x.bl.length = q at *
        unfold jv at cj
        unfold jv
        clear hf' hb3 hm3 hsh hrow hown hp tp HFI
        go_wp2
        go_ret2
        exact HE.out
      · exact absurd HFD.out (hn i j)
def RelPost (w : World) (y : SLay) (hs : List Hd) (a : Nat) (e : Ending) (w' : World) : Prop :=
  (∃ (i j : Nat) (x : Hd) (y' : SLay) (fs' : Nat → List Nat), hs[i]? = some x ∧ x.bl[j]? = some 1 ∧ adr x.no x.cls j = a ∧ e = .returned (.int .i64 0) ∧ SlabMem w' y' (hs.set i { x with bl := x.bl.set j 0 }) fs' ∧ HsOk (hs.set i { x with bl := x.bl.set j 0 }) ∧ FsOk (hs.set i { x with bl := x.bl.set j 0 }) fs' ∧ STurn w w' y y') ∨
  (¬ isAt hs a 1 ∧ e = .returned (.int .i64 7) ∧ Below w.heap.size w w')
theorem release_none {p : Option Addr} {w : World} (h : NoSlab w p) (n : Int) : Calls Tryz.prog 36 #[.pointer p, .int .u64 n] w fun e w' => e = .returned (.int .i64 1) ∧ w = w' := by
  have H := Lib.hid (snone_none h)
  clear h
  go_enter Tryz.func36, Tryz.ntmps36
  go_wp2_with fail
  refine H.out.mono ?_
  rintro e w1 ⟨rfl, rfl⟩
  go_wp2
  go_ret
  exact ⟨rfl, rfl⟩
end Go.Proofs.YthibbcokpmckfaaGreatDoor
/- refused, turn: may there be a turn of a block, and one that begins. -/
namespace Go.Proofs.YthibbcokpmckfaaGreatDoor
open Go.RowKit Go.Sort
set_option linter.unusedVariables false
theorem isAt_one {hs : List Hd} (ok : HsOk hs) (hm : hs.length ≤ 64) {a u v : Nat} (h : isAt hs a u) (h' : isAt hs a v) : u = v := by
  rcases h with ⟨i, j, x, hx, hj, ha, hb⟩ | ⟨hn, rfl⟩
  · rcases h' with ⟨i', j', x', hx', hj', ha', hb'⟩ | ⟨hn, _⟩
    · obtain ⟨rfl, rfl⟩ := found_one ok hm ⟨x, hx, hj, ha⟩ ⟨x', hx', hj', ha'⟩
      rw [hx] at hx'
      cases hx'
      rw [hb] at hb'
      exact Option.some.inj hb'
    · exact absurd ⟨x, hx, hj, ha⟩ (hn i j)
  · rcases h' with ⟨i', j', x', hx', hj', ha', hb'⟩ | ⟨_, rfl⟩
    · exact absurd ⟨x', hx', hj', ha'⟩ (hn i' j')
    · rfl
theorem refused_none {p : Option Addr} {w : World} (h : NoSlab w p) (q : Option Addr) (c a is : Int) : Calls Tryz.prog 74 #[.pointer p, .pointer q, .int .i64 c, .int .u64 a, .int .i64 is] w fun e w' => e = .returned (.int .i64 1) ∧ w = w' := by
  have H := Lib.hid (snone_none h)
  clear h
  go_enter Tryz.func74, Tryz.ntmps74
  go_wp2_with fail
  refine H.out.mono ?_
  rintro e w1 ⟨rfl, rfl⟩
  go_wp2
  go_ret
  exact ⟨rfl, rfl⟩
theorem refused_nomem {w : World} {y : SLay} {hs : List Hd} {fs : Nat → List Nat} (h : SlabMem w y hs fs) {q : Option Addr} (hq : NoMem w q) (c a is : Int) : Calls Tryz.prog 74 #[fpt y.gs, .pointer q, .int .i64 c, .int .u64 a, .int .i64 is] w fun e w' => e = .returned (.int .i64 1) ∧ w = w' := by
  have H := Lib.hid (snone_at h)
  have HZ := Lib.hid (size_no hq)
  unfold fpt at H ⊢
  clear h hq
  go_enter Tryz.func74, Tryz.ntmps74
  go_wp2_with fail
  refine H.out.mono ?_
  rintro e w1 ⟨rfl, rfl⟩
  go_wp2_with fail
  refine HZ.out.mono ?_
  rintro e w1 ⟨rfl, rfl⟩
  go_wp2
  go_ret
  exact ⟨rfl, rfl⟩
/-- Is a memory the arena's, a client one? -/
def fitsM (nl n : Nat) (c : Int) : Bool := decide (64 * nl = 1024 * (n + 1)) && inB c 0 64
set_option maxRecDepth 100000 in
theorem refused_arg2 {w : World} {y : SLay} {hs : List Hd} {fs : Nat → List Nat} (h : SlabMem w y hs fs) {ym : Lay} {s : St} (hm : MemAt w ym s) {c : Int} (hf : fitsM s.nl hs.length c = false) (a is : Int) : Calls Tryz.prog 74 #[fpt y.gs, fpt ym.g, .int .i64 c, .int .u64 a, .int .i64 is] w fun e w' => e = .returned (.int .i64 2) ∧ w = w' := by
  have H := Lib.hid (snone_at h)
  have HZ := Lib.hid (size_yes hm)
  have HN := Lib.hid (slabs_at h)
  have HG := Lib.hid (size_any (hs.length : Int) w)
  have hpos := h.pos
  have hmost := h.most
  have e1 : sizeN (hs.length : Int) = ((1024 * (hs.length + 1) : Nat) : Int) := by unfold sizeN; rw [if_pos (by omega)]; omega
  rw [e1] at HG
  have hz0 : (((64 * s.nl : Nat) : Int) == 0) = false := by rw [Bool.eq_false_iff]; intro k; have := beq_iff_eq.1 k; have := hm.pos; omega
  have hns := hm.most
  unfold fpt at H HN ⊢
  unfold fitsM at hf
  generalize hs.length = n at *
  obtain ⟨gs, hgs⟩ : ∃ g, g = y.gs := ⟨_, rfl⟩
  obtain ⟨gm, hgm⟩ : ∃ g, g = ym.g := ⟨_, rfl⟩
  rw [← hgs] at H HN ⊢
  rw [← hgm] at HZ ⊢
  clear h hm hgs hgm e1
  by_cases hs1 : 64 * s.nl = 1024 * (n + 1)
  · rw [decide_eq_true hs1, Bool.true_and] at hf
    have HC := Lib.hid (sClient_at hf w)
    rw [hs1] at HZ hz0
    have hne : (((1024 * (n + 1) : Nat) : Int) != ((1024 * (n + 1) : Nat) : Int)) = false := by simp
    obtain ⟨Z, hZ⟩ : ∃ Z, Z = 1024 * (n + 1) := ⟨_, rfl⟩
    rw [← hZ] at HZ hz0 HG hne
    clear hs1 hf hZ
    go_enter Tryz.func74, Tryz.ntmps74
    go_wp2_with fail
    refine H.out.mono ?_
    rintro e w1 ⟨rfl, rfl⟩
    go_wp2_with fail
    refine HZ.out.mono ?_
    rintro e w1 ⟨rfl, rfl⟩
    go_wp2_with fail
    refine HZ.out.mono ?_
    rintro e w1 ⟨rfl, rfl⟩
    go_wp2_with fail
    refine HN.out.mono ?_
    rintro e w1 ⟨rfl, rfl⟩
    go_wp2_with fail
    refine HG.out.mono ?_
    rintro e w1 ⟨rfl, rfl⟩
    go_wp2_with fail
    refine HC.out.mono ?_
    rintro e w1 ⟨rfl, rfl⟩
    go_wp2
    go_ret
    exact ⟨rfl, rfl⟩
  · have hne : (((64 * s.nl : Nat) : Int) != ((1024 * (n + 1) : Nat) : Int)) = true := by
      rw [bne_iff_ne]
      intro k
      exact hs1 (by omega)
    obtain ⟨Z, hZ⟩ : ∃ Z, Z = 1024 * (n + 1) := ⟨_, rfl⟩
    obtain ⟨Y, hY⟩ : ∃ Y, Y = 64 * s.nl := ⟨_, rfl⟩
    rw [← hZ] at HG hne
    rw [← hY] at HZ hz0 hne
    clear hs1 hf hZ hY
    go_enter Tryz.func74, Tryz.ntmps74
    go_wp2_with fail
    refine H.out.mono ?_
    rintro e w1 ⟨rfl, rfl⟩
    go_wp2_with fail
    refine HZ.out.mono ?_
    rintro e w1 ⟨rfl, rfl⟩
    go_wp2_with fail
    refine HZ.out.mono ?_
    rintro e w1 ⟨rfl, rfl⟩
    go_wp2_with fail
    refine HN.out.mono ?_
    rintro e w1 ⟨rfl, rfl⟩
    go_wp2_with fail
    refine HG.out.mono ?_
    rintro e w1 ⟨rfl, rfl⟩
    go_wp2
    go_ret
    exact ⟨rfl, rfl⟩
set_option maxRecDepth 100000 in
theorem refused_is {w : World} {y : SLay} {hs : List Hd} {fs : Nat → List Nat} (h : SlabMem w y hs fs) (ok : HsOk hs) (R : Rms w) {ym : Lay} {s : St} (hm : MemAt w ym s) {c : Int} (hf : fitsM s.nl hs.length c = true) {a v is : Nat} (hv : isAt hs a v) :
    Calls Tryz.prog 74 #[fpt y.gs, fpt ym.g, .int .i64 c, wv a, jv is] w fun e w' => e = .returned (.int .i64 (if v = is then 0 else 7)) ∧ Below w.heap.size w w' := by
  have H := Lib.hid (snone_at h)
  have HZ := Lib.hid (size_yes hm)
  have HN := Lib.hid (slabs_at h)
  have HG := Lib.hid (size_any (hs.length : Int) w)
  have hpos := h.pos
  have hmost := h.most
  have e1 : sizeN (hs.length : Int) = ((1024 * (hs.length + 1) : Nat) : Int) := by unfold sizeN; rw [if_pos (by omega)]; omega
  rw [e1] at HG
  have hz0 : (((64 * s.nl : Nat) : Int) == 0) = false := by rw [Bool.eq_false_iff]; intro k; have := beq_iff_eq.1 k; have := hm.pos; omega
  have hns := hm.most
  have hi0 := is_any h ok R a
  have hi1 : Calls Tryz.prog 16 #[fpt y.gs, wv a] w fun e w' => e = .returned (.int .i64 (v : Int)) ∧ Below w.heap.size w w' := hi0.mono fun e w' ⟨⟨u, hu, he⟩, hb⟩ => by
    obtain rfl := isAt_one ok hmost hu hv
    exact ⟨he, hb⟩
  have HI := Lib.hid hi1
  unfold fpt at H HN HI ⊢
  unfold wv at HI ⊢
  unfold jv
  unfold fitsM at hf
  simp only [Bool.and_eq_true, decide_eq_true_eq] at hf
  obtain ⟨hs1, hf⟩ := hf
  have HC := Lib.hid (sClient_at hf w)
  generalize hs.length = n at *
  obtain ⟨gs, hgs⟩ : ∃ g, g = y.gs := ⟨_, rfl⟩
  obtain ⟨gm, hgm⟩ : ∃ g, g = ym.g := ⟨_, rfl⟩
  rw [← hgs] at H HN HI ⊢
  rw [← hgm] at HZ ⊢
  rw [hs1] at HZ hz0
  have hne : (((1024 * (n + 1) : Nat) : Int) != ((1024 * (n + 1) : Nat) : Int)) = false := by simp
  obtain ⟨Z, hZ⟩ : ∃ Z, Z = 1024 * (n + 1) := ⟨_, rfl⟩
  rw [← hZ] at HZ hz0 HG hne
  clear h ok R hm hgs hgm e1 hi0 hi1 hs1 hf hZ hv
  by_cases hvi : v = is
  · rw [if_pos hvi]
    have hd : ((v : Int) != (is : Int)) = false := by rw [hvi]; simp
    clear hvi
    go_enter Tryz.func74, Tryz.ntmps74
    go_wp2_with fail
    refine H.out.mono ?_
    rintro e w1 ⟨rfl, rfl⟩
    go_wp2_with fail
    refine HZ.out.mono ?_
    rintro e w1 ⟨rfl, rfl⟩
    go_wp2_with fail
    refine HZ.out.mono ?_
    rintro e w1 ⟨rfl, rfl⟩
    go_wp2_with fail
    refine HN.out.mono ?_
    rintro e w1 ⟨rfl, rfl⟩
    go_wp2_with fail
    refine HG.out.mono ?_
    rintro e w1 ⟨rfl, rfl⟩
    go_wp2_with fail
    refine HC.out.mono ?_
    rintro e w1 ⟨rfl, rfl⟩
    go_wp2_with fail
    refine HI.out.mono ?_
    rintro e w1 ⟨rfl, hb⟩
    have HB := Lib.hid hb
    clear hb
    go_wp2
    go_ret
    exact ⟨rfl, HB.out⟩
  · rw [if_neg hvi]
    have hd : ((v : Int) != (is : Int)) = true := by rw [bne_iff_ne]; omega
    clear hvi
    go_enter Tryz.func74, Tryz.ntmps74
    go_wp2_with fail
    refine H.out.mono ?_
    rintro e w1 ⟨rfl, rfl⟩
    go_wp2_with fail
    refine HZ.out.mono ?_
    rintro e w1 ⟨rfl, rfl⟩
    go_wp2_with fail
    refine HZ.out.mono ?_
    rintro e w1 ⟨rfl, rfl⟩
    go_wp2_with fail
    refine HN.out.mono ?_
    rintro e w1 ⟨rfl, rfl⟩
    go_wp2_with fail
    refine HG.out.mono ?_
    rintro e w1 ⟨rfl, rfl⟩
    go_wp2_with fail
    refine HC.out.mono ?_
    rintro e w1 ⟨rfl, rfl⟩
    go_wp2_with fail
    refine HI.out.mono ?_
    rintro e w1 ⟨rfl, hb⟩
    have HB := Lib.hid hb
    clear hb
    go_wp2
    go_ret
    exact ⟨rfl, HB.out⟩
/-- A turn's struct, as it lies. -/
def tcells (gs gm : Nat) (c : Int) (gh i j : Nat) (pl : Value) (done : Bool) (code : Int) : Array Value :=
  #[fpt gs, fpt gm, .int .i64 c, .pointer (some ⟨gh, i * 4, none⟩), jv j, pl, .bool done, .int .i64 code]
def place (f : FuncId) (gt : Nat) : Value := .func (.func f) #[fpt gt] #[]
set_option maxRecDepth 100000 in
set_option maxHeartbeats 1600000 in
theorem turn_any {w : World} {y : SLay} {hs : List Hd} {fs : Nat → List Nat} (h : SlabMem w y hs fs) (ok : HsOk hs) (R : RS w y) {i j a : Nat} {x : Hd} (hx : hs[i]? = some x) (hj : j < x.bl.length) (ha : adr x.no x.cls j = a) (gm : Nat) (c : Int) (is : Nat) :
    Calls Tryz.prog 75 #[fpt y.gs, fpt gm, .int .i64 c, wv a, jv is] w fun e w' => ∃ gt, e = .returned (fpt gt) ∧ Row w' gt 84 (tcells y.gs gm c y.gh i j (place 102 gt) false 0) ∧ w.heap.size ≤ gt ∧ SlabMem w' y (hs.set i { x with bl := x.bl.set j is }) fs ∧ STurn w w' y y := by
  have hf0 : Found hs a i j := ⟨x, hx, hj, ha⟩
  have HF := Lib.hid (find_any h ok R.1 a)
  have HM := Lib.hid h
  have HO := Lib.hid ok
  have HX := Lib.hid hx
  have HJ := Lib.hid hj
  have HF0 := Lib.hid hf0
  obtain ⟨gs, hgs⟩ : ∃ g, g = y.gs := ⟨_, rfl⟩
  obtain ⟨gh, hgh⟩ : ∃ g, g = y.gh := ⟨_, rfl⟩
  unfold fpt at HF
  unfold wv at HF ⊢
  rw [← hgs] at HF ⊢
  rw [← hgh]
  have HGH := Lib.hid hgh
  clear h ok R hx hj ha hf0 hgs hgh
  unfold fpt jv
  go_enter Tryz.func75, Tryz.ntmps75
  go_wp2_with fail
  refine HF.out.mono ?_
  rintro e w1 ⟨hf, hb⟩
  have HB := Lib.hid hb
  rcases hf with ⟨i', j', hf', rfl⟩ | ⟨hn, rfl⟩
  · obtain ⟨rfl, rfl⟩ := found_one HO.out HM.out.most hf' HF0.out
    have hm1 := HM.out.below hb
    have hl15 := (HM.out.lens x (List.mem_of_getElem? HX.out)).1
    have hxl := HJ.out
    obtain ⟨g, hsh, hrow⟩ := (hm1.blk i' x HX.out).pos (by omega)
    have hown : (y.bv i').ownBlock = some g := by rw [hsh]; rfl
    have c3 := (hm1.head HX.out).2.2.2
    rw [hsh, ← HGH.out] at c3
    have cj := hrow.cell j'
    rw [List.getElem?_toArray, List.getElem?_map, List.getElem?_eq_getElem hxl, Option.map_some] at cj
    obtain ⟨u, cj'⟩ : ∃ u, w1.cell? ⟨g, j', none⟩ = some u := ⟨_, cj⟩
    have fj := hrow.free j'
    obtain ⟨hp, tp⟩ := hm1.put_bl (j := j') HX.out hown is
    have HP := Lib.hid hp
    have HT := Lib.hid ((STurn.of_below y hb).trans tp)
    rw [← HGH.out]
    clear hf' hb hm1 hsh hrow hown hp tp HF cj
    generalize x.bl.length = q at *
    unfold jv at HP HT ⊢
    go_upto_region 4 with (fail)
    obtain ⟨W2, hW2⟩ : ∃ W2, W2 = (w1.setCell ⟨g, j', none⟩ (.int .i64 (is : Int))).alloc (.cells #[.pointer (some ⟨gs, 0, none⟩), .pointer (some ⟨gm, 0, none⟩), .int .i64 c, .pointer (some ⟨gh, i' * 4, none⟩), .int .i64 (j' : Int), Value.nilFunc, .bool false, .int .i64 0] 84) := ⟨_, rfl⟩
    rw [← hW2]
    obtain ⟨gt, hgt⟩ : ∃ gt, gt = w1.heap.size := ⟨_, rfl⟩
    rw [← hgt]
    have hrt : Row W2 gt 84 #[.pointer (some ⟨gs, 0, none⟩), .pointer (some ⟨gm, 0, none⟩), .int .i64 c, .pointer (some ⟨gh, i' * 4, none⟩), .int .i64 (j' : Int), Value.nilFunc, .bool false, .int .i64 0] := by
      rw [hW2]
      exact rowAt (by rw [size_set]; exact hgt)
    have c5 := hrt.cell 5
    simp only [List.getElem?_toArray, List.getElem?_cons_succ, List.getElem?_cons_zero] at c5
    have f5 := hrt.free 5
    have hg2 : w.heap.size ≤ gt := by rw [hgt]; exact HB.out.size
    have HE := Lib.hid (show Row (W2.setCell ⟨gt, 5, none⟩ (.func (.func 102) #[.pointer (some ⟨gt, 0, none⟩)] #[])) gt 84 (tcells gs gm c gh i' j' (place 102 gt) false 0) ∧ w.heap.size ≤ gt ∧ SlabMem (W2.setCell ⟨gt, 5, none⟩ (.func (.func 102) #[.pointer (some ⟨gt, 0, none⟩)] #[])) y (hs.set i' { x with bl := x.bl.set j' is }) fs ∧ STurn w (W2.setCell ⟨gt, 5, none⟩ (.func (.func 102) #[.pointer (some ⟨gt, 0, none⟩)] #[])) y y from by
      have b2 : Below (w1.setCell ⟨g, j', none⟩ (.int .i64 (is : Int))).heap.size (w1.setCell ⟨g, j', none⟩ (.int .i64 (is : Int))) (W2.setCell ⟨gt, 5, none⟩ (.func (.func 102) #[.pointer (some ⟨gt, 0, none⟩)] #[])) := by
        rw [hW2]
        exact ((Below.refl _ _).alloc (Nat.le_refl _) _).setCell (p := ⟨gt, 5, none⟩) (by rw [size_set, hgt]; exact Nat.le_refl _) _
      exact ⟨hrt.set 5 _, hg2, HP.out.below b2, HT.out.trans (STurn.of_below y b2)⟩)
    clear hW2 hgt hrt hg2 cj' fj c3
    go_wp2

    go_ret
    exact ⟨gt, rfl, HE.out⟩
  · exact absurd HF0.out (hn i j)
end Go.Proofs.YthibbcokpmckfaaGreatDoor
/- Publish, Free: a turn that begins, or why there is none. -/
namespace Go.Proofs.YthibbcokpmckfaaGreatDoor
open Go.RowKit Go.Sort
set_option linter.unusedVariables false
/-- A turn that begins, of the block j of the slab i, which is b meanwhile. -/
def Began (w : World) (y : SLay) (hs : List Hd) (fs : Nat → List Nat) (i j : Nat) (x : Hd) (gm : Nat) (c : Int) (is : Nat) (e : Ending) (w' : World) : Prop :=
  ∃ gt, e = .returned (.tuple #[fpt gt, .int .i64 0]) ∧ Row w' gt 84 (tcells y.gs gm c y.gh i j (place 102 gt) false 0) ∧ w.heap.size ≤ gt ∧ SlabMem w' y (hs.set i { x with bl := x.bl.set j is }) fs ∧ STurn w w' y y

theorem publish_refused {p q : Option Addr} {w : World} {c a k : Int} (hk : k ≠ 0) (H : Hid (Calls Tryz.prog 74 #[.pointer p, .pointer q, .int .i64 c, .int .u64 a, .int .i64 1] w fun e w' => e = .returned (.int .i64 k) ∧ Below w.heap.size w w')) :
    Calls Tryz.prog 33 #[.pointer p, .pointer q, .int .i64 c, .int .u64 a] w fun e w' => e = .returned (.tuple #[.pointer none, .int .i64 k]) ∧ Below w.heap.size w w' := by
  have hz : (k != 0) = true := by rw [bne_iff_ne]; exact hk
  go_enter Tryz.func33, Tryz.ntmps33
  go_wp2_with fail
  refine H.out.mono ?_
  rintro e w1 ⟨rfl, hb⟩
  have HB := Lib.hid hb
  clear hb
  go_wp2
  go_ret2
  exact ⟨rfl, HB.out⟩
theorem publish_none {p : Option Addr} {w : World} (h : NoSlab w p) (q : Option Addr) (c a : Int) : Calls Tryz.prog 33 #[.pointer p, .pointer q, .int .i64 c, .int .u64 a] w fun e w' => e = .returned (.tuple #[.pointer none, .int .i64 1]) ∧ Below w.heap.size w w' :=
  publish_refused (by decide) (Lib.hid ((refused_none h q c a 1).mono fun e w' ⟨he, hw⟩ => ⟨he, by subst hw; exact Below.refl _ _⟩))
theorem publish_nomem {w : World} {y : SLay} {hs : List Hd} {fs : Nat → List Nat} (h : SlabMem w y hs fs) {q : Option Addr} (hq : NoMem w q) (c a : Int) : Calls Tryz.prog 33 #[fpt y.gs, .pointer q, .int .i64 c, .int .u64 a] w fun e w' => e = .returned (.tuple #[.pointer none, .int .i64 1]) ∧ Below w.heap.size w w' :=
  publish_refused (by decide) (Lib.hid ((refused_nomem h hq c a 1).mono fun e w' ⟨he, hw⟩ => ⟨he, by subst hw; exact Below.refl _ _⟩))
theorem publish_arg {w : World} {y : SLay} {hs : List Hd} {fs : Nat → List Nat} (h : SlabMem w y hs fs) {ym : Lay} {s : St} (hm : MemAt w ym s) {c : Int} (hf : fitsM s.nl hs.length c = false) (a : Int) : Calls Tryz.prog 33 #[fpt y.gs, fpt ym.g, .int .i64 c, .int .u64 a] w fun e w' => e = .returned (.tuple #[.pointer none, .int .i64 2]) ∧ Below w.heap.size w w' :=
  publish_refused (by decide) (Lib.hid ((refused_arg2 h hm hf a 1).mono fun e w' ⟨he, hw⟩ => ⟨he, by subst hw; exact Below.refl _ _⟩))
theorem publish_state {w : World} {y : SLay} {hs : List Hd} {fs : Nat → List Nat} (h : SlabMem w y hs fs) (ok : HsOk hs) (R : Rms w) {ym : Lay} {s : St} (hm : MemAt w ym s) {c : Int} (hf : fitsM s.nl hs.length c = true) {a v : Nat} (hv : isAt hs a v) (hn : v ≠ 1) :
    Calls Tryz.prog 33 #[fpt y.gs, fpt ym.g, .int .i64 c, wv a] w fun e w' => e = .returned (.tuple #[.pointer none, .int .i64 7]) ∧ Below w.heap.size w w' :=
  publish_refused (p := some ⟨y.gs, 0, none⟩) (q := some ⟨ym.g, 0, none⟩) (a := (a : Int)) (k := 7) (by decide) (Lib.hid (show Calls Tryz.prog 74 #[.pointer (some ⟨y.gs, 0, none⟩), .pointer (some ⟨ym.g, 0, none⟩), .int .i64 c, .int .u64 (a : Int), .int .i64 1] w fun e w' => e = .returned (.int .i64 7) ∧ Below w.heap.size w w' from by
    have h1 := refused_is h ok R hm hf (is := 1) hv
    rw [if_neg hn] at h1
    exact h1))
set_option maxRecDepth 100000 in
theorem publish_ok {w : World} {y : SLay} {hs : List Hd} {fs : Nat → List Nat} (h : SlabMem w y hs fs) (ok : HsOk hs) (R : RS w y) {ym : Lay} {s : St} (hm : MemAt w ym s) {c : Int} (hf : fitsM s.nl hs.length c = true) {i j a : Nat} {x : Hd} (hx : hs[i]? = some x) (hj : x.bl[j]? = some 1) (ha : adr x.no x.cls j = a) :
    Calls Tryz.prog 33 #[fpt y.gs, fpt ym.g, .int .i64 c, wv a] w (Began w y hs fs i j x ym.g c 4) := by
  have hjl := (List.getElem?_eq_some_iff.1 hj).1
  have hv : isAt hs a 1 := .inl ⟨i, j, x, hx, hjl, ha, hj⟩
  have HR0 := refused_is h ok R.1 hm hf (is := 1) hv
  rw [if_pos rfl] at HR0
  have HT := Lib.hid fun (W : World) (hb : Below w.heap.size w W) => turn_any (h.below hb) ok (R.below hb) hx hjl ha ym.g c 4
  have HK := Lib.hid (show ∀ (W W' : World) (gt : Nat), Below w.heap.size w W → (Row W' gt 84 (tcells y.gs ym.g c y.gh i j (place 102 gt) false 0) ∧ W.heap.size ≤ gt ∧ SlabMem W' y (hs.set i { x with bl := x.bl.set j 4 }) fs ∧ STurn W W' y y) → Began w y hs fs i j x ym.g c 4 (.returned (.tuple #[fpt gt, .int .i64 0])) W' from fun W W' gt hb ⟨h1, h2, h3, h4⟩ => ⟨gt, rfl, h1, Nat.le_trans hb.size h2, h3, (STurn.of_below y hb).trans h4⟩)
  have HR := Lib.hid HR0
  obtain ⟨gs, hgs⟩ : ∃ g, g = y.gs := ⟨_, rfl⟩
  obtain ⟨gm, hgm⟩ : ∃ g, g = ym.g := ⟨_, rfl⟩
  unfold fpt wv jv at HR
  rw [← hgs, ← hgm] at HR HT ⊢
  rw [← hgs, ← hgm] at HK
  unfold fpt wv jv at HT
  unfold fpt wv
  unfold fpt at HK
  rw [show (((1 : Nat)) : Int) = 1 from rfl] at HR
  rw [show (((4 : Nat)) : Int) = 4 from rfl] at HT
  clear h ok R hm hf hx hj ha hjl hv HR0 hgm hgs
  go_enter Tryz.func33, Tryz.ntmps33
  go_wp2_with fail
  refine HR.out.mono ?_
  rintro e w1 ⟨rfl, hb⟩
  have HB := Lib.hid hb
  have HT1 := Lib.hid (HT.out w1 hb)
  clear hb HR HT
  go_wp2_with fail
  refine HT1.out.mono ?_
  rintro e w2 ⟨gt, rfl, hrest⟩
  have HE := Lib.hid (HK.out w1 w2 gt HB.out hrest)
  clear hrest
  go_wp2
  go_ret2
  exact HE.out

theorem free_refused {p q : Option Addr} {w : World} {c a k : Int} (hk : k ≠ 0) (H : Hid (Calls Tryz.prog 74 #[.pointer p, .pointer q, .int .i64 c, .int .u64 a, .int .i64 2] w fun e w' => e = .returned (.int .i64 k) ∧ Below w.heap.size w w')) :
    Calls Tryz.prog 34 #[.pointer p, .pointer q, .int .i64 c, .int .u64 a] w fun e w' => e = .returned (.tuple #[.pointer none, .int .i64 k]) ∧ Below w.heap.size w w' := by
  have hz : (k != 0) = true := by rw [bne_iff_ne]; exact hk
  go_enter Tryz.func34, Tryz.ntmps34
  go_wp2_with fail
  refine H.out.mono ?_
  rintro e w1 ⟨rfl, hb⟩
  have HB := Lib.hid hb
  clear hb
  go_wp2
  go_ret2
  exact ⟨rfl, HB.out⟩
theorem free_none {p : Option Addr} {w : World} (h : NoSlab w p) (q : Option Addr) (c a : Int) : Calls Tryz.prog 34 #[.pointer p, .pointer q, .int .i64 c, .int .u64 a] w fun e w' => e = .returned (.tuple #[.pointer none, .int .i64 1]) ∧ Below w.heap.size w w' :=
  free_refused (by decide) (Lib.hid ((refused_none h q c a 2).mono fun e w' ⟨he, hw⟩ => ⟨he, by subst hw; exact Below.refl _ _⟩))
theorem free_nomem {w : World} {y : SLay} {hs : List Hd} {fs : Nat → List Nat} (h : SlabMem w y hs fs) {q : Option Addr} (hq : NoMem w q) (c a : Int) : Calls Tryz.prog 34 #[fpt y.gs, .pointer q, .int .i64 c, .int .u64 a] w fun e w' => e = .returned (.tuple #[.pointer none, .int .i64 1]) ∧ Below w.heap.size w w' :=
  free_refused (by decide) (Lib.hid ((refused_nomem h hq c a 2).mono fun e w' ⟨he, hw⟩ => ⟨he, by subst hw; exact Below.refl _ _⟩))
theorem free_arg {w : World} {y : SLay} {hs : List Hd} {fs : Nat → List Nat} (h : SlabMem w y hs fs) {ym : Lay} {s : St} (hm : MemAt w ym s) {c : Int} (hf : fitsM s.nl hs.length c = false) (a : Int) : Calls Tryz.prog 34 #[fpt y.gs, fpt ym.g, .int .i64 c, .int .u64 a] w fun e w' => e = .returned (.tuple #[.pointer none, .int .i64 2]) ∧ Below w.heap.size w w' :=
  free_refused (by decide) (Lib.hid ((refused_arg2 h hm hf a 2).mono fun e w' ⟨he, hw⟩ => ⟨he, by subst hw; exact Below.refl _ _⟩))
theorem free_state {w : World} {y : SLay} {hs : List Hd} {fs : Nat → List Nat} (h : SlabMem w y hs fs) (ok : HsOk hs) (R : Rms w) {ym : Lay} {s : St} (hm : MemAt w ym s) {c : Int} (hf : fitsM s.nl hs.length c = true) {a v : Nat} (hv : isAt hs a v) (hn : v ≠ 2) :
    Calls Tryz.prog 34 #[fpt y.gs, fpt ym.g, .int .i64 c, wv a] w fun e w' => e = .returned (.tuple #[.pointer none, .int .i64 7]) ∧ Below w.heap.size w w' :=
  free_refused (p := some ⟨y.gs, 0, none⟩) (q := some ⟨ym.g, 0, none⟩) (a := (a : Int)) (k := 7) (by decide) (Lib.hid (show Calls Tryz.prog 74 #[.pointer (some ⟨y.gs, 0, none⟩), .pointer (some ⟨ym.g, 0, none⟩), .int .i64 c, .int .u64 (a : Int), .int .i64 2] w fun e w' => e = .returned (.int .i64 7) ∧ Below w.heap.size w w' from by
    have h1 := refused_is h ok R hm hf (is := 2) hv
    rw [if_neg hn] at h1
    exact h1))
set_option maxRecDepth 100000 in
theorem free_ok {w : World} {y : SLay} {hs : List Hd} {fs : Nat → List Nat} (h : SlabMem w y hs fs) (ok : HsOk hs) (R : RS w y) {ym : Lay} {s : St} (hm : MemAt w ym s) {c : Int} (hf : fitsM s.nl hs.length c = true) {i j a : Nat} {x : Hd} (hx : hs[i]? = some x) (hj : x.bl[j]? = some 2) (ha : adr x.no x.cls j = a) :
    Calls Tryz.prog 34 #[fpt y.gs, fpt ym.g, .int .i64 c, wv a] w (Began w y hs fs i j x ym.g c 3) := by
  have hjl := (List.getElem?_eq_some_iff.1 hj).1
  have hv : isAt hs a 2 := .inl ⟨i, j, x, hx, hjl, ha, hj⟩
  have HR0 := refused_is h ok R.1 hm hf (is := 2) hv
  rw [if_pos rfl] at HR0
  have HT := Lib.hid fun (W : World) (hb : Below w.heap.size w W) => turn_any (h.below hb) ok (R.below hb) hx hjl ha ym.g c 3
  have HK := Lib.hid (show ∀ (W W' : World) (gt : Nat), Below w.heap.size w W → (Row W' gt 84 (tcells y.gs ym.g c y.gh i j (place 102 gt) false 0) ∧ W.heap.size ≤ gt ∧ SlabMem W' y (hs.set i { x with bl := x.bl.set j 3 }) fs ∧ STurn W W' y y) → Began w y hs fs i j x ym.g c 3 (.returned (.tuple #[fpt gt, .int .i64 0])) W' from fun W W' gt hb ⟨h1, h2, h3, h4⟩ => ⟨gt, rfl, h1, Nat.le_trans hb.size h2, h3, (STurn.of_below y hb).trans h4⟩)
  have HR := Lib.hid HR0
  obtain ⟨gs, hgs⟩ : ∃ g, g = y.gs := ⟨_, rfl⟩
  obtain ⟨gm, hgm⟩ : ∃ g, g = ym.g := ⟨_, rfl⟩
  unfold fpt wv jv at HR
  rw [← hgs, ← hgm] at HR HT ⊢
  rw [← hgs, ← hgm] at HK
  unfold fpt wv jv at HT
  unfold fpt wv
  unfold fpt at HK
  rw [show (((2 : Nat)) : Int) = 2 from rfl] at HR
  rw [show (((3 : Nat)) : Int) = 3 from rfl] at HT
  clear h ok R hm hf hx hj ha hjl hv HR0 hgm hgs
  go_enter Tryz.func34, Tryz.ntmps34
  go_wp2_with fail
  refine HR.out.mono ?_
  rintro e w1 ⟨rfl, hb⟩
  have HB := Lib.hid hb
  have HT1 := Lib.hid (HT.out w1 hb)
  clear hb HR HT
  go_wp2_with fail
  refine HT1.out.mono ?_
  rintro e w2 ⟨gt, rfl, hrest⟩
  have HE := Lib.hid (HK.out w1 w2 gt HB.out hrest)
  clear hrest
  go_wp2
  go_ret2
  exact HE.out
end Go.Proofs.YthibbcokpmckfaaGreatDoor
