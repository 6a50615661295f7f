/- Texts of this claim, packed: LRes, LRoom, LCount. -/
import Derived.Test.YtahojhaeebmpoaaGreatDoorPk37
/- Reserve: the least free block of a class; Release; for classes that there are, and others. -/
namespace Go.Proofs.YtahojhaeebmpoaaGreatDoor
open Go.RowKit Go.Sort
set_option linter.unusedVariables false
theorem reserve_none {p : Option Addr} {w : World} (h : NoSlab w p) (n : Int) : Calls Tryz.prog 26 #[.pointer p, .int .i64 n] w fun e w' => e = .returned (.tuple #[.int .u64 0, .int .i64 1]) ∧ w = w' := by
  have H := Lib.hid (snone_none h)
  clear h
  go_enter Tryz.func26, Tryz.ntmps26
  go_wp2_with fail
  refine H.out.mono ?_
  rintro e w1 ⟨rfl, rfl⟩
  go_wp2
  go_ret2
  exact ⟨rfl, rfl⟩
theorem reserve_arg {w : World} {y : SLay} {hs : List Hd} {fs : Nat → List Nat} (h : SlabMem w y hs fs) {n : Int} (hn : ¬ (1 ≤ n ∧ n ≤ 3)) : Calls Tryz.prog 26 #[fpt y.gs, .int .i64 n] w fun e w' => e = .returned (.tuple #[.int .u64 0, .int .i64 2]) ∧ w = w' := by
  have H := Lib.hid (snone_at h)
  have HC := Lib.hid (sClass_at (inB_no hn) w)
  unfold fpt at H ⊢
  clear h hn
  go_enter Tryz.func26, Tryz.ntmps26
  go_wp2_with fail
  refine H.out.mono ?_
  rintro e w1 ⟨rfl, rfl⟩
  go_wp2_with fail
  refine HC.out.mono ?_
  rintro e w1 ⟨rfl, rfl⟩
  go_wp2
  go_ret2
  exact ⟨rfl, rfl⟩
theorem list_min : ∀ (s : List Nat), s ≠ [] → ∃ m, m ∈ s ∧ ∀ x ∈ s, m ≤ x
  | [], h => absurd rfl h
  | [a], _ => ⟨a, List.mem_cons_self, fun x hx => by simp at hx; omega⟩
  | a :: b :: t, _ => by
    obtain ⟨m, hm, hl⟩ := list_min (b :: t) (by simp)
    by_cases h : a ≤ m
    · exact ⟨a, List.mem_cons_self, fun x hx => by
        rcases List.mem_cons.1 hx with rfl | hx
        · exact Nat.le_refl _
        · exact Nat.le_trans h (hl x hx)⟩
    · exact ⟨m, List.mem_cons_of_mem _ hm, fun x hx => by
        rcases List.mem_cons.1 hx with rfl | hx
        · omega
        · exact hl x hx⟩
/-- The slabs, one more of them with a class, if none of that class has a free block. -/
def Claimed (hs hs1 : List Hd) (c : Nat) : Prop := ((∃ a, FreeB hs c a) ∧ hs1 = hs) ∨ ((∀ a, ¬ FreeB hs c a) ∧ ((∃ (i : Nat) (x : Hd), FirstZ hs i ∧ hs[i]? = some x ∧ hs1 = hs.set i ⟨x.no, c, 0, blK (blN c) 0 (blN c)⟩) ∨ (NoZ hs ∧ hs1 = hs)))
/-- What Reserve answers, of the slabs hs1, and what it leaves. -/
def Took (hs1 hs' : List Hd) (c : Nat) (e : Ending) : Prop :=
  (∃ (i j : Nat) (x : Hd), hs1[i]? = some x ∧ x.cls = c ∧ x.bl[j]? = some 0 ∧ (∀ a, FreeB hs1 c a → adr x.no c j ≤ a) ∧ hs' = hs1.set i { x with bl := x.bl.set j 1 } ∧ e = .returned (.tuple #[wv (adr x.no c j), .int .i64 0])) ∨
  ((∀ a, ¬ FreeB hs1 c a) ∧ hs' = hs1 ∧ e = .returned (.tuple #[.int .u64 0, .int .i64 4]))
def ResPost (w : World) (y : SLay) (hs : List Hd) (c : Nat) (e : Ending) (w' : World) : Prop :=
  ∃ hs1 hs' y' fs', Claimed hs hs1 c ∧ Took hs1 hs' c e ∧ SlabMem w' y' hs' fs' ∧ HsOk hs' ∧ FsOk hs' fs' ∧ STurn w w' y y'
set_option maxRecDepth 100000 in
set_option maxHeartbeats 3200000 in
theorem reserve_any {w : World} {y : SLay} {hs : List Hd} {fs : Nat → List Nat} (h : SlabMem w y hs fs) (ok : HsOk hs) (fo : FsOk hs fs) (R : RS w y) {c : Nat} (hc1 : 1 ≤ c) (hc3 : c ≤ 3) :
    Calls Tryz.prog 26 #[fpt y.gs, jv c] w (ResPost w y hs c) := by
  have H := Lib.hid (snone_at h)
  have HC := Lib.hid (sClass_at (n := (c : Int)) (inB_yes ⟨by omega, by omega⟩) w)
  have hfew := fo.few ok h.most c
  have HLN := Lib.hid (len_any (h.fre c (by omega)) (by omega))
  have HCL := Lib.hid (claim_any h ok R hc3 (by omega))
  have d1 := h.set4 (c := c) (by omega)
  have HM := Lib.hid h
  have HO := Lib.hid ok
  have HF := Lib.hid fo
  have HR := Lib.hid R
  have HFW := Lib.hid hfew
  obtain ⟨gs, hgs⟩ : ∃ g, g = y.gs := ⟨_, rfl⟩
  obtain ⟨gf, hgf⟩ : ∃ g, g = y.gf c := ⟨_, rfl⟩
  unfold fpt at H HCL d1 ⊢
  unfold jv at HCL ⊢
  rw [← hgs] at H HCL d1 ⊢
  rw [← hgf] at HLN d1
  have HGS := Lib.hid hgs
  have HGF := Lib.hid hgf
  clear h ok fo R hgs hgf hfew
  go_enter Tryz.func26, Tryz.ntmps26
  go_wp2_with fail
  refine H.out.mono ?_
  rintro e w1 ⟨rfl, rfl⟩
  go_wp2_with fail
  refine HC.out.mono ?_
  rintro e w1 ⟨rfl, rfl⟩
  by_cases h0 : fs c = []
  · rw [h0] at HLN
    rw [show ((([] : List Nat).length : Nat) : Int) = 0 from rfl] at HLN
    have HZ := Lib.hid (show ∀ a, ¬ FreeB hs c a from fun a ha => by have := ((HF.out c).2 a).2 ha; rw [h0] at this; cases this)
    clear h0
    go_wp2_with fail
    refine HLN.out.mono ?_
    rintro e w1 ⟨rfl, rfl⟩
    go_wp2_with fail
    refine HCL.out.mono ?_
    rintro e w1 ⟨rfl, y1, hs1, fs1, hm1, ht1, hcc⟩
    have HS1 := Lib.hid hm1
    have HT1 := Lib.hid ht1
    have hcl : HsOk hs1 ∧ FsOk hs1 fs1 ∧ Claimed hs hs1 c := by
      rcases hcc with ⟨i, x, hf, hx, rfl, rfl⟩ | ⟨hz, rfl, rfl⟩
      · have hx0 : x.cls = 0 := by
          obtain ⟨x', hx', h0⟩ := hf.1
          rw [hx] at hx'
          cases hx'
          exact h0
        have hxl : x.bl.length = 0 := by rw [(HO.out i x hx).2, hx0]; rfl
        exact ⟨HO.out.claim hx, HF.out.claim hx hx0 hxl, .inr ⟨HZ.out, .inl ⟨i, x, hf, hx, rfl⟩⟩⟩
      · exact ⟨HO.out, HF.out, .inr ⟨HZ.out, .inr ⟨hz, rfl⟩⟩⟩
    have HO1 := Lib.hid hcl.1
    have HF1 := Lib.hid hcl.2.1
    have HCD := Lib.hid hcl.2.2
    clear hm1 ht1 hcc hcl d1 H HC HLN HCL
    have d2 := HS1.out.set4 (c := c) (by omega)
    unfold fpt at d2
    rw [HT1.out.gs, HT1.out.gf, ← HGS.out, ← HGF.out] at d2
    by_cases h1 : fs1 c = []
    · have hS := HS1.out.fre c (by omega)
      rw [h1, HT1.out.gf, ← HGF.out] at hS
      have HTN := Lib.hid (take_none hS)
      have HE := Lib.hid (show ResPost w y hs c (.returned (.tuple #[.int .u64 0, .int .i64 4])) w1 from ⟨hs1, hs1, y1, fs1, HCD.out, .inr ⟨(fun a ha => by have := ((HF1.out c).2 a).2 ha; rw [h1] at this; cases this), rfl, rfl⟩, HS1.out, HO1.out, HF1.out, HT1.out⟩)
      clear h1 hS
      go_wp2_with fail
      refine HTN.out.mono ?_
      rintro e w2 ⟨rfl, rfl⟩
      go_wp2
      go_ret2
      exact HE.out
    · obtain ⟨m, hmm, hmin⟩ := list_min _ h1
      have hS := HS1.out.fre c (by omega)
      have hfw := HF1.out.few HO1.out HS1.out.most c
      have hTK := take_any hS (by omega) hmm hmin
      rw [HT1.out.gf, ← HGF.out] at hTK
      unfold wv at hTK
      have HTK := Lib.hid hTK
      obtain ⟨i, j, x, hx, hxc, hb, ha, hfd⟩ := (((HF1.out c).2 m).1 hmm).found
      have HX := Lib.hid hx
      have HXC := Lib.hid hxc
      have HBL := Lib.hid hb
      have HAD := Lib.hid ha
      have HFD := Lib.hid hfd
      have HMIN := Lib.hid (show ∀ a, FreeB hs1 c a → m ≤ a from fun a ha => hmin a (((HF1.out c).2 a).2 ha))
      have HFW1 := Lib.hid hfw
      clear h1 hmm hmin hS hfw hTK hx hxc hb ha hfd
      go_wp2_with fail
      refine HTK.out.mono ?_
      rintro e w2 ⟨rfl, hl⟩
      have hl' : LeftSet w1 (y1.gf c) (y1.fv c) ((fs1 c).erase m) w2 := by rw [HT1.out.gf, ← HGF.out]; exact hl
      obtain ⟨y2, hm2, ht2⟩ := HS1.out.left (c := c) (by omega) hl' (by have := HFW1.out; have := List.length_erase_le (a := m) (l := fs1 c); omega)
      have HT2 := Lib.hid (HT1.out.trans ht2)
      have HFI := find_any hm2 HO1.out (HR.out.turn HT2.out).1 m
      unfold fpt wv at HFI
      rw [HT2.out.gs, ← HGS.out] at HFI
      have HFI := Lib.hid HFI
      have HS2 := Lib.hid hm2
      clear hl hl' hm2 ht2 HTK d2
      go_wp2_with fail
      refine HFI.out.mono ?_
      rintro e w3 ⟨hf, hb3⟩
      have HB3 := Lib.hid hb3
      rcases hf with ⟨i', j', hf', rfl⟩ | ⟨hn, rfl⟩
      · obtain ⟨rfl, rfl⟩ := found_one HO1.out HS2.out.most hf' HFD.out
        have hm3 := HS2.out.below hb3
        have hxl : j' < x.bl.length := (List.getElem?_eq_some_iff.1 HBL.out).1
        have hl15 := (HS2.out.lens x (List.mem_of_getElem? HX.out)).1
        obtain ⟨g, hsh, hrow⟩ := (hm3.blk i' x HX.out).pos (by omega)
        have hown : (y2.bv i').ownBlock = some g := by rw [hsh]; rfl
        have c3 := (hm3.head HX.out).2.2.2
        rw [hsh] at c3
        have cj := hrow.cell j'
        rw [List.getElem?_toArray, List.getElem?_map, HBL.out, Option.map_some] at cj
        have fj := hrow.free j'
        obtain ⟨hp, tp⟩ := hm3.put_bl (j := j') HX.out hown 1
        have HE := Lib.hid (show ResPost w y hs c (.returned (.tuple #[.int .u64 (m : Int), .int .i64 0])) (w3.setCell ⟨g, j', none⟩ (.int .i64 1)) from by
          have hmost := HS2.out.most
          have hfo := HF1.out.take HO1.out hmost (v := 1) HX.out HBL.out (by decide)
          refine ⟨hs1, _, y2, _, HCD.out, .inl ⟨i', j', x, HX.out, HXC.out, HBL.out, by rw [HAD.out]; exact HMIN.out, rfl, by rw [HAD.out]; rfl⟩, hp, HO1.out.set_bl HX.out, ?_, (HT2.out.trans (STurn.of_below y2 HB3.out)).trans tp⟩
          have e : updF fs1 x.cls ((fs1 x.cls).erase (adr x.no x.cls j')) = updF fs1 c ((fs1 c).erase m) := by rw [HXC.out, HAD.out]
          rw [e] at hfo
          exact hfo)
        generalize x.bl.length = q at *
        unfold jv at cj
        unfold jv
        clear hf' hb3 hm3 hsh hrow hown hp tp HFI
        go_wp2
        go_ret2
        exact HE.out
      · exact absurd HFD.out (hn i j)
  · have hne : ((((fs c).length : Nat) : Int) == 0) = false := by
      rw [Bool.eq_false_iff]
      intro k
      have h1 := beq_iff_eq.1 k
      exact h0 (List.eq_nil_of_length_eq_zero (by omega))
    have HT1 := Lib.hid (STurn.refl w y)
    have HS1 := HM
    have HO1 := HO
    have HF1 := HF
    have HCD := Lib.hid (show Claimed hs hs c from .inl ⟨by
      obtain ⟨m, hm, _⟩ := list_min _ h0
      exact ⟨m, ((HF.out c).2 m).1 hm⟩, rfl⟩)
    generalize (fs c).length = L at HLN hne
    clear h0
    go_wp2_with fail
    refine HLN.out.mono ?_
    rintro e w1 ⟨rfl, rfl⟩
    clear H HC HLN HCL
    have d2 := HS1.out.set4 (c := c) (by omega)
    unfold fpt at d2
    rw [HT1.out.gs, HT1.out.gf, ← HGS.out, ← HGF.out] at d2
    by_cases h1 : fs c = []
    · have hS := HS1.out.fre c (by omega)
      rw [h1, HT1.out.gf, ← HGF.out] at hS
      have HTN := Lib.hid (take_none hS)
      have HE := Lib.hid (show ResPost w y hs c (.returned (.tuple #[.int .u64 0, .int .i64 4])) w from ⟨hs, hs, y, fs, HCD.out, .inr ⟨(fun a ha => by have := ((HF1.out c).2 a).2 ha; rw [h1] at this; cases this), rfl, rfl⟩, HS1.out, HO1.out, HF1.out, HT1.out⟩)
      clear h1 hS
      go_wp2_with fail
      refine HTN.out.mono ?_
      rintro e w2 ⟨rfl, rfl⟩
      go_wp2
      go_ret2
      exact HE.out
    · obtain ⟨m, hmm, hmin⟩ := list_min _ h1
      have hS := HS1.out.fre c (by omega)
      have hfw := HF1.out.few HO1.out HS1.out.most c
      have hTK := take_any hS (by omega) hmm hmin
      rw [HT1.out.gf, ← HGF.out] at hTK
      unfold wv at hTK
      have HTK := Lib.hid hTK
      obtain ⟨i, j, x, hx, hxc, hb, ha, hfd⟩ := (((HF1.out c).2 m).1 hmm).found
      have HX := Lib.hid hx
      have HXC := Lib.hid hxc
      have HBL := Lib.hid hb
      have HAD := Lib.hid ha
      have HFD := Lib.hid hfd
      have HMIN := Lib.hid (show ∀ a, FreeB hs c a → m ≤ a from fun a ha => hmin a (((HF1.out c).2 a).2 ha))
      have HFW1 := Lib.hid hfw
      clear h1 hmm hmin hS hfw hTK hx hxc hb ha hfd
      go_wp2_with fail
      refine HTK.out.mono ?_
      rintro e w2 ⟨rfl, hl⟩
      have hl' : LeftSet w (y.gf c) (y.fv c) ((fs c).erase m) w2 := by rw [HT1.out.gf, ← HGF.out]; exact hl
      obtain ⟨y2, hm2, ht2⟩ := HS1.out.left (c := c) (by omega) hl' (by have := HFW1.out; have := List.length_erase_le (a := m) (l := fs c); omega)
      have HT2 := Lib.hid (HT1.out.trans ht2)
      have HFI := find_any hm2 HO1.out (HR.out.turn HT2.out).1 m
      unfold fpt wv at HFI
      rw [HT2.out.gs, ← HGS.out] at HFI
      have HFI := Lib.hid HFI
      have HS2 := Lib.hid hm2
      clear hl hl' hm2 ht2 HTK d2
      go_wp2_with fail
      refine HFI.out.mono ?_
      rintro e w3 ⟨hf, hb3⟩
      have HB3 := Lib.hid hb3
      rcases hf with ⟨i', j', hf', rfl⟩ | ⟨hn, rfl⟩
      · obtain ⟨rfl, rfl⟩ := found_one HO1.out HS2.out.most hf' HFD.out
        have hm3 := HS2.out.below hb3
        have hxl : j' < x.bl.length := (List.getElem?_eq_some_iff.1 HBL.out).1
        have hl15 := (HS2.out.lens x (List.mem_of_getElem? HX.out)).1
        obtain ⟨g, hsh, hrow⟩ := (hm3.blk i' x HX.out).pos (by omega)
        have hown : (y2.bv i').ownBlock = some g := by rw [hsh]; rfl
        have c3 := (hm3.head HX.out).2.2.2
        rw [hsh] at c3
        have cj := hrow.cell j'
        rw [List.getElem?_toArray, List.getElem?_map, HBL.out, Option.map_some] at cj
        have fj := hrow.free j'
        obtain ⟨hp, tp⟩ := hm3.put_bl (j := j') HX.out hown 1
        have HE := Lib.hid (show ResPost w y hs c (.returned (.tuple #[.int .u64 (m : Int), .int .i64 0])) (w3.setCell ⟨g, j', none⟩ (.int .i64 1)) from by
          have hmost := HS2.out.most
          have hfo := HF1.out.take HO1.out hmost (v := 1) HX.out HBL.out (by decide)
          refine ⟨hs, _, y2, _, HCD.out, .inl ⟨i', j', x, HX.out, HXC.out, HBL.out, by rw [HAD.out]; exact HMIN.out, rfl, by rw [HAD.out]; rfl⟩, hp, HO1.out.set_bl HX.out, ?_, (HT2.out.trans (STurn.of_below y2 HB3.out)).trans tp⟩
          have e : updF fs x.cls ((fs x.cls).erase (adr x.no x.cls j')) = updF fs c ((fs c).erase m) := by rw [HXC.out, HAD.out]
          rw [e] at hfo
          exact hfo)
        generalize x.bl.length = q at *
        unfold jv at cj
        unfold jv
        clear hf' hb3 hm3 hsh hrow hown hp tp HFI
        go_wp2
        go_ret2
        exact HE.out
      · exact absurd HFD.out (hn i j)
def RelPost (w : World) (y : SLay) (hs : List Hd) (a : Nat) (e : Ending) (w' : World) : Prop :=
  (∃ (i j : Nat) (x : Hd) (y' : SLay) (fs' : Nat → List Nat), hs[i]? = some x ∧ x.bl[j]? = some 1 ∧ adr x.no x.cls j = a ∧ e = .returned (.int .i64 0) ∧ SlabMem w' y' (hs.set i { x with bl := x.bl.set j 0 }) fs' ∧ HsOk (hs.set i { x with bl := x.bl.set j 0 }) ∧ FsOk (hs.set i { x with bl := x.bl.set j 0 }) fs' ∧ STurn w w' y y') ∨
  (¬ isAt hs a 1 ∧ e = .returned (.int .i64 7) ∧ Below w.heap.size w w')
theorem release_none {p : Option Addr} {w : World} (h : NoSlab w p) (n : Int) : Calls Tryz.prog 51 #[.pointer p, .int .u64 n] w fun e w' => e = .returned (.int .i64 1) ∧ w = w' := by
  have H := Lib.hid (snone_none h)
  clear h
  go_enter Tryz.func51, Tryz.ntmps51
  go_wp2_with fail
  refine H.out.mono ?_
  rintro e w1 ⟨rfl, rfl⟩
  go_wp2
  go_ret
  exact ⟨rfl, rfl⟩
end Go.Proofs.YtahojhaeebmpoaaGreatDoor
/- Room: how many blocks of a class can be reserved. -/
namespace Go.Proofs.YtahojhaeebmpoaaGreatDoor
open Go.RowKit Go.Sort
set_option linter.unusedVariables false
/-- How many slabs of the first k have no class. -/
def voidN (hs : List Hd) : Nat → Nat
  | 0 => 0
  | k + 1 => voidN hs k + if (hs[k]?.map (·.cls)) = some 0 then 1 else 0
theorem voidN_le (hs : List Hd) (k : Nat) : voidN hs k ≤ k := by
  induction k with
  | zero => exact Nat.le_refl _
  | succ k ih => unfold voidN; split <;> omega
def roomS (hs : List Hd) (fs : Nat → List Nat) (c k : Nat) : Nat := (fs c).length + blN c * voidN hs k
theorem roomS_void {hs : List Hd} {fs : Nat → List Nat} {c k : Nat} {x : Hd} (hx : hs[k]? = some x) (h0 : x.cls = 0) : roomS hs fs c (k + 1) = roomS hs fs c k + blN c := by
  unfold roomS
  rw [show voidN hs (k + 1) = voidN hs k + 1 from by rw [voidN, hx]; simp [h0], Nat.mul_add, Nat.mul_one]; omega
theorem roomS_else {hs : List Hd} {fs : Nat → List Nat} {c k : Nat} {x : Hd} (hx : hs[k]? = some x) (h0 : x.cls ≠ 0) : roomS hs fs c (k + 1) = roomS hs fs c k := by
  unfold roomS
  rw [show voidN hs (k + 1) = voidN hs k from by rw [voidN, hx]; simp [h0]]
theorem room_none {p : Option Addr} {w : World} (h : NoSlab w p) (n : Int) : Calls Tryz.prog 15 #[.pointer p, .int .i64 n] w fun e w' => e = .returned (.int .i64 0) ∧ w = w' := by
  have H := Lib.hid (snone_none h)
  clear h
  go_enter Tryz.func15, Tryz.ntmps15
  go_wp2_with fail
  refine H.out.mono ?_
  rintro e w1 ⟨rfl, rfl⟩
  go_wp2
  go_ret
  exact ⟨rfl, rfl⟩
theorem room_arg {w : World} {y : SLay} {hs : List Hd} {fs : Nat → List Nat} (h : SlabMem w y hs fs) {n : Int} (hn : ¬ (1 ≤ n ∧ n ≤ 3)) : Calls Tryz.prog 15 #[fpt y.gs, .int .i64 n] w fun e w' => e = .returned (.int .i64 0) ∧ w = w' := by
  have H := Lib.hid (snone_at h)
  have HC := Lib.hid (sClass_at (inB_no hn) w)
  unfold fpt at H ⊢
  clear h hn
  go_enter Tryz.func15, Tryz.ntmps15
  go_wp2_with fail
  refine H.out.mono ?_
  rintro e w1 ⟨rfl, rfl⟩
  go_wp2_with fail
  refine HC.out.mono ?_
  rintro e w1 ⟨rfl, rfl⟩
  go_wp2
  go_ret
  exact ⟨rfl, rfl⟩
set_option maxRecDepth 100000 in
set_option maxHeartbeats 1600000 in
theorem room_any {w : World} {y : SLay} {hs : List Hd} {fs : Nat → List Nat} (h : SlabMem w y hs fs) (R : RS w y) {c : Nat} (hc1 : 1 ≤ c) (hc3 : c ≤ 3) :
    Calls Tryz.prog 15 #[fpt y.gs, jv c] w fun e w' => e = .returned (jv (roomS hs fs c hs.length)) ∧ Gr w w' := by
  have H := Lib.hid (snone_at h)
  have HC := Lib.hid (sClass_at (n := (c : Int)) (inB_yes ⟨by omega, by omega⟩) w)
  have hfew := h.few c (by omega)
  have HLN := Lib.hid (len_any (h.fre c (by omega)) (by omega))
  have d0 := h.field
  have d1 := h.set4 (c := c) (by omega)
  have hm := h.most
  have HBL := Lib.hid fun (W : World) (hg : Gr w W) => blocks_any (c : Int) W (R.1.gr hg)
  rw [blN_C] at HBL
  have hbl := blN_le c
  have HM := Lib.hid h
  obtain ⟨gs, hgs⟩ : ∃ g, g = y.gs := ⟨_, rfl⟩
  obtain ⟨gf, hgf⟩ : ∃ g, g = y.gf c := ⟨_, rfl⟩
  obtain ⟨gh, hgh⟩ : ∃ g, g = y.gh := ⟨_, rfl⟩
  obtain ⟨N, hN⟩ : ∃ N, N = hs.length := ⟨_, rfl⟩
  obtain ⟨m, hmb⟩ : ∃ m, m = blN c := ⟨_, rfl⟩
  unfold fpt at H d1 ⊢
  unfold jv
  rw [← hgs] at H d0 d1 ⊢
  rw [← hgf] at HLN d1
  rw [← hgh, ← hN] at d0
  rw [← hN] at hm ⊢
  rw [← hmb] at HBL hbl
  have HGH := Lib.hid hgh
  have HMB := Lib.hid hmb
  have HN := Lib.hid hN
  have hst : roomS hs fs c 0 = (fs c).length := by unfold roomS voidN; omega
  have HST := Lib.hid hst.symm
  obtain ⟨F, hF⟩ : ∃ F, F = (fs c).length := ⟨_, rfl⟩
  rw [← hF] at HLN HST hfew
  have HF := Lib.hid hF
  have HBD := Lib.hid (show ∀ k, roomS hs fs c k ≤ F + 15 * k from fun k => by
    unfold roomS
    have := voidN_le hs k
    have := Nat.mul_le_mul (show blN c ≤ 15 from by rw [← hmb]; exact hbl) this
    omega)
  clear h R hgs hgf hgh hN hmb hst hF
  go_enter Tryz.func15, Tryz.ntmps15
  go_wp2_with fail
  refine H.out.mono ?_
  rintro e w1 ⟨rfl, rfl⟩
  go_wp2_with fail
  refine HC.out.mono ?_
  rintro e w1 ⟨rfl, rfl⟩
  go_wp2_with fail
  refine HLN.out.mono ?_
  rintro e w1 ⟨rfl, rfl⟩
  clear d1
  go_wp2
  go_loopw [5, 27] (fun u v wr => ∃ k : Nat, k ≤ N ∧ v = .int .i64 k ∧ u = .int .i64 (roomS hs fs c k) ∧ Gr w wr) (fun _ v _ => N - (intOf v).toNat)
  case atStart => exact ⟨0, Nat.zero_le _, rfl, by rw [← HST.out], Gr.refl _⟩
  case round =>
    obtain ⟨k, hk, rfl, rfl, hg⟩ := hrel
    rename World => wr
    have HG := Lib.hid hg
    clear hg H HC HLN d0
    by_cases hkn : k < N
    · have hx : hs[k]? = some hs[k] := List.getElem?_eq_getElem (by rw [← HN.out]; exact hkn)
      obtain ⟨x, hxe⟩ : ∃ x, x = hs[k]'(by rw [← HN.out]; exact hkn) := ⟨_, rfl⟩
      rw [← hxe] at hx
      have hmr := HM.out.below HG.out.all
      obtain ⟨b0, b1, b2, b3⟩ := hmr.head hx
      rw [← HGH.out] at b0 b1 b2 b3
      have hsl := hmr.blk k x hx
      have HX := Lib.hid hx
      have hgl : gh < wr.heap.size := by
        exact wr.block_lt_of_cell? _ b0
      have hbd := HBD.out k
      obtain ⟨T, hT⟩ : ∃ T, T = roomS hs fs c k := ⟨_, rfl⟩
      rw [← hT] at hbd ⊢
      have HT := Lib.hid hT
      obtain ⟨Av, hv⟩ := hsl.shape
      rw [hv] at b3
      unfold jv at b0 b1
      unfold wv at b2
      clear hx hxe hmr hsl hv hT
      cases hz : decide (x.cls = 0) with
      | false =>
        have hz' : ((x.cls : Int) == 0) = false := by rw [Bool.eq_false_iff]; intro e; have := beq_iff_eq.1 e; have := of_decide_eq_false hz; omega
        have HE := Lib.hid (roomS_else (fs := fs) (c := c) HX.out (of_decide_eq_false hz))
        clear hz
        go_wp2
        go_roundw
        case rel => exact ⟨k + 1, by omega, by go_num, by rw [HE.out, ← HT.out], HG.out.alloc _⟩
        case measure => simp [intOf]; omega
      | true =>
        have hz' : ((x.cls : Int) == 0) = true := by have := of_decide_eq_true hz; simp [this]
        have HE := Lib.hid (roomS_void (fs := fs) (c := c) HX.out (of_decide_eq_true hz))
        clear hz
        go_wp2_with fail
        refine (HBL.out _ (HG.out.alloc _)).mono ?_
        rintro e w5 ⟨rfl, hg5⟩
        have HG5 := Lib.hid ((HG.out.alloc _).trans hg5)
        clear hg5
        go_wp2
        go_roundw
        case rel => exact ⟨k + 1, by omega, by go_num, by rw [HE.out, ← HT.out, ← HMB.out]; go_num, HG5.out⟩
        case measure => simp [intOf]; omega
    · obtain rfl : k = N := by omega
      go_wp2
      go_ret
      exact ⟨rfl, HG.out⟩
end Go.Proofs.YtahojhaeebmpoaaGreatDoor
/- Room, and what Reserve takes of it: plain facts. -/
namespace Go.Proofs.YtahojhaeebmpoaaGreatDoor
open Go.RowKit Go.Sort
set_option linter.unusedVariables false
theorem voidN_same {hs hs' : List Hd} (h : ∀ k : Nat, hs'[k]?.map Hd.cls = hs[k]?.map Hd.cls) (k : Nat) : voidN hs' k = voidN hs k := by
  induction k with
  | zero => rfl
  | succ k ih => rw [voidN, voidN, ih, h k]
theorem voidN_not {hs : List Hd} (h : NoZ hs) (k : Nat) : voidN hs k = 0 := by
  induction k with
  | zero => rfl
  | succ k ih =>
    rw [voidN, ih]
    have : ¬ (hs[k]?.map Hd.cls) = some 0 := by
      intro e
      obtain ⟨z, hz, h0⟩ := Option.map_eq_some_iff.1 e
      exact h k z hz h0
    rw [if_neg this]
/-- One slab with no class gets one. -/
theorem voidN_claim {hs : List Hd} {i c : Nat} {x y : Hd} (hx : hs[i]? = some x) (h0 : x.cls = 0) (hy : y.cls = c) (hc : c ≠ 0) (k : Nat) : voidN hs k = voidN (hs.set i y) k + if i < k then 1 else 0 := by
  have hil := (List.getElem?_eq_some_iff.1 hx).1
  induction k with
  | zero => simp [voidN]
  | succ k ih =>
    rw [voidN, voidN, ih, List.getElem?_set]
    by_cases e : i = k
    · subst e
      rw [if_pos rfl, if_pos hil, hx]
      have h1 : ¬ (some y).map Hd.cls = some 0 := by simp [hy, hc]
      have h2 : (some x).map Hd.cls = some 0 := by simp [h0]
      rw [if_neg h1, if_pos h2, if_neg (show ¬ i < i by omega), if_pos (show i < i + 1 by omega)]
    · rw [if_neg e]
      by_cases h3 : i < k
      · rw [if_pos h3, if_pos (show i < k + 1 by omega)]; omega
      · rw [if_neg h3, if_neg (show ¬ i < k + 1 by omega)]; omega
theorem same_len {hs : List Hd} {f g : Nat → List Nat} (hf : FsOk hs f) (hg : FsOk hs g) (c : Nat) : (f c).length = (g c).length :=
  ((List.perm_ext_iff_of_nodup (hf c).1 (hg c).1).2 fun a => by rw [(hf c).2, (hg c).2]).length_eq
theorem none_free {hs : List Hd} {f : Nat → List Nat} (hf : FsOk hs f) {c : Nat} (h : ∀ a, ¬ FreeB hs c a) : f c = [] :=
  List.eq_nil_iff_forall_not_mem.2 fun a ha => h a (((hf c).2 a).1 ha)
theorem adr_one {no c j k : Nat} (hc : 1 ≤ c) (h : adr no c j = adr no c k) : j = k := by
  unfold adr at h
  have h2 : 64 * c * j = 64 * c * k := by omega
  exact Nat.eq_of_mul_eq_mul_left (by omega) h2
theorem grown_full {no c : Nat} (hc : 1 ≤ c) (k : Nat) : (grown no c 0 [] k).length = k := by
  induction k with
  | zero => rfl
  | succ k ih =>
    unfold grown
    rw [if_neg (by rw [Nat.zero_testBit]; simp)]
    have hn : adr no c k ∉ grown no c 0 [] k := by
      rw [grown_mem]
      rintro (h | ⟨j, hj, _, h⟩)
      · cases h
      · have := adr_one hc h; omega
    unfold ins
    rw [if_neg hn, List.length_cons, ih]
/-- A free block that is taken: one less. -/
theorem room_less {hs : List Hd} {f f' : Nat → List Nat} {c i j N : Nat} {x : Hd} (ok : HsOk hs) (hm : hs.length ≤ 64) (hf : FsOk hs f) (hx : hs[i]? = some x) (hc : x.cls = c) (hj : x.bl[j]? = some 0)
    (hf' : FsOk (hs.set i { x with bl := x.bl.set j 1 }) f') : roomS (hs.set i { x with bl := x.bl.set j 1 }) f' c N + 1 = roomS hs f c N := by
  have hil := (List.getElem?_eq_some_iff.1 hx).1
  have ht := hf.take ok hm hx hj (v := 1) (by decide)
  have e := same_len hf' ht c
  rw [hc, updF_at] at e
  have hmem : adr x.no c j ∈ f c := ((hf c).2 _).2 ⟨i, j, x, hx, hc, hj, rfl⟩
  rw [List.length_erase_of_mem hmem] at e
  have hpos := List.length_pos_of_mem hmem
  have hv : voidN (hs.set i { x with bl := x.bl.set j 1 }) N = voidN hs N := voidN_same (fun k => by
    rw [List.getElem?_set]
    by_cases e : i = k
    · subst e; rw [if_pos rfl, if_pos hil, hx]; rfl
    · rw [if_neg e]) N
  unfold roomS
  rw [hv, e]
  omega
/-- What Reserve does to the room: one less; or there was none. -/
theorem room_took {hs hs1 hs' : List Hd} {f f' : Nat → List Nat} {c : Nat} {e : Ending} (ok : HsOk hs) (hm : hs.length ≤ 64) (hf : FsOk hs f) (hc1 : 1 ≤ c) (hc3 : c ≤ 3) (hcl : Claimed hs hs1 c) (ht : Took hs1 hs' c e) (hf' : FsOk hs' f') :
    hs'.length = hs.length ∧ (((∃ i j x, hs1[i]? = some x ∧ x.cls = c ∧ x.bl[j]? = some 0 ∧ hs' = hs1.set i { x with bl := x.bl.set j 1 } ∧ e = .returned (.tuple #[wv (adr x.no c j), .int .i64 0])) ∧ roomS hs' f' c hs.length + 1 = roomS hs f c hs.length) ∨
      (hs' = hs ∧ e = .returned (.tuple #[.int .u64 0, .int .i64 4]) ∧ roomS hs f c hs.length = 0)) := by
  rcases hcl with ⟨⟨a, hfa⟩, rfl⟩ | ⟨hz, ⟨i0, x0, hfz, hx0, rfl⟩ | ⟨hnz, rfl⟩⟩
  · rcases ht with ⟨i, j, x, hx, hxc, hj, hle, rfl, rfl⟩ | ⟨hno, _, _⟩
    · exact ⟨by rw [List.length_set], .inl ⟨⟨i, j, x, hx, hxc, hj, rfl, rfl⟩, room_less ok hm hf hx hxc hj hf'⟩⟩
    · exact absurd hfa (hno a)
  · have h0 : x0.cls = 0 := by
      obtain ⟨x', hx', h0⟩ := hfz.1
      rw [hx0] at hx'
      cases hx'
      exact h0
    have hl0 : x0.bl.length = 0 := by rw [(ok i0 x0 hx0).2, h0]; rfl
    have hil := (List.getElem?_eq_some_iff.1 hx0).1
    have hf1 := hf.claim (c := c) hx0 h0 hl0
    have ok1 : HsOk (hs.set i0 ⟨x0.no, c, 0, blK (blN c) 0 (blN c)⟩) := ok.claim hx0
    have hroom : roomS (hs.set i0 ⟨x0.no, c, 0, blK (blN c) 0 (blN c)⟩) (updF f c (grown x0.no c 0 (f c) (blN c))) c hs.length = roomS hs f c hs.length := by
      have hv := voidN_claim (c := c) (y := ⟨x0.no, c, 0, blK (blN c) 0 (blN c)⟩) hx0 h0 rfl (by omega) hs.length
      rw [if_pos hil] at hv
      unfold roomS
      rw [updF_at, none_free hf hz, grown_full hc1, hv, Nat.mul_add, Nat.mul_one, List.length_nil]
      omega
    rcases ht with ⟨i, j, x, hx, hxc, hj, hle, rfl, rfl⟩ | ⟨hno, _, _⟩
    · refine ⟨by simp only [List.length_set], .inl ⟨⟨i, j, x, hx, hxc, hj, rfl, rfl⟩, ?_⟩⟩
      rw [← hroom]
      exact room_less ok1 (by rw [List.length_set]; exact hm) hf1 hx hxc hj hf'
    · refine absurd ?_ (hno (adr x0.no c 0))
      have hb : 0 < blN c := by
        have : ∀ d : Nat, d = 1 ∨ d = 2 ∨ d = 3 → 0 < blN d := by rintro d (rfl | rfl | rfl) <;> decide
        exact this c (by omega)
      refine ⟨i0, 0, ⟨x0.no, c, 0, blK (blN c) 0 (blN c)⟩, by rw [List.getElem?_set, if_pos rfl, if_pos hil], rfl, ?_, rfl⟩
      show (blK (blN c) 0 (blN c))[0]? = some 0
      rw [blK_get hb, Nat.zero_testBit]; simp
  · rcases ht with ⟨i, j, x, hx, hxc, hj, hle, rfl, rfl⟩ | ⟨hno, rfl, rfl⟩
    · exact absurd ⟨i, j, x, hx, hxc, hj, rfl⟩ (hz (adr x.no c j))
    · refine ⟨rfl, .inr ⟨rfl, rfl, ?_⟩⟩
      unfold roomS
      rw [none_free hf hz, voidN_not hnz]; rfl
end Go.Proofs.YtahojhaeebmpoaaGreatDoor
