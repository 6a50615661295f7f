/- Texts of this claim, packed: LTurn, LPub, LStep, LGame, LPlace, LBits, LSBits, LFence, LWhole, HoK. -/
import Derived.Test.YtkbklooocdfcfaaGreatDoorPz39
import Derived.Test.YtkbklooocdfcfaaGreatDoorPz32
import Derived.Test.YtkbklooocdfcfaaGreatDoorPz27
import Derived.Laws.EntriesVeiled
set_option linter.unusedVariables false
set_option maxRecDepth 100000
set_option maxHeartbeats 6400000
namespace Go.Proofs.YtkbklooocdfcfaaGreatDoor
open Go.RowKit Go.Sort
theorem isAt_one {hs : List Hd} (ok : HsOk hs) (hm : hs.length <= 64) {a u v : Nat} (h : isAt hs a u) (h' : isAt hs a v) : u = v := by
 rcases h with ⟨i, j, x, hx, hj, ha, hb⟩ | ⟨hn, rfl⟩
 ·rcases h' with ⟨i', j', x', hx', hj', ha', hb'⟩ | ⟨hn, _⟩
  ·obtain ⟨rfl, rfl⟩ := found_one ok hm ⟨x, hx, hj, ha⟩ ⟨x', hx', hj', ha'⟩
   rw [hx] at hx'
   cases hx'
   rw [hb] at hb'
   exact Option.some.inj hb'
  ·exact absurd ⟨x, hx, hj, ha⟩ (hn i j)
 ·rcases h' with ⟨i', j', x', hx', hj', ha', hb'⟩ | ⟨_, rfl⟩
  ·exact absurd ⟨x', hx', hj', ha'⟩ (hn i' j')
  ·rfl
def fitsM (nl n : Nat) (c : Int) : Bool := decide (64 * nl = 1024 * (n + 1)) && inB c 0 64
theorem refused_is {w : World} {y : SLay} {hs : List Hd} {fs : Nat -> List Nat} (h : SlabMem w y hs fs) (ok : HsOk hs) (R : Rms w) {ym : Lay} {s : St} (hm : MemAt w ym s) {c : Int} (hf : fitsM s.nl hs.length c = true) {a v is : Nat} (hv : isAt hs a v) :
  Calls Tryz.prog 81 #[fpt y.gs, fpt ym.g, .int .i64 c, wv a, jv is] w fun e w' => e = .returned (.int .i64 (if v = is then 0 else 7)) /\ Below w.heap.size w w' := by
 have H := Lib.hid (snone_at h)
 have HZ := Lib.hid (size_yes hm)
 have HN := Lib.hid (slabs_at h)
 have HG := Lib.hid (size_any (hs.length : Int) w)
 have hpos := h.pos
 have hmost := h.most
 have e1 : sizeN (hs.length : Int) = ((1024 * (hs.length + 1) : Nat) : Int) := by unfold sizeN; rw [if_pos (by omega)]; omega
 rw [e1] at HG
 have hz0 : (((64 * s.nl : Nat) : Int) == 0) = false := by rw [Bool.eq_false_iff]; intro k; have := beq_iff_eq.1 k; have := hm.pos; omega
 have hns := hm.most
 have hi0 := is_any h ok R a
 have hi1 : Calls Tryz.prog 33 #[fpt y.gs, wv a] w fun e w' => e = .returned (.int .i64 (v : Int)) /\ Below w.heap.size w w' := hi0.mono fun e w' ⟨⟨u, hu, he⟩, hb⟩ => by
  obtain rfl := isAt_one ok hmost hu hv
  exact ⟨he, hb⟩
 have HI := Lib.hid hi1
 unfold fpt at H HN HI ⊢
 unfold wv at HI ⊢
 unfold jv
 unfold fitsM at hf
 simp only [Bool.and_eq_true, decide_eq_true_eq] at hf
 obtain ⟨hs1, hf⟩ := hf
 have HC := Lib.hid (sClient_at hf w)
 generalize hs.length = n at *
 obtain ⟨gs, hgs⟩ : ∃ g, g = y.gs := ⟨_, rfl⟩
 obtain ⟨gm, hgm⟩ : ∃ g, g = ym.g := ⟨_, rfl⟩
 rw [<- hgs] at H HN HI ⊢
 rw [<- hgm] at HZ ⊢
 rw [hs1] at HZ hz0
 have hne : (((1024 * (n + 1) : Nat) : Int) != ((1024 * (n + 1) : Nat) : Int)) = false := by simp
 obtain ⟨Z, hZ⟩ : ∃ Z, Z = 1024 * (n + 1) := ⟨_, rfl⟩
 rw [<- hZ] at HZ hz0 HG hne
 clear h ok R hm hgs hgm e1 hi0 hi1 hs1 hf hZ hv
 by_cases hvi : v = is
 ·rw [if_pos hvi]
  have hd : ((v : Int) != (is : Int)) = false := by rw [hvi]; simp
  clear hvi
  go_enter Tryz.func81, Tryz.ntmps81
  go_wp2_with fail
  refine H.out.mono ?_
  rintro e w1 ⟨rfl, rfl⟩
  go_wp2_with fail
  refine HZ.out.mono ?_
  rintro e w1 ⟨rfl, rfl⟩
  go_wp2_with fail
  refine HZ.out.mono ?_
  rintro e w1 ⟨rfl, rfl⟩
  go_wp2_with fail
  refine HN.out.mono ?_
  rintro e w1 ⟨rfl, rfl⟩
  go_wp2_with fail
  refine HG.out.mono ?_
  rintro e w1 ⟨rfl, rfl⟩
  go_wp2_with fail
  refine HC.out.mono ?_
  rintro e w1 ⟨rfl, rfl⟩
  go_wp2_with fail
  refine HI.out.mono ?_
  rintro e w1 ⟨rfl, hb⟩
  have HB := Lib.hid hb
  clear hb
  go_wp2
  go_ret
  exact ⟨rfl, HB.out⟩
 ·rw [if_neg hvi]
  have hd : ((v : Int) != (is : Int)) = true := by rw [bne_iff_ne]; omega
  clear hvi
  go_enter Tryz.func81, Tryz.ntmps81
  go_wp2_with fail
  refine H.out.mono ?_
  rintro e w1 ⟨rfl, rfl⟩
  go_wp2_with fail
  refine HZ.out.mono ?_
  rintro e w1 ⟨rfl, rfl⟩
  go_wp2_with fail
  refine HZ.out.mono ?_
  rintro e w1 ⟨rfl, rfl⟩
  go_wp2_with fail
  refine HN.out.mono ?_
  rintro e w1 ⟨rfl, rfl⟩
  go_wp2_with fail
  refine HG.out.mono ?_
  rintro e w1 ⟨rfl, rfl⟩
  go_wp2_with fail
  refine HC.out.mono ?_
  rintro e w1 ⟨rfl, rfl⟩
  go_wp2_with fail
  refine HI.out.mono ?_
  rintro e w1 ⟨rfl, hb⟩
  have HB := Lib.hid hb
  clear hb
  go_wp2
  go_ret
  exact ⟨rfl, HB.out⟩
def tcells (gs gm : Nat) (c : Int) (gh i j : Nat) (pl : Value) (done : Bool) (code : Int) : Array Value :=
 #[fpt gs, fpt gm, .int .i64 c, .pointer (some ⟨gh, i * 4, none⟩), jv j, pl, .bool done, .int .i64 code]
def place (f : FuncId) (gt : Nat) : Value := .func (.func f) #[fpt gt] #[]
theorem turn_any {w : World} {y : SLay} {hs : List Hd} {fs : Nat -> List Nat} (h : SlabMem w y hs fs) (ok : HsOk hs) (R : RS w y) {i j a : Nat} {x : Hd} (hx : hs[i]? = some x) (hj : j < x.bl.length) (ha : adr x.no x.cls j = a) (gm : Nat) (c : Int) (is : Nat) :
  Calls Tryz.prog 82 #[fpt y.gs, fpt gm, .int .i64 c, wv a, jv is] w fun e w' => ∃ gt, e = .returned (fpt gt) /\ Row w' gt 169 (tcells y.gs gm c y.gh i j (place 121 gt) false 0) /\ w.heap.size <= gt /\ SlabMem w' y (hs.set i { x with bl := x.bl.set j is }) fs /\ STurn w w' y y := by
 have hf0 : Found hs a i j := ⟨x, hx, hj, ha⟩
 have HF := Lib.hid (find_any h ok R.1 a)
 have HM := Lib.hid h
 have HO := Lib.hid ok
 have HX := Lib.hid hx
 have HJ := Lib.hid hj
 have HF0 := Lib.hid hf0
 obtain ⟨gs, hgs⟩ : ∃ g, g = y.gs := ⟨_, rfl⟩
 obtain ⟨gh, hgh⟩ : ∃ g, g = y.gh := ⟨_, rfl⟩
 unfold fpt at HF
 unfold wv at HF ⊢
 rw [<- hgs] at HF ⊢
 rw [<- hgh]
 have HGH := Lib.hid hgh
 clear h ok R hx hj ha hf0 hgs hgh
 unfold fpt jv
 go_enter Tryz.func82, Tryz.ntmps82
 go_wp2_with fail
 refine HF.out.mono ?_
 rintro e w1 ⟨hf, hb⟩
 have HB := Lib.hid hb
 rcases hf with ⟨i', j', hf', rfl⟩ | ⟨hn, rfl⟩
 ·obtain ⟨rfl, rfl⟩ := found_one HO.out HM.out.most hf' HF0.out
  have hm1 := HM.out.below hb
  have hl15 := (HM.out.lens x (List.mem_of_getElem? HX.out)).1
  have hxl := HJ.out
  obtain ⟨g, hsh, hrow⟩ := (hm1.blk i' x HX.out).pos (by omega)
  have hown : (y.bv i').ownBlock = some g := by rw [hsh]; rfl
  have c3 := (hm1.head HX.out).2.2.2
  rw [hsh, <- HGH.out] at c3
  have cj := hrow.cell j'
  rw [List.getElem?_toArray, List.getElem?_map, List.getElem?_eq_getElem hxl, Option.map_some] at cj
  obtain ⟨u, cj'⟩ : ∃ u, w1.cell? ⟨g, j', none⟩ = some u := ⟨_, cj⟩
  have fj := hrow.free j'
  obtain ⟨hp, tp⟩ := hm1.put_bl (j := j') HX.out hown is
  have HP := Lib.hid hp
  have HT := Lib.hid ((STurn.of_below y hb).trans tp)
  rw [<- HGH.out]
  clear hf' hb hm1 hsh hrow hown hp tp HF cj
  generalize x.bl.length = q at *
  unfold jv at HP HT ⊢
  go_upto_region 4 with (fail)
  obtain ⟨W2, hW2⟩ : ∃ W2, W2 = (w1.setCell ⟨g, j', none⟩ (.int .i64 (is : Int))).alloc (.cells #[.pointer (some ⟨gs, 0, none⟩), .pointer (some ⟨gm, 0, none⟩), .int .i64 c, .pointer (some ⟨gh, i' * 4, none⟩), .int .i64 (j' : Int), Value.nilFunc, .bool false, .int .i64 0] 169) := ⟨_, rfl⟩
  rw [<- hW2]
  obtain ⟨gt, hgt⟩ : ∃ gt, gt = w1.heap.size := ⟨_, rfl⟩
  rw [<- hgt]
  have hrt : Row W2 gt 169 #[.pointer (some ⟨gs, 0, none⟩), .pointer (some ⟨gm, 0, none⟩), .int .i64 c, .pointer (some ⟨gh, i' * 4, none⟩), .int .i64 (j' : Int), Value.nilFunc, .bool false, .int .i64 0] := by
   rw [hW2]
   exact rowAt (by rw [size_set]; exact hgt)
  have c5 := hrt.cell 5
  simp only [List.getElem?_toArray, List.getElem?_cons_succ, List.getElem?_cons_zero] at c5
  have f5 := hrt.free 5
  have hg2 : w.heap.size <= gt := by rw [hgt]; exact HB.out.size
  have HE := Lib.hid (show Row (W2.setCell ⟨gt, 5, none⟩ (.func (.func 121) #[.pointer (some ⟨gt, 0, none⟩)] #[])) gt 169 (tcells gs gm c gh i' j' (place 121 gt) false 0) /\ w.heap.size <= gt /\ SlabMem (W2.setCell ⟨gt, 5, none⟩ (.func (.func 121) #[.pointer (some ⟨gt, 0, none⟩)] #[])) y (hs.set i' { x with bl := x.bl.set j' is }) fs /\ STurn w (W2.setCell ⟨gt, 5, none⟩ (.func (.func 121) #[.pointer (some ⟨gt, 0, none⟩)] #[])) y y from by
   have b2 : Below (w1.setCell ⟨g, j', none⟩ (.int .i64 (is : Int))).heap.size (w1.setCell ⟨g, j', none⟩ (.int .i64 (is : Int))) (W2.setCell ⟨gt, 5, none⟩ (.func (.func 121) #[.pointer (some ⟨gt, 0, none⟩)] #[])) := by
    rw [hW2]
    exact ((Below.refl _ _).alloc (Nat.le_refl _) _).setCell (p := ⟨gt, 5, none⟩) (by rw [size_set, hgt]; exact Nat.le_refl _) _
   exact ⟨hrt.set 5 _, hg2, HP.out.below b2, HT.out.trans (STurn.of_below y b2)⟩)
  clear hW2 hgt hrt hg2 cj' fj c3
  go_wp2
  go_ret
  exact ⟨gt, rfl, HE.out⟩
 ·exact absurd HF0.out (hn i j)
def Began (w : World) (y : SLay) (hs : List Hd) (fs : Nat -> List Nat) (i j : Nat) (x : Hd) (gm : Nat) (c : Int) (is : Nat) (e : Ending) (w' : World) : Prop :=
 ∃ gt, e = .returned (.tuple #[fpt gt, .int .i64 0]) /\ Row w' gt 169 (tcells y.gs gm c y.gh i j (place 121 gt) false 0) /\ w.heap.size <= gt /\ SlabMem w' y (hs.set i { x with bl := x.bl.set j is }) fs /\ STurn w w' y y
theorem publish_ok {w : World} {y : SLay} {hs : List Hd} {fs : Nat -> List Nat} (h : SlabMem w y hs fs) (ok : HsOk hs) (R : RS w y) {ym : Lay} {s : St} (hm : MemAt w ym s) {c : Int} (hf : fitsM s.nl hs.length c = true) {i j a : Nat} {x : Hd} (hx : hs[i]? = some x) (hj : x.bl[j]? = some 1) (ha : adr x.no x.cls j = a) :
  Calls Tryz.prog 42 #[fpt y.gs, fpt ym.g, .int .i64 c, wv a] w (Began w y hs fs i j x ym.g c 4) := by
 have hjl := (List.getElem?_eq_some_iff.1 hj).1
 have hv : isAt hs a 1 := .inl ⟨i, j, x, hx, hjl, ha, hj⟩
 have HR0 := refused_is h ok R.1 hm hf (is := 1) hv
 rw [if_pos rfl] at HR0
 have HT := Lib.hid fun (W : World) (hb : Below w.heap.size w W) => turn_any (h.below hb) ok (R.below hb) hx hjl ha ym.g c 4
 have HK := Lib.hid (show ∀ (W W' : World) (gt : Nat), Below w.heap.size w W -> (Row W' gt 169 (tcells y.gs ym.g c y.gh i j (place 121 gt) false 0) /\ W.heap.size <= gt /\ SlabMem W' y (hs.set i { x with bl := x.bl.set j 4 }) fs /\ STurn W W' y y) -> Began w y hs fs i j x ym.g c 4 (.returned (.tuple #[fpt gt, .int .i64 0])) W' from fun W W' gt hb ⟨h1, h2, h3, h4⟩ => ⟨gt, rfl, h1, Nat.le_trans hb.size h2, h3, (STurn.of_below y hb).trans h4⟩)
 have HR := Lib.hid HR0
 obtain ⟨gs, hgs⟩ : ∃ g, g = y.gs := ⟨_, rfl⟩
 obtain ⟨gm, hgm⟩ : ∃ g, g = ym.g := ⟨_, rfl⟩
 unfold fpt wv jv at HR
 rw [<- hgs, <- hgm] at HR HT ⊢
 rw [<- hgs, <- hgm] at HK
 unfold fpt wv jv at HT
 unfold fpt wv
 unfold fpt at HK
 rw [show (((1 : Nat)) : Int) = 1 from rfl] at HR
 rw [show (((4 : Nat)) : Int) = 4 from rfl] at HT
 clear h ok R hm hf hx hj ha hjl hv HR0 hgm hgs
 go_enter Tryz.func42, Tryz.ntmps42
 go_wp2_with fail
 refine HR.out.mono ?_
 rintro e w1 ⟨rfl, hb⟩
 have HB := Lib.hid hb
 have HT1 := Lib.hid (HT.out w1 hb)
 clear hb HR HT
 go_wp2_with fail
 refine HT1.out.mono ?_
 rintro e w2 ⟨gt, rfl, hrest⟩
 have HE := Lib.hid (HK.out w1 w2 gt HB.out hrest)
 clear hrest
 go_wp2
 go_ret2
 exact HE.out
end Go.Proofs.YtkbklooocdfcfaaGreatDoor
namespace Go.Proofs.YtkbklooocdfcfaaGreatDoor
open Go.RowKit Go.Sort
attribute [local go_sem] Oper.semAt_some
theorem eqFn6 (w : World) (g : Nat) (fi lb : Array Value) : (binOp .eql 49 (.func (.func g) fi lb) .nilFunc).run Tryz.prog w = .ok (.bool false) w := by kernel_rfl
theorem guardFn6 (w : World) (g : Nat) (fi lb : Array Value) (x : Operand) : (eqGuard .eql 49 x (.const .nilFunc) (.func (.func g) fi lb) .nilFunc).run Tryz.prog w = .ok () w := by kernel_rfl
def stepW (w1 : World) (gt : Nat) (d : Bool) (k : Int) : World := (w1.setCell ⟨gt, 7, none⟩ (.int .i64 k)).setCell ⟨gt, 6, none⟩ (.bool d)
def TStepPost (P : World -> Prop) (gt : Nat) (d : Bool) (k : Int) (e : Ending) (w' : World) : Prop := e = .returned (.tuple #[.bool d, .int .i64 k]) /\ ∃ w1, P w1 /\ Below (stepW w1 gt d k).heap.size (stepW w1 gt d k) w'
theorem step_of {w : World} {gs gm gh i j gt : Nat} {c code code' : Int} {f f' : Nat} {d' : Bool} {P : World -> Prop} (hcall : ∀ (w : World) (v : Value), (callFunc f #[v]).run Tryz.prog w = .ok (.enter f #[v]) w) (hr : Row w gt 169 (tcells gs gm c gh i j (place f gt) false code))
  (H : Calls Tryz.prog f #[fpt gt] w fun e w' => e = .returned (.int .i64 0) /\ Row w' gt 169 (tcells gs gm c gh i j (place f' gt) d' code') /\ P w') :
  Calls Tryz.prog 43 #[fpt gt] w (TStepPost P gt d' 0) := by
 have mixed : Tryz.prog.follows .mixedOrders = true := by kernel_rfl
 have c5 := hr.cell 5
 have c6 := hr.cell 6
 simp only [tcells, List.getElem?_toArray, List.getElem?_cons_succ, List.getElem?_cons_zero] at c5 c6
 unfold place fpt at c5
 have q1 := fun w => eqFn6 w f #[.pointer (some ⟨gt, 0, none⟩)] #[]
 have q2 := fun w => guardFn6 w f #[.pointer (some ⟨gt, 0, none⟩)] #[] (.tmp 11)
 have H := Lib.hid H
 unfold fpt at H ⊢
 clear hr
 go_enter Tryz.func43, Tryz.ntmps43
 go_wp2_with fail
 refine H.out.mono ?_
 rintro e w1 ⟨rfl, hr1, hp⟩
 have d6 := hr1.cell 6
 have d7 := hr1.cell 7
 simp only [tcells, List.getElem?_toArray, List.getElem?_cons_succ, List.getElem?_cons_zero] at d6 d7
 have g6 := hr1.free 6
 have g7 := hr1.free 7
 have HP := Lib.hid hp
 have HR := Lib.hid hr1
 clear hp hr1 c5 c6 q1 q2 H
 cases d' with
 | true =>
  go_wp2_with fail
  obtain ⟨W2, hW2⟩ : ∃ W2, W2 = (w1.setCell ⟨gt, 7, none⟩ (.int .i64 0)).setCell ⟨gt, 6, none⟩ (.bool true) := ⟨_, rfl⟩
  rw [<- hW2]
  have hrw : Row W2 gt 169 ((tcells gs gm c gh i j (place f' gt) true code').setIfInBounds 7 (.int .i64 0) |>.setIfInBounds 6 (.bool true)) := by rw [hW2]; exact (HR.out.set 7 _).set 6 _
  have k6 := hrw.cell 6
  have k7 := hrw.cell 7
  simp only [tcells, List.setIfInBounds_toArray, List.set_cons_succ, List.set_cons_zero, List.getElem?_toArray, List.getElem?_cons_succ, List.getElem?_cons_zero] at k6 k7
  have ca := fun p : LowBy W2 => p.cell k6
  have cb := fun p : LowBy W2 => p.cell k7
  have HW := Lib.hid hW2
  clear hrw k6 k7 hW2 d6 d7 g6 g7
  refine wp_region_quiet_low (by assumption) (by kernel_rfl) ?_
  repeat (go_big_quiet_step (fail))
  refine wpQuiet_nil ?_
  intro _ hw'
  obtain ⟨p, hw''⟩ := hw'
  subst hw''
  have hp := Lib.hid p.low
  clear ca cb
  go_wp2
  go_ret2
  exact ⟨rfl, w1, HP.out, by unfold stepW; rw [<- HW.out]; exact hp.out⟩
 | false =>
  go_wp2_with fail
  obtain ⟨W2, hW2⟩ : ∃ W2, W2 = (w1.setCell ⟨gt, 7, none⟩ (.int .i64 0)).setCell ⟨gt, 6, none⟩ (.bool false) := ⟨_, rfl⟩
  rw [<- hW2]
  have hrw : Row W2 gt 169 ((tcells gs gm c gh i j (place f' gt) false code').setIfInBounds 7 (.int .i64 0) |>.setIfInBounds 6 (.bool false)) := by rw [hW2]; exact (HR.out.set 7 _).set 6 _
  have k6 := hrw.cell 6
  have k7 := hrw.cell 7
  simp only [tcells, List.setIfInBounds_toArray, List.set_cons_succ, List.set_cons_zero, List.getElem?_toArray, List.getElem?_cons_succ, List.getElem?_cons_zero] at k6 k7
  have ca := fun p : LowBy W2 => p.cell k6
  have cb := fun p : LowBy W2 => p.cell k7
  have HW := Lib.hid hW2
  clear hrw k6 k7 hW2 d6 d7 g6 g7
  refine wp_region_quiet_low (by assumption) (by kernel_rfl) ?_
  repeat (go_big_quiet_step (fail))
  refine wpQuiet_nil ?_
  intro _ hw'
  obtain ⟨p, hw''⟩ := hw'
  subst hw''
  have hp := Lib.hid p.low
  clear ca cb
  go_wp2
  go_ret2
  exact ⟨rfl, w1, HP.out, by unfold stepW; rw [<- HW.out]; exact hp.out⟩
end Go.Proofs.YtkbklooocdfcfaaGreatDoor
namespace Go.Proofs.YtkbklooocdfcfaaGreatDoor
open Go.RowKit Go.Sort
structure Game (w : World) (ym : Lay) (s : St) (y : SLay) (hs : List Hd) (fs : Nat -> List Nat) : Prop where
 pm : MemAt w ym s
 ok : s.Ok
 mem : SlabMem w y hs fs
 ho : HsOk hs
 fo : FsOk hs fs
 rs : RS w y
 rm : ¬ ym.fp 0
 size : 64 * s.nl = 1024 * (hs.length + 1)
structure GTurn (w w' : World) (ym ym' : Lay) (y y' : SLay) (gt : Nat) : Prop where
 g : ym'.g = ym.g
 gs : y'.gs = y.gs
 gh : y'.gh = y.gh
 gf : y'.gf = y.gf
 but : But w w' (fun k => ym.fp k \/ y.fp k \/ k = gt)
 fm : ∀ k, ym'.fp k -> ym.fp k \/ w.heap.size <= k
 fy : ∀ k, y'.fp k -> y.fp k \/ w.heap.size <= k
theorem GTurn.trans {w w1 w2 : World} {ym ym1 ym2 : Lay} {y y1 y2 : SLay} {gt : Nat} (h : GTurn w w1 ym ym1 y y1 gt) (h2 : GTurn w1 w2 ym1 ym2 y1 y2 gt) : GTurn w w2 ym ym2 y y2 gt := by
 refine ⟨h2.g.trans h.g, h2.gs.trans h.gs, h2.gh.trans h.gh, h2.gf.trans h.gf, h.but.trans h2.but fun k hk => ?_, fun k hk => ?_, fun k hk => ?_⟩
 ·rcases hk with hk | hk | hk
  ·rcases h.fm k hk with h1 | h1
   ·exact .inl (.inl h1)
   ·exact .inr h1
  ·rcases h.fy k hk with h1 | h1
   ·exact .inl (.inr (.inl h1))
   ·exact .inr h1
  ·exact .inl (.inr (.inr hk))
 ·rcases h2.fm k hk with h1 | h1
  ·exact h.fm k h1
  ·exact .inr (Nat.le_trans h.but.size h1)
 ·rcases h2.fy k hk with h1 | h1
  ·exact h.fy k h1
  ·exact .inr (Nat.le_trans h.but.size h1)
theorem GTurn.of_mem {w w' : World} {ym ym' : Lay} (y : SLay) (gt : Nat) (t : Turn w w' ym ym') : GTurn w w' ym ym' y y gt := ⟨t.g, rfl, rfl, rfl, t.but.mono fun k h => .inl h, t.fp, fun _ h => .inl h⟩
theorem GTurn.of_slab {w w' : World} (ym : Lay) {y y' : SLay} (gt : Nat) (t : STurn w w' y y') : GTurn w w' ym ym y y' gt := ⟨rfl, t.gs, t.gh, t.gf, t.but.mono fun k h => .inr (.inl h), fun _ h => .inl h, t.fp⟩
theorem GTurn.of_below {w w' : World} (ym : Lay) (y : SLay) (gt : Nat) (h : Below w.heap.size w w') : GTurn w w' ym ym y y gt := ⟨rfl, rfl, rfl, rfl, But.of_below h _, fun _ h => .inl h, fun _ h => .inl h⟩
theorem GTurn.of_set (w : World) (ym : Lay) (y : SLay) (gt k : Nat) (v : Value) : GTurn w (w.setCell ⟨gt, k, none⟩ v) ym ym y y gt :=
 ⟨rfl, rfl, rfl, rfl, ((But.refl w (fun k => ym.fp k \/ y.fp k \/ k = gt)).set (p := ⟨gt, k, none⟩) (.inr (.inr rfl)) v), fun _ h => .inl h, fun _ h => .inl h⟩
section
variable {w w' : World} {ym ym' : Lay} {s s' : St} {y y' : SLay} {hs hs' : List Hd} {fs fs' : Nat -> List Nat} {gt : Nat} {cs : Array Value}
theorem Game.below (G : Game w ym s y hs fs) (hb : Below w.heap.size w w') : Game w' ym s y hs fs :=
 ⟨G.pm.below hb, G.ok, G.mem.below hb, G.ho, G.fo, G.rs.below hb, G.rm, G.size⟩
theorem Game.apart (G : Game w ym s y hs fs) (hr : Row w gt 169 cs) : ¬ ym.fp gt /\ ¬ y.fp gt := by
 refine ⟨G.pm.apart_tag hr.tag (by decide) (by decide) (by decide) (by decide), fun h => ?_⟩
 rcases G.mem.tag h with h' | h' | h' | h' | h' <;> exact absurd (hr.tag.same h') (by decide)
theorem Game.set (G : Game w ym s y hs fs) (hr : Row w gt 169 cs) (hg : gt ≠ 0) (k : Nat) (v : Value) : Game (w.setCell ⟨gt, k, none⟩ v) ym s y hs fs := by
 have hb : But w (w.setCell ⟨gt, k, none⟩ v) (fun q => q = gt) := (But.refl w (fun q => q = gt)).set (p := ⟨gt, k, none⟩) (by rfl) v
 have ha := G.apart hr
 refine ⟨G.pm.but hb fun q hq e => ?_, G.ok, G.mem.keep hb fun q hq e => ?_, G.ho, G.fo, ⟨G.rs.1.but hb (Ne.symm hg), G.rs.2⟩, G.rm, G.size⟩
 ·subst e; exact ha.1 hq
 ·subst e; exact ha.2 hq
theorem Game.onMem (G : Game w ym s y hs fs) (hm : MemAt w' ym' s') (ok : s'.Ok) (hn : s'.nl = s.nl) (t : Turn w w' ym ym') : Game w' ym' s' y hs fs := by
 have R := RM.turn ⟨G.rs.1, G.rm⟩ t
 exact ⟨hm, ok, G.mem.mem G.pm t, G.ho, G.fo, ⟨R.1, G.rs.2⟩, R.2, by rw [hn]; exact G.size⟩
theorem Game.onSlab (G : Game w ym s y hs fs) (hm : SlabMem w' y' hs' fs') (ho : HsOk hs') (fo : FsOk hs' fs') (hl : hs'.length = hs.length) (t : STurn w w' y y') : Game w' ym s y' hs' fs' :=
 ⟨G.pm.slab G.mem t, G.ok, hm, ho, fo, G.rs.turn t, G.rm, by rw [hl]; exact G.size⟩
theorem Row.onMem (hr : Row w gt 169 cs) (G : Game w ym s y hs fs) (t : Turn w w' ym ym') : Row w' gt 169 cs := t.but.row hr (G.apart hr).1
theorem Row.onSlab (hr : Row w gt 169 cs) (G : Game w ym s y hs fs) (t : STurn w w' y y') : Row w' gt 169 cs := t.but.row hr (G.apart hr).2
end
theorem head_addr {ym : Lay} {w : World} {s : St} {y : SLay} {hs : List Hd} {fs : Nat -> List Nat} (G : Game w ym s y hs fs) {i : Nat} {x : Hd} (hx : hs[i]? = some x) : 1 <= x.no /\ x.no <= 64 /\ 1024 * x.no + 64 <= 64 * s.nl /\ hdA (x.no : Int) = ((1024 * x.no : Nat) : Int) := by
 have h1 := (G.ho i x hx).1
 have h2 := (List.getElem?_eq_some_iff.1 hx).1
 have h3 := G.mem.most
 have h4 := G.size
 refine ⟨by omega, by omega, by omega, ?_⟩
 unfold hdA
 rw [if_pos (by omega)]
 omega
def TAt (w : World) (ym : Lay) (y : SLay) (gt : Nat) (c : Int) (i j : Nat) (f : FuncId) (d : Bool) (code : Int) : Prop := Row w gt 169 (tcells y.gs ym.g c y.gh i j (place f gt) d code)
theorem TAt.turn {w w' : World} {ym ym' : Lay} {y y' : SLay} {gt i j : Nat} {c code : Int} {f : FuncId} {d : Bool} (h : Row w' gt 169 (tcells y.gs ym.g c y.gh i j (place f gt) d code)) (t : GTurn w w' ym ym' y y' gt) : TAt w' ym' y' gt c i j f d code := by
 unfold TAt
 rw [t.g, t.gs, t.gh]
 exact h
def PlacePost (w : World) (ym : Lay) (y : SLay) (gt : Nat) (c : Int) (i j : Nat) (f : FuncId) (d : Bool) (code : Int) (s' : St) (hs' : List Hd) (w' : World) : Prop :=
 ∃ ym' y' fs', Game w' ym' s' y' hs' fs' /\ TAt w' ym' y' gt c i j f d code /\ GTurn w w' ym ym' y y' gt
theorem tcells_set (gs gm gh i j gt : Nat) (c code : Int) (f f' : Nat) (d : Bool) : (tcells gs gm c gh i j (place f gt) d code).setIfInBounds 5 (place f' gt) = tcells gs gm c gh i j (place f' gt) d code := rfl
theorem tcells_done (gs gm gh i j gt : Nat) (c code : Int) (f : Nat) (d : Bool) : (tcells gs gm c gh i j (place f gt) d code).setIfInBounds 6 (.bool true) = tcells gs gm c gh i j (place f gt) true code := rfl
theorem storeClass_any {w : World} {ym : Lay} {s : St} {y : SLay} {hs : List Hd} {fs : Nat -> List Nat} (G : Game w ym s y hs fs) {gt i j : Nat} {x : Hd} {c code : Int} {d : Bool} {f : Nat}
  (T : TAt w ym y gt c i j f d code) (hg : gt ≠ 0) (hx : hs[i]? = some x) (hst : s.st + 1 < 9223372036854775808) (hp : ∀ l ∈ s.pend, l.length + 1 <= 1000000000) :
  Calls Tryz.prog 121 #[fpt gt] w fun e w' => e = .returned (.int .i64 0) /\ PlacePost w ym y gt c i j 144 d code (s.store (1024 * x.no) x.cls) hs w' := by
 have mixed : Tryz.prog.follows .mixedOrders = true := by kernel_rfl
 have hr : Row w gt 169 (tcells y.gs ym.g c y.gh i j (place f gt) d code) := T
 obtain ⟨n1, n2, n3, n4⟩ := head_addr G hx
 have hc3 := (G.mem.lens x (List.mem_of_getElem? hx)).2
 have c5 := hr.cell 5
 simp only [tcells, List.getElem?_toArray, List.getElem?_cons_succ, List.getElem?_cons_zero] at c5
 have f5 := hr.free 5
 obtain ⟨W1, hW1⟩ : ∃ W1, W1 = w.setCell ⟨gt, 5, none⟩ (.func (.func 144) #[.pointer (some ⟨gt, 0, none⟩)] #[]) := ⟨_, rfl⟩
 have G1 : Game W1 ym s y hs fs := by rw [hW1]; exact G.set hr hg 5 _
 have T1 : Row W1 gt 169 (tcells y.gs ym.g c y.gh i j (place 144 gt) d code) := by rw [hW1, <- tcells_set y.gs ym.g y.gh i j gt c code f 144 d]; exact hr.set 5 _
 have t1 : GTurn w W1 ym ym y y gt := by rw [hW1]; exact GTurn.of_set w ym y gt 5 _
 have d1 := T1.cell 1
 have d3 := T1.cell 3
 simp only [tcells, List.getElem?_toArray, List.getElem?_cons_succ, List.getElem?_cons_zero] at d1 d3
 unfold fpt at d1
 have hh := G1.mem.head hx
 unfold jv at hh
 have ca := fun p : LowBy W1 => p.cell d1
 have cb := fun p : LowBy W1 => p.cell d3
 have cc := fun p : LowBy W1 => p.cell hh.1
 have cd := fun p : LowBy W1 => p.cell hh.2.1
 have HH := Lib.hid fun (p : LowBy W1) => Calls.low_of_same (w := W1) (p := p) (header_any (x.no : Int) p.W)
 rw [n4] at HH
 have hla : 1024 * x.no / 64 < s.pend.length := by have := G.pm.plen; omega
 have hok : (s.store (1024 * x.no) x.cls).Ok := store_Ok G.ok (by omega) hla (by omega) hst (by
  rw [List.getD_eq_getElem?_getD, List.getElem?_eq_getElem hla]
  exact hp _ (List.getElem_mem hla))
 have HS := Lib.hid fun (p : LowBy W1) => store_ok (G1.pm.below p.low) (1024 * x.no) x.cls (by omega) (by omega) (by omega) (by omega) (fun l hl => by have := hp l hl; omega)
 have HE := Lib.hid (show ∀ (p : LowBy W1) (w' : World) (ym' : Lay), MemAt w' ym' (s.store (1024 * x.no) x.cls) -> Turn p.W w' ym ym' -> PlacePost w ym y gt c i j 144 d code (s.store (1024 * x.no) x.cls) hs w' from fun p w' ym' hm' ht' => by
  have Gp := G1.below p.low
  have Tp := T1.below p.low T1.lt
  have tt := (t1.trans (GTurn.of_below ym y gt p.low)).trans (GTurn.of_mem y gt ht')
  exact ⟨ym', y, fs, Gp.onMem hm' hok rfl ht', TAt.turn (Tp.onMem Gp ht') tt, tt⟩)
 obtain ⟨A, hA⟩ : ∃ A, A = 1024 * x.no := ⟨_, rfl⟩
 rw [<- hA] at HH HS HE ⊢
 obtain ⟨S', hS'⟩ : ∃ S', S' = s.store A x.cls := ⟨_, rfl⟩
 rw [<- hS'] at HS HE ⊢
 obtain ⟨gm, hgm⟩ : ∃ gm, gm = ym.g := ⟨_, rfl⟩
 rw [<- hgm] at ca HS
 obtain ⟨gh, hgh⟩ : ∃ gh, gh = y.gh := ⟨_, rfl⟩
 rw [<- hgh] at cb cc cd
 obtain ⟨k, hk⟩ : ∃ k, k = x.cls := ⟨_, rfl⟩
 rw [<- hk] at cd HS hc3
 have HST := Lib.hid (show ∀ (p : LowBy W1), Calls Tryz.prog 141 #[.pointer (some ⟨gm, 0, none⟩), .int .u64 (A : Int), .int .u64 (k : Int)] p.W (StPost p.W ym S' 0) from HS.out)
 unfold fpt
 clear G hr T n1 n2 n3 n4 G1 T1 t1 d1 d3 hh hla hok hA hS' hgm hgh hk HS hst hp hx
 go_enter Tryz.func121, Tryz.ntmps121
 go_wp2_with fail
 rw [<- hW1]
 clear hW1 c5 f5
 refine wp_region_low_tail 20 (by assumption) (by kernel_rfl) ?_
 simp only [List.take_succ_cons, List.take_zero, List.drop_succ_cons, List.drop_zero]
 repeat (go_big_quiet_step ((go_at_call 95; with_reducible exact HH.out _)))
 refine wpQuiet_nil ?_
 intro _ hw'
 obtain ⟨p, hw''⟩ := hw'
 subst hw''
 clear ca cb cc cd
 go_wp2_with fail
 refine (HST.out p).mono ?_
 rintro e w2 ⟨rfl, ym2, hm2, ht2⟩
 have HZ := Lib.hid (HE.out p w2 ym2 hm2 ht2)
 clear hm2 ht2
 go_wp2
 go_ret
 exact ⟨rfl, HZ.out⟩
def bitV (v b j : Nat) : Nat := if v = 4 then setB b j else clrB b j
theorem bitV_lt {v b j : Nat} (hb : b < 18446744073709551616) : bitV v b j < 18446744073709551616 := by
 unfold bitV
 split
 ·exact setB_lt hb _
 ·have := clrB_le b (j : Int); omega
theorem HsOk.bits {hs : List Hd} (ok : HsOk hs) {i b : Nat} {x : Hd} (hx : hs[i]? = some x) : HsOk (hs.set i { x with bits := b }) := by
 intro k z hz
 rw [List.getElem?_set] at hz
 have hil := (List.getElem?_eq_some_iff.1 hx).1
 by_cases e : i = k
 ·subst e
  rw [if_pos rfl, if_pos hil] at hz
  cases hz
  exact ok i x hx
 ·rw [if_neg e] at hz
  exact ok k z hz
theorem FsOk.bits {hs : List Hd} {fs : Nat -> List Nat} (h : FsOk hs fs) {i b : Nat} {x : Hd} (hx : hs[i]? = some x) : FsOk (hs.set i { x with bits := b }) fs := by
 intro c
 have hil := (List.getElem?_eq_some_iff.1 hx).1
 refine ⟨(h c).1, fun a => ?_⟩
 rw [(h c).2]
 constructor
 ·rintro ⟨k, q, z, hz, hc, hb, ha⟩
  by_cases e : i = k
  ·subst e
   rw [hx] at hz
   cases hz
   exact ⟨i, q, { x with bits := b }, by rw [List.getElem?_set, if_pos rfl, if_pos hil], hc, hb, ha⟩
  ·exact ⟨k, q, z, by rw [List.getElem?_set, if_neg e]; exact hz, hc, hb, ha⟩
 ·rintro ⟨k, q, z, hz, hc, hb, ha⟩
  rw [List.getElem?_set] at hz
  by_cases e : i = k
  ·subst e
   rw [if_pos rfl, if_pos hil] at hz
   cases hz
   exact ⟨i, q, x, hx, hc, hb, ha⟩
  ·rw [if_neg e] at hz
   exact ⟨k, q, z, hz, hc, hb, ha⟩
theorem bits_any {w : World} {ym : Lay} {y : SLay} {hs : List Hd} {fs : Nat -> List Nat} (h : SlabMem w y hs fs) {gt i j v : Nat} {x : Hd} {c code : Int} {d : Bool} {f : Nat}
  (T : TAt w ym y gt c i j f d code) (hx : hs[i]? = some x) (hv : x.bl[j]? = some v) (hb : x.bits < 18446744073709551616) :
  Calls Tryz.prog 168 #[fpt gt] w fun e w' => e = .returned (wv (bitV v x.bits j)) /\ Below w.heap.size w w' := by
 have mixed : Tryz.prog.follows .mixedOrders = true := by kernel_rfl
 have hr : Row w gt 169 (tcells y.gs ym.g c y.gh i j (place f gt) d code) := T
 have hjl := (List.getElem?_eq_some_iff.1 hv).1
 have hl15 := (h.lens x (List.mem_of_getElem? hx)).1
 have d3 := hr.cell 3
 have d4 := hr.cell 4
 simp only [tcells, List.getElem?_toArray, List.getElem?_cons_succ, List.getElem?_cons_zero] at d3 d4
 obtain ⟨g, hsh, hrow⟩ := (h.blk i x hx).pos (by omega)
 have hh := h.head hx
 rw [hsh] at hh
 have cj := hrow.cell j
 rw [List.getElem?_toArray, List.getElem?_map, hv, Option.map_some] at cj
 unfold jv at d4 cj
 have h2 := hh.2.2.1
 unfold wv at h2
 have ca := fun p : LowBy w => p.cell d3
 have cb := fun p : LowBy w => p.cell d4
 have cc := fun p : LowBy w => p.cell hh.2.2.2
 have ce := fun p : LowBy w => p.cell cj
 have HS := Lib.hid fun (W : World) (p : LowBy W) => Calls.low_of_same (p := p) (bSet_any hb (j := (j : Int)) (by omega) (by omega) p.W)
 have HC := Lib.hid fun (W : World) (p : LowBy W) => Calls.low_of_same (p := p) (bClear_any hb (j := (j : Int)) (by omega) (by omega) p.W)
 have D3 := Lib.hid d3
 have D4 := Lib.hid d4
 have H2 := Lib.hid h2
 obtain ⟨gh, hgh⟩ : ∃ gh, gh = y.gh := ⟨_, rfl⟩
 rw [<- hgh] at ca cc D3 H2
 unfold wv at HS HC
 unfold fpt
 clear h hr T hx hsh hrow hh d3 d4 h2 hgh cj hv
 generalize x.bl.length = m at *
 by_cases hv4 : v = 4
 ·have hz : ((v : Int) == 4) = true := by rw [hv4]; rfl
  have HV := Lib.hid (show bitV v x.bits j = setB x.bits j from if_pos hv4)
  generalize x.bits = b at *
  rw [show wv (bitV v b j) = .int .u64 ((setB b j : Nat) : Int) from by rw [HV.out]; rfl]
  clear hv4 hb
  generalize setB b j = r at *
  go_enter Tryz.func168, Tryz.ntmps168
  go_wp2_with fail
  refine wp_region_quiet_low (by assumption) (by kernel_rfl) ?_
  repeat (go_big_quiet_step (fail))
  refine wpQuiet_nil ?_
  intro _ hw'
  obtain ⟨p, hw''⟩ := hw'
  subst hw''
  have e3 := p.cell D3.out
  have e4 := p.cell D4.out
  have e2 := p.cell H2.out
  have HPL := Lib.hid p.low
  clear ca cb cc ce
  generalize p.W = w1 at *
  clear p
  have ca := fun p : LowBy w1 => p.cell e3
  have cb := fun p : LowBy w1 => p.cell e4
  have cc := fun p : LowBy w1 => p.cell e2
  clear e3 e4 e2
  go_wp2_with fail
  refine wp_region_quiet_low (by assumption) (by kernel_rfl) ?_
  repeat (go_big_quiet_step ((go_at_call 181; with_reducible exact HS.out _ _)))
  refine wpQuiet_nil ?_
  intro _ hw'
  obtain ⟨p, hw''⟩ := hw'
  subst hw''
  have HQ := Lib.hid p.low
  clear ca cb cc
  go_wp2
  go_ret
  exact ⟨rfl, Below.and HPL.out HQ.out⟩
 ·have hz : ((v : Int) == 4) = false := by rw [Bool.eq_false_iff]; intro k; have := beq_iff_eq.1 k; omega
  have HV := Lib.hid (show bitV v x.bits j = clrB x.bits j from if_neg hv4)
  generalize x.bits = b at *
  rw [show wv (bitV v b j) = .int .u64 ((clrB b j : Nat) : Int) from by rw [HV.out]; rfl]
  clear hv4 hb
  generalize clrB b j = r at *
  go_enter Tryz.func168, Tryz.ntmps168
  go_wp2_with fail
  refine wp_region_quiet_low (by assumption) (by kernel_rfl) ?_
  repeat (go_big_quiet_step (fail))
  refine wpQuiet_nil ?_
  intro _ hw'
  obtain ⟨p, hw''⟩ := hw'
  subst hw''
  have e3 := p.cell D3.out
  have e4 := p.cell D4.out
  have e2 := p.cell H2.out
  have HPL := Lib.hid p.low
  clear ca cb cc ce
  generalize p.W = w1 at *
  clear p
  have ca := fun p : LowBy w1 => p.cell e3
  have cb := fun p : LowBy w1 => p.cell e4
  have cc := fun p : LowBy w1 => p.cell e2
  clear e3 e4 e2
  go_wp2_with fail
  refine wp_region_quiet_low (by assumption) (by kernel_rfl) ?_
  repeat (go_big_quiet_step ((go_at_call 182; with_reducible exact HC.out _ _)))
  refine wpQuiet_nil ?_
  intro _ hw'
  obtain ⟨p, hw''⟩ := hw'
  subst hw''
  have HQ := Lib.hid p.low
  clear ca cb cc
  go_wp2
  go_ret
  exact ⟨rfl, Below.and HPL.out HQ.out⟩
theorem storeBits_any {w : World} {ym : Lay} {s : St} {y : SLay} {hs : List Hd} {fs : Nat -> List Nat} (G : Game w ym s y hs fs) {gt i j v : Nat} {x : Hd} {c code : Int} {d : Bool} {f : Nat}
  (T : TAt w ym y gt c i j f d code) (hg : gt ≠ 0) (hx : hs[i]? = some x) (hv : x.bl[j]? = some v) (hb : x.bits < 18446744073709551616) (hst : s.st + 1 < 9223372036854775808) (hp : ∀ l ∈ s.pend, l.length + 1 <= 1000000000) :
  Calls Tryz.prog 144 #[fpt gt] w fun e w' => e = .returned (.int .i64 0) /\ PlacePost w ym y gt c i j 167 d code (s.store (1024 * x.no + 8) (bitV v x.bits j)) (hs.set i { x with bits := bitV v x.bits j }) w' := by
 have mixed : Tryz.prog.follows .mixedOrders = true := by kernel_rfl
 have hr : Row w gt 169 (tcells y.gs ym.g c y.gh i j (place f gt) d code) := T
 obtain ⟨n1, n2, n3, n4⟩ := head_addr G hx
 have c5 := hr.cell 5
 simp only [tcells, List.getElem?_toArray, List.getElem?_cons_succ, List.getElem?_cons_zero] at c5
 have f5 := hr.free 5
 obtain ⟨W1, hW1⟩ : ∃ W1, W1 = w.setCell ⟨gt, 5, none⟩ (.func (.func 167) #[.pointer (some ⟨gt, 0, none⟩)] #[]) := ⟨_, rfl⟩
 have G1 : Game W1 ym s y hs fs := by rw [hW1]; exact G.set hr hg 5 _
 have T1 : Row W1 gt 169 (tcells y.gs ym.g c y.gh i j (place 167 gt) d code) := by rw [hW1, <- tcells_set y.gs ym.g y.gh i j gt c code f 167 d]; exact hr.set 5 _
 have t1 : GTurn w W1 ym ym y y gt := by rw [hW1]; exact GTurn.of_set w ym y gt 5 _
 have HBT := Lib.hid (bits_any G1.mem (show TAt W1 ym y gt c i j 167 d code from T1) hx hv hb)
 have hbl : bitV v x.bits j < 18446744073709551616 := bitV_lt hb
 have hla : (1024 * x.no + 8) / 64 < s.pend.length := by have := G.pm.plen; omega
 obtain ⟨b, hbe⟩ : ∃ b, b = bitV v x.bits j := ⟨_, rfl⟩
 rw [<- hbe] at HBT hbl ⊢
 have hok : (s.store (1024 * x.no + 8) b).Ok := store_Ok G.ok (by omega) hla hbl hst (by
  rw [List.getD_eq_getElem?_getD, List.getElem?_eq_getElem hla]
  exact hp _ (List.getElem_mem hla))
 have HG1 := Lib.hid G1
 have HT1 := Lib.hid T1
 have Ht1 := Lib.hid t1
 have HX := Lib.hid hx
 have HOK := Lib.hid hok
 have HH := Lib.hid fun (W : World) (p : LowBy W) => Calls.low_of_same (p := p) (bits_yes (s := (x.no : Int)) (by omega) p.W)
 rw [n4] at HH
 rw [show ((1024 * x.no : Nat) : Int) + 8 = ((1024 * x.no + 8 : Nat) : Int) from by omega] at HH
 have HS0 : ∀ (W : World), Below W1.heap.size W1 W -> Calls Tryz.prog 141 #[.pointer (some ⟨ym.g, 0, none⟩), .int .u64 ((1024 * x.no + 8 : Nat) : Int), .int .u64 (b : Int)] W (StPost W ym (s.store (1024 * x.no + 8) b) 0) :=
  fun W hb => store_ok (G1.pm.below hb) (1024 * x.no + 8) b (by omega) (by omega) hbl (by omega) (fun l hl => by have := hp l hl; omega)
 have HS := Lib.hid HS0
 obtain ⟨A, hA⟩ : ∃ A, A = 1024 * x.no + 8 := ⟨_, rfl⟩
 rw [<- hA] at HH HS HOK ⊢
 obtain ⟨S', hS'⟩ : ∃ S', S' = s.store A b := ⟨_, rfl⟩
 rw [<- hS'] at HS HOK ⊢
 have HNL := Lib.hid (show S'.nl = s.nl by rw [hS']; rfl)
 obtain ⟨gm, hgm⟩ : ∃ gm, gm = ym.g := ⟨_, rfl⟩
 rw [<- hgm] at HS
 have HGM := Lib.hid hgm
 obtain ⟨gh, hgh⟩ : ∃ gh, gh = y.gh := ⟨_, rfl⟩
 have HGH := Lib.hid hgh
 unfold fpt wv at HBT
 unfold fpt
 clear G hr T n1 n2 n3 n4 G1 T1 t1 hla hok hA hS' hgm hgh HS0 hst hp hx hv hb hbl hbe
 go_enter Tryz.func144, Tryz.ntmps144
 go_wp2_with fail
 rw [<- hW1]
 clear hW1 c5 f5
 refine HBT.out.mono ?_
 rintro e w2 ⟨rfl, hb2⟩
 have G2 := HG1.out.below hb2
 have T2 := HT1.out.below hb2 HT1.out.lt
 have d1 := T2.cell 1
 have d3 := T2.cell 3
 simp only [tcells, List.getElem?_toArray, List.getElem?_cons_succ, List.getElem?_cons_zero] at d1 d3
 unfold fpt at d1
 rw [<- HGM.out] at d1
 rw [<- HGH.out] at d3
 have hh := (G2.mem.head HX.out).1
 unfold jv at hh
 rw [<- HGH.out] at hh
 have ca := fun p : LowBy w2 => p.cell d1
 have cb := fun p : LowBy w2 => p.cell d3
 have cc := fun p : LowBy w2 => p.cell hh
 have HG2 := Lib.hid G2
 have HT2 := Lib.hid T2
 have HB2 := Lib.hid hb2
 clear G2 T2 d1 d3 hh hb2 HBT
 go_wp2_with fail
 refine wp_region_low_tail 13 (by assumption) (by kernel_rfl) ?_
 simp only [List.take_succ_cons, List.take_zero, List.drop_succ_cons, List.drop_zero]
 repeat (go_big_quiet_step ((go_at_call 96; with_reducible exact HH.out _ _)))
 refine wpQuiet_nil ?_
 intro _ hw'
 obtain ⟨p, hw''⟩ := hw'
 subst hw''
 have HST := Lib.hid (HS.out p.W (Below.and HB2.out p.low))
 clear ca cb cc
 go_wp2_with fail
 refine HST.out.mono ?_
 rintro e w3 ⟨rfl, ym3, hm3, ht3⟩
 have Gp := HG2.out.below p.low
 have Tp := HT2.out.below p.low HT2.out.lt
 have G3 := Gp.onMem hm3 HOK.out HNL.out ht3
 have T3 := Tp.onMem Gp ht3
 have t3 := ((Ht1.out.trans (GTurn.of_below ym y gt (Below.and HB2.out p.low)))).trans (GTurn.of_mem y gt ht3)
 have k3 := T3.cell 3
 simp only [tcells, List.getElem?_toArray, List.getElem?_cons_succ, List.getElem?_cons_zero] at k3
 rw [<- HGH.out] at k3
 have k2 := (G3.mem.head HX.out).2.2.1
 have kf := G3.mem.hfree (i * 4 + 2)
 rw [<- HGH.out] at k2 kf
 unfold wv at k2
 have HEND := Lib.hid (show PlacePost w ym y gt c i j 167 d code S' (hs.set i { x with bits := b }) (w3.setCell ⟨gh, i * 4 + 2, none⟩ (.int .u64 (b : Int))) from by
  obtain ⟨hp3, tp3⟩ := G3.mem.put_bits HX.out b
  rw [HGH.out]
  have G4 := G3.onSlab hp3 (G3.ho.bits HX.out) (G3.fo.bits HX.out) (by rw [List.length_set]) tp3
  have T4 := T3.onSlab G3 tp3
  have t4 := t3.trans (GTurn.of_slab ym3 gt tp3)
  exact ⟨ym3, y, fs, G4, TAt.turn T4 t4, t4⟩)
 clear hm3 ht3 Gp Tp G3 T3 t3 HST
 go_wp2
 go_ret
 exact ⟨rfl, HEND.out⟩
theorem tflush_any {w : World} {ym : Lay} {s : St} {y : SLay} {hs : List Hd} {fs : Nat -> List Nat} (G : Game w ym s y hs fs) {gt i j cl : Nat} {x : Hd} {code : Int} {d : Bool} {f : Nat}
  (T : TAt w ym y gt (cl : Int) i j f d code) (hg : gt ≠ 0) (hcl : cl <= 64) (hx : hs[i]? = some x) (hfl : s.fl + 1 < 9223372036854775808) :
  Calls Tryz.prog 167 #[fpt gt] w fun e w' => e = .returned (.int .i64 0) /\ PlacePost w ym y gt (cl : Int) i j 180 d code (s.flush cl (1024 * x.no)) hs w' := by
 have mixed : Tryz.prog.follows .mixedOrders = true := by kernel_rfl
 have hr : Row w gt 169 (tcells y.gs ym.g cl y.gh i j (place f gt) d code) := T
 obtain ⟨n1, n2, n3, n4⟩ := head_addr G hx
 have c5 := hr.cell 5
 simp only [tcells, List.getElem?_toArray, List.getElem?_cons_succ, List.getElem?_cons_zero] at c5
 have f5 := hr.free 5
 obtain ⟨W1, hW1⟩ : ∃ W1, W1 = w.setCell ⟨gt, 5, none⟩ (.func (.func 180) #[.pointer (some ⟨gt, 0, none⟩)] #[]) := ⟨_, rfl⟩
 have G1 : Game W1 ym s y hs fs := by rw [hW1]; exact G.set hr hg 5 _
 have T1 : Row W1 gt 169 (tcells y.gs ym.g cl y.gh i j (place 180 gt) d code) := by rw [hW1, <- tcells_set y.gs ym.g y.gh i j gt cl code f 180 d]; exact hr.set 5 _
 have t1 : GTurn w W1 ym ym y y gt := by rw [hW1]; exact GTurn.of_set w ym y gt 5 _
 have d1 := T1.cell 1
 have d2 := T1.cell 2
 have d3 := T1.cell 3
 simp only [tcells, List.getElem?_toArray, List.getElem?_cons_succ, List.getElem?_cons_zero] at d1 d2 d3
 unfold fpt at d1
 have hh := (G1.mem.head hx).1
 unfold jv at hh
 have ca := fun p : LowBy W1 => p.cell d1
 have cb := fun p : LowBy W1 => p.cell d2
 have cc := fun p : LowBy W1 => p.cell d3
 have ce := fun p : LowBy W1 => p.cell hh
 have HH := Lib.hid fun (p : LowBy W1) => Calls.low_of_same (w := W1) (p := p) (header_any (x.no : Int) p.W)
 rw [n4] at HH
 have hok : (s.flush cl (1024 * x.no)).Ok := flush_Ok G.ok hfl
 have HS0 : ∀ (p : LowBy W1), Calls Tryz.prog 166 #[.pointer (some ⟨ym.g, 0, none⟩), .int .i64 (cl : Int), .int .u64 ((1024 * x.no : Nat) : Int)] p.W (StPost p.W ym (s.flush cl (1024 * x.no)) 0) :=
  fun p => flush_ok (G1.pm.below p.low) G.ok cl (1024 * x.no) hcl (by omega) (by omega)
 have HS := Lib.hid HS0
 have HE := Lib.hid (show ∀ (p : LowBy W1) (w' : World) (ym' : Lay), MemAt w' ym' (s.flush cl (1024 * x.no)) -> Turn p.W w' ym ym' -> PlacePost w ym y gt (cl : Int) i j 180 d code (s.flush cl (1024 * x.no)) hs w' from fun p w' ym' hm' ht' => by
  have Gp := G1.below p.low
  have Tp := T1.below p.low T1.lt
  have tt := (t1.trans (GTurn.of_below ym y gt p.low)).trans (GTurn.of_mem y gt ht')
  exact ⟨ym', y, fs, Gp.onMem hm' hok rfl ht', TAt.turn (Tp.onMem Gp ht') tt, tt⟩)
 obtain ⟨A, hA⟩ : ∃ A, A = 1024 * x.no := ⟨_, rfl⟩
 rw [<- hA] at HH HS HE ⊢
 obtain ⟨S', hS'⟩ : ∃ S', S' = s.flush cl A := ⟨_, rfl⟩
 rw [<- hS'] at HS HE ⊢
 obtain ⟨gm, hgm⟩ : ∃ gm, gm = ym.g := ⟨_, rfl⟩
 rw [<- hgm] at ca HS
 obtain ⟨gh, hgh⟩ : ∃ gh, gh = y.gh := ⟨_, rfl⟩
 rw [<- hgh] at cc ce
 unfold fpt
 clear G hr T n1 n2 n3 n4 G1 T1 t1 d1 d2 d3 hh hok hA hS' hgm hgh HS0 hfl hx
 go_enter Tryz.func167, Tryz.ntmps167
 go_wp2_with fail
 rw [<- hW1]
 clear hW1 c5 f5
 refine wp_region_low_tail 16 (by assumption) (by kernel_rfl) ?_
 simp only [List.take_succ_cons, List.take_zero, List.drop_succ_cons, List.drop_zero]
 repeat (go_big_quiet_step ((go_at_call 95; with_reducible exact HH.out _)))
 refine wpQuiet_nil ?_
 intro _ hw'
 obtain ⟨p, hw''⟩ := hw'
 subst hw''
 clear ca cb cc ce
 go_wp2_with fail
 refine (HS.out p).mono ?_
 rintro e w2 ⟨rfl, ym2, hm2, ht2⟩
 have HZ := Lib.hid (HE.out p w2 ym2 hm2 ht2)
 clear hm2 ht2
 go_wp2
 go_ret
 exact ⟨rfl, HZ.out⟩
def settled (v : Nat) : Nat := if v = 4 then 2 else 0
def SetPost (w : World) (ym : Lay) (s : St) (y : SLay) (gt : Nat) (c : Int) (i j : Nat) (f : FuncId) (d : Bool) (code : Int) (hs' : List Hd) (e : Ending) (w' : World) : Prop :=
 e = .returned (.tuple #[]) /\ ∃ y' fs', Game w' ym s y' hs' fs' /\ TAt w' ym y' gt c i j f d code /\ GTurn w w' ym ym y y' gt
theorem settle_any {w : World} {ym : Lay} {s : St} {y : SLay} {hs : List Hd} {fs : Nat -> List Nat} (G : Game w ym s y hs fs) {gt i j v : Nat} {x : Hd} {c code : Int} {d : Bool} {f : Nat}
  (T : TAt w ym y gt c i j f d code) (hx : hs[i]? = some x) (hv : x.bl[j]? = some v) (hv0 : v ≠ 0) :
  Calls Tryz.prog 188 #[fpt gt] w (SetPost w ym s y gt c i j f d code (hs.set i { x with bl := x.bl.set j (settled v) })) := by
 have mixed : Tryz.prog.follows .mixedOrders = true := by kernel_rfl
 have hr : Row w gt 169 (tcells y.gs ym.g c y.gh i j (place f gt) d code) := T
 obtain ⟨n1, n2, n3, n4⟩ := head_addr G hx
 have hjl := (List.getElem?_eq_some_iff.1 hv).1
 have hl15 := (G.mem.lens x (List.mem_of_getElem? hx)).1
 have d0 := hr.cell 0
 have d3 := hr.cell 3
 have d4 := hr.cell 4
 simp only [tcells, List.getElem?_toArray, List.getElem?_cons_succ, List.getElem?_cons_zero] at d0 d3 d4
 obtain ⟨g, hsh, hrow⟩ := (G.mem.blk i x hx).pos (by omega)
 have hown : (y.bv i).ownBlock = some g := by rw [hsh]; rfl
 have hh := (G.mem.head hx).2.2.2
 rw [hsh] at hh
 have cj := hrow.cell j
 rw [List.getElem?_toArray, List.getElem?_map, hv, Option.map_some] at cj
 unfold jv at d4 cj
 unfold fpt at d0
 have fj := hrow.free j
 have HG := Lib.hid G
 have HR := Lib.hid hr
 have HX := Lib.hid hx
 have HV := Lib.hid hv
 have HOW := Lib.hid hown
 have HJB := Lib.hid (show j < blN x.cls by rw [<- (G.ho i x hx).2]; exact hjl)
 have HRW := Lib.hid hrow
 have HN := Lib.hid (show 1 <= x.no /\ x.no <= 64 from ⟨n1, n2⟩)
 have HJL := Lib.hid hjl
 have D0 := Lib.hid d0
 have D3 := Lib.hid d3
 have D4 := Lib.hid d4
 have DH := Lib.hid hh
 have DJ := Lib.hid cj
 have ca := fun p : LowBy w => p.cell d3
 have cb := fun p : LowBy w => p.cell d4
 have cc := fun p : LowBy w => p.cell hh
 have ce := fun p : LowBy w => p.cell cj
 obtain ⟨gh, hgh⟩ : ∃ gh, gh = y.gh := ⟨_, rfl⟩
 rw [<- hgh] at ca cc D3 DH
 obtain ⟨gs, hgs⟩ : ∃ gs, gs = y.gs := ⟨_, rfl⟩
 rw [<- hgs] at D0
 have HGH := Lib.hid hgh
 have HGS := Lib.hid hgs
 unfold fpt
 clear G hr T n1 n2 n3 n4 d0 d3 d4 hsh hrow hown hh cj hx hv hgh hgs fj
 generalize x.bl.length = m at *
 by_cases hv4 : v = 4
 ·have hz : ((v : Int) == 4) = true := by rw [hv4]; rfl
  have HST := Lib.hid (show settled v = 2 from if_pos hv4)
  have HV0 := Lib.hid hv0
  clear hv4 hv0
  go_enter Tryz.func188, Tryz.ntmps188
  go_wp2_with fail
  refine wp_region_quiet_low (by assumption) (by kernel_rfl) ?_
  repeat (go_big_quiet_step (fail))
  refine wpQuiet_nil ?_
  intro _ hw'
  obtain ⟨p, hw''⟩ := hw'
  subst hw''
  have e3 := p.cell D3.out
  have e4 := p.cell D4.out
  have eh := p.cell DH.out
  have HPL := Lib.hid p.low
  clear ca cb cc ce
  generalize p.W = w1 at *
  clear p
  have ca := fun p : LowBy w1 => p.cell e3
  have cb := fun p : LowBy w1 => p.cell e4
  have cc := fun p : LowBy w1 => p.cell eh
  clear e3 e4 eh
  go_wp2_with fail
  refine wp_region_low_tail 12 (by assumption) (by kernel_rfl) ?_
  simp only [List.take_succ_cons, List.take_zero, List.drop_succ_cons, List.drop_zero]
  repeat (go_big_quiet_step (fail))
  refine wpQuiet_nil ?_
  intro _ hw'
  obtain ⟨p, hw''⟩ := hw'
  subst hw''
  have HB := Lib.hid (Below.and HPL.out p.low)
  have hrw := HRW.out.below HB.out HRW.out.lt
  have k1 := hrw.free j
  have k2 : p.W.cell? ⟨g, j, none⟩ = some (.int .i64 (v : Int)) := (HB.out.cell (p := ⟨g, j, none⟩) HRW.out.lt).trans DJ.out
  have HEND := Lib.hid (show SetPost w ym s y gt c i j f d code (hs.set i { x with bl := x.bl.set j (settled v) }) (.returned (.tuple #[])) (p.W.setCell ⟨g, j, none⟩ (.int .i64 2)) from by
   have Gp := HG.out.below HB.out
   have Tp := HR.out.below HB.out HR.out.lt
   obtain ⟨hp3, tp3⟩ := Gp.mem.put_bl (j := j) HX.out HOW.out 2
   rw [HST.out]
   have G4 := Gp.onSlab hp3 (Gp.ho.set_bl HX.out) (Gp.fo.turn HX.out HV.out HV0.out (by decide)) (by rw [List.length_set]) tp3
   have t4 := (GTurn.of_below ym y gt HB.out).trans (GTurn.of_slab ym gt tp3)
   exact ⟨rfl, y, fs, G4, TAt.turn (Tp.onSlab Gp tp3) t4, t4⟩)
  clear ca cb cc hrw
  go_wp2
  refine bodyPost_ret (results_none rfl _ _ _) rfl ?_
  exact HEND.out
 ·have hz : ((v : Int) == 4) = false := by rw [Bool.eq_false_iff]; intro k; have := beq_iff_eq.1 k; omega
  have HST := Lib.hid (show settled v = 0 from if_neg hv4)
  have HV0 := Lib.hid hv0
  clear hv4 hv0
  go_enter Tryz.func188, Tryz.ntmps188
  go_wp2_with fail
  refine wp_region_quiet_low (by assumption) (by kernel_rfl) ?_
  repeat (go_big_quiet_step (fail))
  refine wpQuiet_nil ?_
  intro _ hw'
  obtain ⟨p, hw''⟩ := hw'
  subst hw''
  have e0 := p.cell D0.out
  have e3 := p.cell D3.out
  have e4 := p.cell D4.out
  have HPL := Lib.hid p.low
  clear ca cb cc ce
  generalize p.W = w1 at *
  clear p
  have ca := fun p : LowBy w1 => p.cell e3
  have cb := fun p : LowBy w1 => p.cell e4
  have cc := fun p : LowBy w1 => p.cell e0
  clear e3 e4 e0
  go_wp2_with fail
  refine wp_region_low_tail 12 (by assumption) (by kernel_rfl) ?_
  simp only [List.take_succ_cons, List.take_zero, List.drop_succ_cons, List.drop_zero]
  repeat (go_big_quiet_step (fail))
  refine wpQuiet_nil ?_
  intro _ hw'
  obtain ⟨p, hw''⟩ := hw'
  subst hw''
  have HB := Lib.hid (Below.and HPL.out p.low)
  have Gp := HG.out.below HB.out
  have HLV := leave_any Gp.mem Gp.rs HX.out HN.out (j := j) (by have := HJB.out; have := (Gp.ho i x HX.out).2; omega) HJB.out (by have := Gp.fo.few Gp.ho Gp.mem.most x.cls; omega)
  unfold fpt jv at HLV
  rw [<- HGS.out, <- HGH.out] at HLV
  have HLV := Lib.hid HLV
  have HGP := Lib.hid Gp
  clear ca cb cc Gp
  go_wp2_with fail
  refine HLV.out.mono ?_
  rintro e w3 ⟨rfl, y3, hm3, tp3⟩
  have HEND := Lib.hid (show SetPost w ym s y gt c i j f d code (hs.set i { x with bl := x.bl.set j (settled v) }) (.returned (.tuple #[])) w3 from by
   have Gp := HGP.out
   have Tp := HR.out.below HB.out HR.out.lt
   rw [HST.out]
   have G4 := Gp.onSlab hm3 (Gp.ho.set_bl HX.out) (Gp.fo.back Gp.ho Gp.mem.most HX.out (by have := HJB.out; have := (Gp.ho i x HX.out).2; omega)) (by rw [List.length_set]) tp3
   have t4 := (GTurn.of_below ym y gt HB.out).trans (GTurn.of_slab ym gt tp3)
   exact ⟨rfl, y3, _, G4, TAt.turn (Tp.onSlab Gp tp3) t4, t4⟩)
  clear hm3 tp3 HLV
  go_wp2
  refine bodyPost_ret (results_none rfl _ _ _) rfl ?_
  exact HEND.out
theorem tfence_any {w : World} {ym : Lay} {s : St} {y : SLay} {hs : List Hd} {fs : Nat -> List Nat} (G : Game w ym s y hs fs) {gt i j cl v : Nat} {x : Hd} {code : Int} {d : Bool} {f : Nat}
  (T : TAt w ym y gt (cl : Int) i j f d code) (hg : gt ≠ 0) (hcl : cl <= 64) (hx : hs[i]? = some x) (hv : x.bl[j]? = some v) (hv0 : v ≠ 0) (hfe : s.fe + 1 < 9223372036854775808) :
  Calls Tryz.prog 180 #[fpt gt] w fun e w' => e = .returned (.int .i64 0) /\ PlacePost w ym y gt (cl : Int) i j f true code (s.fence cl) (hs.set i { x with bl := x.bl.set j (settled v) }) w' := by
 have mixed : Tryz.prog.follows .mixedOrders = true := by kernel_rfl
 have hr : Row w gt 169 (tcells y.gs ym.g cl y.gh i j (place f gt) d code) := T
 have d1 := hr.cell 1
 have d2 := hr.cell 2
 simp only [tcells, List.getElem?_toArray, List.getElem?_cons_succ, List.getElem?_cons_zero] at d1 d2
 unfold fpt at d1
 have ca := fun p : LowBy w => p.cell d1
 have cb := fun p : LowBy w => p.cell d2
 have hok : (s.fence cl).Ok := fence_Ok G.ok hfe
 have HS0 : ∀ (p : LowBy w), Calls Tryz.prog 178 #[.pointer (some ⟨ym.g, 0, none⟩), .int .i64 (cl : Int)] p.W (StPost p.W ym (s.fence cl) 0) :=
  fun p => fence_ok (G.pm.below p.low) G.ok cl hcl hfe
 have HS := Lib.hid HS0
 have HE := Lib.hid (show ∀ (p : LowBy w) (w' : World) (ym' : Lay), MemAt w' ym' (s.fence cl) -> Turn p.W w' ym ym' -> Game w' ym' (s.fence cl) y hs fs /\ TAt w' ym' y gt (cl : Int) i j f d code /\ GTurn w w' ym ym' y y gt from fun p w' ym' hm' ht' => by
  have Gp := G.below p.low
  have Tp := hr.below p.low hr.lt
  have tt := (GTurn.of_below ym y gt p.low).trans (GTurn.of_mem y gt ht')
  exact ⟨Gp.onMem hm' hok rfl ht', TAt.turn (Tp.onMem Gp ht') tt, tt⟩)
 have HX := Lib.hid hx
 have HV := Lib.hid hv
 have HV0 := Lib.hid hv0
 have HG0 := Lib.hid hg
 obtain ⟨S', hS'⟩ : ∃ S', S' = s.fence cl := ⟨_, rfl⟩
 rw [<- hS'] at HS HE ⊢
 obtain ⟨gm, hgm⟩ : ∃ gm, gm = ym.g := ⟨_, rfl⟩
 rw [<- hgm] at ca HS
 unfold fpt
 clear G hr T d1 d2 hok hS' hgm HS0 hfe hx hv hv0 hg
 go_enter Tryz.func180, Tryz.ntmps180
 go_wp2_with fail
 refine wp_region_low_tail 8 (by assumption) (by kernel_rfl) ?_
 simp only [List.take_succ_cons, List.take_zero, List.drop_succ_cons, List.drop_zero]
 repeat (go_big_quiet_step (fail))
 refine wpQuiet_nil ?_
 intro _ hw'
 obtain ⟨p, hw''⟩ := hw'
 subst hw''
 clear ca cb
 go_wp2_with fail
 refine (HS.out p).mono ?_
 rintro e w2 ⟨rfl, ym2, hm2, ht2⟩
 obtain ⟨G2, T2, t2⟩ := HE.out p w2 ym2 hm2 ht2
 have HSE := settle_any G2 T2 HX.out HV.out HV0.out
 unfold fpt at HSE
 have HSE := Lib.hid HSE
 have Ht2 := Lib.hid t2
 clear hm2 ht2 G2 T2 t2 HS HE
 go_wp2_with fail
 refine HSE.out.mono ?_
 rintro e w3 ⟨rfl, y3, fs3, G3, T3, t3⟩
 have hr3 : Row w3 gt 169 (tcells y3.gs ym2.g cl y3.gh i j (place f gt) d code) := T3
 have c6 := hr3.cell 6
 simp only [tcells, List.getElem?_toArray, List.getElem?_cons_succ, List.getElem?_cons_zero] at c6
 have f6 := hr3.free 6
 have HEND := Lib.hid (show PlacePost w ym y gt (cl : Int) i j f true code S' (hs.set i { x with bl := x.bl.set j (settled v) }) (w3.setCell ⟨gt, 6, none⟩ (.bool true)) from by
  have t4 := (Ht2.out.trans t3).trans (GTurn.of_set w3 ym2 y3 gt 6 (.bool true))
  refine ⟨ym2, y3, fs3, G3.set hr3 HG0.out 6 _, ?_, t4⟩
  show Row _ _ _ _
  rw [<- tcells_done y3.gs ym2.g y3.gh i j gt cl code f d]
  exact hr3.set 6 _)
 clear G3 T3 t3 hr3 HSE
 go_wp2
 go_ret
 exact ⟨rfl, HEND.out⟩
theorem tcells_code (gs gm gh i j gt : Nat) (c code k : Int) (f : Nat) (d : Bool) : ((tcells gs gm c gh i j (place f gt) d code).setIfInBounds 7 (.int .i64 k)).setIfInBounds 6 (.bool d) = tcells gs gm c gh i j (place f gt) d k := rfl
def StepP (w : World) (ym : Lay) (y : SLay) (gt : Nat) (c : Int) (i j : Nat) (f : FuncId) (d : Bool) (s' : St) (hs' : List Hd) (e : Ending) (w' : World) : Prop :=
 e = .returned (.tuple #[.bool d, .int .i64 0]) /\ PlacePost w ym y gt c i j f d 0 s' hs' w'
theorem step_place {w : World} {ym : Lay} {y : SLay} {gt i j : Nat} {c code : Int} {f f' : Nat} {d' : Bool} {s' : St} {hs' : List Hd} (hcall : ∀ (w : World) (v : Value), (callFunc f #[v]).run Tryz.prog w = .ok (.enter f #[v]) w)
  (T : TAt w ym y gt c i j f false code) (hg : gt ≠ 0) (H : Calls Tryz.prog f #[fpt gt] w fun e w' => e = .returned (.int .i64 0) /\ PlacePost w ym y gt c i j f' d' code s' hs' w') :
  Calls Tryz.prog 43 #[fpt gt] w (StepP w ym y gt c i j f' d' s' hs') := by
 have hr : Row w gt 169 (tcells y.gs ym.g c y.gh i j (place f gt) false code) := T
 refine (step_of (P := fun w1 => PlacePost w ym y gt c i j f' d' code s' hs' w1) (f' := f') (d' := d') (code' := code) hcall hr (H.mono fun e w' ⟨he, hp⟩ => ⟨he, ?_, hp⟩)).mono fun e w' ⟨he, w1, hp, hb⟩ => ⟨he, ?_⟩
 ·obtain ⟨ym', y', fs', G', T', t'⟩ := hp
  have h1 : Row w' gt 169 (tcells y'.gs ym'.g c y'.gh i j (place f' gt) d' code) := T'
  rw [t'.g, t'.gs, t'.gh] at h1
  exact h1
 ·obtain ⟨ym', y', fs', G', T', t'⟩ := hp
  have h1 : Row w1 gt 169 (tcells y'.gs ym'.g c y'.gh i j (place f' gt) d' code) := T'
  have G2 := G'.set h1 hg 7 (.int .i64 0)
  have h2 := h1.set 7 (.int .i64 0)
  have G3 := G2.set h2 hg 6 (.bool d')
  have h3 := h2.set 6 (.bool d')
  rw [tcells_code] at h3
  have t3 := (t'.trans (GTurn.of_set w1 ym' y' gt 7 (.int .i64 0))).trans (GTurn.of_set _ ym' y' gt 6 (.bool d'))
  have t4 := t3.trans (GTurn.of_below ym' y' gt hb)
  exact ⟨ym', y', fs', G3.below hb, h3.below hb h3.lt, t4⟩
theorem call0 (w : World) (v : Value) : (callFunc 121 #[v]).run Tryz.prog w = .ok (.enter 121 #[v]) w := by kernel_rfl
theorem call1 (w : World) (v : Value) : (callFunc 144 #[v]).run Tryz.prog w = .ok (.enter 144 #[v]) w := by kernel_rfl
theorem call2 (w : World) (v : Value) : (callFunc 167 #[v]).run Tryz.prog w = .ok (.enter 167 #[v]) w := by kernel_rfl
theorem call3 (w : World) (v : Value) : (callFunc 180 #[v]).run Tryz.prog w = .ok (.enter 180 #[v]) w := by kernel_rfl
section
variable {w : World} {ym : Lay} {s : St} {y : SLay} {hs : List Hd} {fs : Nat -> List Nat} {gt i j cl v : Nat} {x : Hd} {code : Int}
theorem step0 (G : Game w ym s y hs fs) (T : TAt w ym y gt (cl : Int) i j 121 false code) (hg : gt ≠ 0) (hx : hs[i]? = some x) (hst : s.st + 1 < 9223372036854775808) (hp : ∀ l ∈ s.pend, l.length + 1 <= 1000000000) :
  Calls Tryz.prog 43 #[fpt gt] w (StepP w ym y gt (cl : Int) i j 144 false (s.store (1024 * x.no) x.cls) hs) := step_place call0 T hg (storeClass_any G T hg hx hst hp)
theorem step1 (G : Game w ym s y hs fs) (T : TAt w ym y gt (cl : Int) i j 144 false code) (hg : gt ≠ 0) (hx : hs[i]? = some x) (hv : x.bl[j]? = some v) (hb : x.bits < 18446744073709551616) (hst : s.st + 1 < 9223372036854775808) (hp : ∀ l ∈ s.pend, l.length + 1 <= 1000000000) :
  Calls Tryz.prog 43 #[fpt gt] w (StepP w ym y gt (cl : Int) i j 167 false (s.store (1024 * x.no + 8) (bitV v x.bits j)) (hs.set i { x with bits := bitV v x.bits j })) := step_place call1 T hg (storeBits_any G T hg hx hv hb hst hp)
theorem step2 (G : Game w ym s y hs fs) (T : TAt w ym y gt (cl : Int) i j 167 false code) (hg : gt ≠ 0) (hcl : cl <= 64) (hx : hs[i]? = some x) (hfl : s.fl + 1 < 9223372036854775808) :
  Calls Tryz.prog 43 #[fpt gt] w (StepP w ym y gt (cl : Int) i j 180 false (s.flush cl (1024 * x.no)) hs) := step_place call2 T hg (tflush_any G T hg hcl hx hfl)
theorem step3 (G : Game w ym s y hs fs) (T : TAt w ym y gt (cl : Int) i j 180 false code) (hg : gt ≠ 0) (hcl : cl <= 64) (hx : hs[i]? = some x) (hv : x.bl[j]? = some v) (hv0 : v ≠ 0) (hfe : s.fe + 1 < 9223372036854775808) :
  Calls Tryz.prog 43 #[fpt gt] w (StepP w ym y gt (cl : Int) i j 180 true (s.fence cl) (hs.set i { x with bl := x.bl.set j (settled v) })) := step_place call3 T hg (tfence_any G T hg hcl hx hv hv0 hfe)
end
end Go.Proofs.YtkbklooocdfcfaaGreatDoor
namespace Go.Proofs.YtkbklooocdfcfaaGreatDoor
open Go.RowKit
theorem callHTry : ∀ (w : World) (v : Value), (callFunc 130 #[v]).run Tryz.prog w = .ok (.enter 130 #[v]) w := fun w v => enters_of Tryz.func130 (by kernel_rfl) rfl #[v] w
theorem callHRead : ∀ (w : World) (v : Value), (callFunc 176 #[v]).run Tryz.prog w = .ok (.enter 176 #[v]) w := fun w v => enters_of Tryz.func176 (by kernel_rfl) rfl #[v] w
structure HOk (w6 : World) (ym : Lay) (gh gx t b n0 n c a T : Nat) (q : Option Addr) (key : Int) (s0 : St) (N : Nd) (S' : SS) : Prop where
 mem : MemAt w6 ym s0
 lds : Lds s0.nl n0 s0
 hd : HoAt w6 gh (HF.new (some ⟨gx, 0, none⟩) (c : Int) key (a : Int) gh)
 ka : KAt w6 t b (lk0 n)
 site : SiteAt w6 gx (some ⟨ym.g, 0, none⟩) q (some ⟨t, 0, none⟩)
 hc : c < n
 nh : ¬ ym.fp gh
 nt : ¬ ym.fp t
 nb : ¬ ym.fp b
 nx : ¬ ym.fp gx
 ht : gh ≠ t
 hb : gh ≠ b
 hx : gx ≠ gh
 xt : gx ≠ t
 xb : gx ≠ b
 nl : 0 < s0.nl
 a0 : a ≠ 0
 ga : a < 18446744073709551616
 vb : ∀ A, 0 <= ldV s0 A /\ ldV s0 A < 18446744073709551616
 goes : Goes (ldV s0) (ldK s0) (SS.new a) T S'
 d : S'.d = true
 k : S'.k = 0
 n_ : S'.n = N
 nx0 : N.nx = 0
 inv : N.inv < 0
 act : ¬ (N.act 0 false).length < N.len
 t1 : 1 <= T
 few : n0 + T <= 900000
section
variable {w6 w7 W Wl W' : World} {ym : Lay} {gh gx t b n0 n c a T i gs m : Nat} {q : Option Addr} {key : Int} {s0 s : St} {N : Nd} {S' S : SS} {F : HF} {lk : Lk}
def lkH (n c a : Nat) : Lk := tryS (lk0 n) c a
def hfR (gx : Nat) (c : Nat) (key : Int) (a gh gs : Nat) : HF := { HF.new (some ⟨gx, 0, none⟩) (c : Int) key (a : Int) gh with lk := true, sn := .pointer (some ⟨gs, 0, none⟩), nx := nextV 176 gh }
def hfE (gx : Nat) (c : Nat) (key : Int) (a gh gs : Nat) (N : Nd) : HF := { hfR gx c key a gh gs with n := N, d := true }
theorem siteK {y : Lay} {gt : Nat} (hm : MemAt W y s) (hnl : 0 < s.nl) (hs : SiteAt W gx (some ⟨y.g, 0, none⟩) q (some ⟨gt, 0, none⟩)) (hk : KAt W gt b lk) : SiteK W (some ⟨gx, 0, none⟩) (some ⟨y.g, 0, none⟩) ((64 * s.nl : Nat) : Int) (lk.n : Int) :=
 ⟨fun W2 h2 => siMem_yes (Row.below hs h2 hs.lt), fun W2 h2 => size_yes (hm.below h2), fun W2 h2 => siClients_of (siLocks_yes (Row.below hs h2 hs.lt)) (clients_yes (hk.below h2)), by omega⟩
def HKI (w6 : World) (ym : Lay) (gh gx t b n0 n c a T : Nat) (key : Int) (s0 : St) (i : Nat) (W : World) : Prop :=
 (i = 0 /\ Below w6.heap.size w6 W) \/
 (1 <= i /\ i <= T /\ ∃ w7 gs m s, But w6 w7 (fun k => k = gh \/ k = t \/ k = b) /\ KAt w7 t b (lkH n c a) /\ m <= n0 + i /\ s = { s0 with ld := s.ld } /\ s.nl = s0.nl /\ HJS w7 W ym gh gs m s (SS.it (ldV s0) (ldK s0) (i - 1) (SS.new a)) (hfR gx c key a gh gs))
def HKE (w6 : World) (ym : Lay) (gh gx t b n c a : Nat) (key : Int) (s0 : St) (N : Nd) (W : World) : Prop :=
 ∃ gs y s, HoAt W gh (hfE gx c key a gh gs N) /\ KAt W t b (lkH n c a) /\ But w6 W (fun k => ym.fp k \/ k = gh \/ k = t \/ k = b) /\ MemAt W y s /\ y.g = ym.g /\ (∀ k, y.fp k -> ym.fp k \/ w6.heap.size <= k) /\ s.nl = s0.nl /\ s = { s0 with ld := s.ld } /\ s.Ok
theorem HKI.below (h : HKI w6 ym gh gx t b n0 n c a T key s0 i W) (hb : Below W.heap.size W W') : HKI w6 ym gh gx t b n0 n c a T key s0 i W' := by
 rcases h with ⟨h0, h⟩ | ⟨h1, h2, w7, gs, m, s, h3, h4, h5, h6, h7, h8⟩
 ·exact .inl ⟨h0, Below.and h hb⟩
 ·exact .inr ⟨h1, h2, w7, gs, m, s, h3, h4, h5, h6, h7, h8.below hb⟩
theorem HKE.below (h : HKE w6 ym gh gx t b n c a key s0 N W) (hb : Below W.heap.size W W') : HKE w6 ym gh gx t b n c a key s0 N W' := by
 obtain ⟨gs, y, s, h1, h2, h3, h4, h5, h6, h7⟩ := h
 exact ⟨gs, y, s, h1.below hb, h2.below hb, h3.trans (But.of_below hb (fun k => ym.fp k \/ k = gh \/ k = t \/ k = b)) fun q hq => .inl hq, h4.below hb, h5, h6, h7⟩
theorem hk_begin (O : HOk w6 ym gh gx t b n0 n c a T q key s0 N S') (hb : Below w6.heap.size w6 W) :
  Calls Tryz.prog 59 #[.pointer (some ⟨gh, 0, none⟩)] W fun e w' => e = .returned (.tuple #[.bool false, .int .i64 0]) /\ HKI w6 ym gh gx t b n0 n c a T key s0 1 w' := by
 have hd := O.hd.below hb
 have hm := O.mem.below hb
 have hs : SiteAt W gx (some ⟨ym.g, 0, none⟩) q (some ⟨t, 0, none⟩) := Row.below O.site hb O.site.lt
 have hk := O.ka.below hb
 have K := siteK hm O.nl hs hk
 have hW := hoWrong_in hd K (show (0 : Int) <= (c : Int) by omega) (by show (a : Int) ≠ 0; have := O.a0; omega) (by have := O.hc; show (c : Int) < (n : Int); omega)
 refine hoStep_next (s := HF.new (some ⟨gx, 0, none⟩) (c : Int) key (a : Int) gh) (D := false) (f := 130) hd rfl rfl hW callHTry (fun W1 hb1 => ?_) (fun w' h => ?_) (fun W W' h hb => h.below hb)
 ·have hd1 := hd.below hb1
  have hb6 := Below.and hb hb1
  refine hoTry_yes (t := some ⟨t, 0, none⟩) (m := some ⟨ym.g, 0, none⟩) (R := fun w2 => KAt w2 t b (lkH n c a) /\ But w6 w2 (fun k => k = t \/ k = b)) hd1 (fun W2 hb2 => siLocks_yes (Row.below (Row.below hs hb1 hs.lt) hb2 (by have := hs.lt; have := hb1.size; omega))) (fun W2 hb2 => ?_) (fun w2 hR h2 => ?_)
  ·refine (try_any ((hk.below hb1).below hb2) (c := c) (id := a) O.hc O.a0 O.ga (by show 0 < 1000000; decide)).mono ?_
   rintro e w' ⟨rfl, hk', hbt⟩
   refine ⟨rfl, (hd1.below hb2).but hbt (fun e => e.elim O.ht O.hb), hk', (But.of_below (Below.and hb6 hb2) (fun k => k = t \/ k = b)).trans hbt fun q hq => .inl hq⟩
  ·have h2' := h2.locked true
   have hbw : But w6 (w2.setCell ⟨gh, 29, none⟩ (.bool true)) (fun k => k = gh \/ k = t \/ k = b) := (hR.2.mono (q := fun k => k = gh \/ k = t \/ k = b) fun k hk => .inr hk).set (p := ⟨gh, 29, none⟩) (.inl rfl) _
   obtain ⟨w7, hw7⟩ : ∃ w7, w7 = w2.setCell ⟨gh, 29, none⟩ (.bool true) := ⟨_, rfl⟩
   have hk7 : KAt w7 t b (lkH n c a) := by
    rw [hw7]
    exact hR.1.but ((But.refl w2 (fun q => q = gh)).set (p := ⟨gh, 29, none⟩) rfl _) (fun e => O.ht e.symm) (fun e => O.hb e.symm)
   rw [<- hw7] at h2' hbw ⊢
   have hm7 : MemAt w7 ym s0 := O.mem.but hbw fun k hk e => by
    rcases e with e | e | e
    ·exact O.nh (e ▸ hk)
    ·exact O.nt (e ▸ hk)
    ·exact O.nb (e ▸ hk)
   have hs7 : SiteAt w7 gx (some ⟨ym.g, 0, none⟩) q (some ⟨t, 0, none⟩) := hbw.row O.site fun e => by
    rcases e with e | e | e
    ·exact O.hx e
    ·exact O.xt e
    ·exact O.xb e
   refine (hoLook_any h2' (fun W3 hb3 => siMem_yes (Row.below hs7 hb3 hs7.lt))).mono ?_
   rintro e w' ⟨rfl, gs, h3, hr3, hge, hne, hb3⟩
   refine ⟨rfl, .inr ⟨Nat.le_refl _, O.t1, w7, gs, n0, s0, hbw, hk7, by omega, rfl, rfl, ⟨⟨ym, hm7.but hb3 (fun k hk e => O.nh (e ▸ hk)), rfl, fun k hk => .inl hk, fun hf => ?_, O.nh⟩, ⟨_, hr3, zeroS_is _ _ _⟩, h3, O.lds, hne, hge, hb3.mono fun q hq => .inr hq⟩⟩⟩
   have := hm7.lt gs hf
   omega
 ·rcases h with ⟨h0, _⟩ | ⟨_, _, w7, gs, m, s, _, _, _, _, _, hj⟩
  ·omega
  ·exact ⟨_, hj.wk, rfl, rfl⟩
theorem HJS.kept (O : HOk w6 ym gh gx t b n0 n c a T q key s0 N S') (hbw : But w6 w7 (fun k => k = gh \/ k = t \/ k = b)) (hk : KAt w7 t b (lkH n c a)) (h : HJS w7 W ym gh gs m s S F) :
  KAt W t b (lkH n c a) /\ SiteAt W gx (some ⟨ym.g, 0, none⟩) q (some ⟨t, 0, none⟩) := by
 refine ⟨hk.but h.but (fun e => e.elim O.nt fun e => O.ht e.symm) (fun e => e.elim O.nb fun e => O.hb e.symm), h.but.row (hbw.row O.site fun e => ?_) fun e => e.elim O.nx O.hx⟩
 rcases e with e | e | e
 ·exact O.hx e
 ·exact O.xt e
 ·exact O.xb e
theorem HJS.wrong (O : HOk w6 ym gh gx t b n0 n c a T q key s0 N S') (hbw : But w6 w7 (fun k => k = gh \/ k = t \/ k = b)) (hk : KAt w7 t b (lkH n c a)) (h : HJS w7 W ym gh gs m s S (hfR gx c key a gh gs)) (hn : s.nl = s0.nl) :
  Calls Tryz.prog 101 #[.pointer (some ⟨gh, 0, none⟩)] W fun e w' => e = .returned (.int .i64 0) /\ Below W.heap.size W w' := by
 obtain ⟨hk2, hs2⟩ := h.kept O hbw hk
 obtain ⟨y, hm, hg, _⟩ := h.ex
 rw [<- hg] at hs2
 have K := siteK hm (by rw [hn]; exact O.nl) hs2 hk2
 exact hoWrong_in h.wk K (show (0 : Int) <= (c : Int) by omega) (by show (a : Int) ≠ 0; have := O.a0; omega) (by have := O.hc; rw [show (lkH n c a).n = n from tryS_n _ _ _]; show (c : Int) < (n : Int); omega)
theorem hk_step (O : HOk w6 ym gh gx t b n0 n c a T q key s0 N S') (hi : i <= T) (h : HKI w6 ym gh gx t b n0 n c a T key s0 i W) :
  Calls Tryz.prog 59 #[.pointer (some ⟨gh, 0, none⟩)] W fun e w' => e = .returned (.tuple #[.bool (decide (i = T)), .int .i64 0]) /\ (i < T -> HKI w6 ym gh gx t b n0 n c a T key s0 (i + 1) w') /\ (i = T -> HKE w6 ym gh gx t b n c a key s0 N w') := by
 rcases h with ⟨rfl, h⟩ | ⟨h1, h2, w7, gs, m, s, hbw, hk7, hm7, hv, hn, hj⟩
 ·have ht1 := O.t1
  refine (hk_begin O h).mono ?_
  rintro e w' ⟨rfl, h3⟩
  exact ⟨by rw [decide_eq_false (by omega)], fun _ => h3, fun e => by omega⟩
 ·have hvs := hv
  replace hv : s.view = s0.view := by rw [hvs]
  obtain ⟨u, rfl⟩ : ∃ u, i = u + 1 := ⟨i - 1, by omega⟩
  rw [Nat.add_sub_cancel] at hj
  have hfew := O.few
  have hW := hj.wrong O hbw hk7 hn
  obtain ⟨S, hS⟩ : ∃ S, S = SS.it (ldV s0) (ldK s0) u (SS.new a) := ⟨_, rfl⟩
  have hG : S.Good := by rw [hS]; exact it_good O.vb (new_SGood O.ga) u (fun v hv => O.goes.on v (by omega))
  have hgo : S.go (ldV s0) (ldK s0) = SS.it (ldV s0) (ldK s0) (u + 1) (SS.new a) := by rw [hS]; rfl
  have e1 : ldV s = ldV s0 := by funext A; unfold ldV; rw [hv, hn]
  have e2 : ldK s = ldK s0 := by funext A; unfold ldK; rw [hn]
  rw [<- hS] at hj
  have hfp : ∀ k, ym.fp k -> k < w7.heap.size := fun k hk => Nat.lt_of_lt_of_le (O.mem.lt k hk) hbw.size
  have hst : ∀ W1, Below W.heap.size W W1 -> _ := fun W1 hb1 => hj.step hb1 (by omega) hG hfp
  rw [e1, e2, hgo] at hst
  have hsl : (ldS s S.ask) = { s0 with ld := (ldS s S.ask).ld } /\ (ldS s S.ask).nl = s0.nl := by
   unfold ldS
   split
   ·exact ⟨congrArg (fun x : St => { x with ld := s.ld + 1 }) hvs, hn⟩
   ·exact ⟨hvs, hn⟩
  by_cases hlast : u + 1 = T
  ·have e3 : SS.it (ldV s0) (ldK s0) (u + 1) (SS.new a) = S' := by rw [hlast]; exact O.goes.it
   rw [e3, O.d, O.k] at hst
   refine (hoStep_next (s := hfR gx c key a gh gs) (D := true) (f := 176) (P := fun w' => HKE w6 ym gh gx t b n c a key s0 N w') hj.wk rfl rfl hW callHRead (fun W1 hb1 => ?_) (fun w' ⟨gs, y, s, h3, _⟩ => ⟨_, h3, rfl, rfl⟩) (fun W W' h hb => h.below hb)).mono ?_
   ·refine hoRead_then (gs := gs) (hj.wk.below hb1) rfl (hst W1 hb1) (fun w' ⟨hj2, _⟩ => ?_)
    have hnl2 : 0 < (ldS s S.ask).nl := by rw [hsl.2]; exact O.nl
    have hN : ∀ W2, Below w'.heap.size w' W2 -> Calls Tryz.prog 192 #[.pointer (some ⟨gs, 0, none⟩)] W2 fun e w2 => e = .returned (.tuple #[N.V, .int .i64 0]) /\ Below W2.heap.size W2 w2 := fun W2 hb2 => by
     obtain ⟨y, hsa⟩ := hj2.at_
     exact hsa.nodeD hnl2 O.d O.k O.n_ W2 hb2
    have hH : ∀ W2, Below w'.heap.size w' W2 -> Calls Tryz.prog 193 #[.pointer (some ⟨gs, 0, none⟩)] W2 fun e w2 => e = .returned (.tuple #[.int .u64 0, .bool false]) /\ Below W2.heap.size W2 w2 := fun W2 hb2 => by
     obtain ⟨y, hsa⟩ := hj2.at_
     exact hsa.high0 hnl2 O.d O.k O.n_ (.inr O.nx0) W2 hb2
    refine (hoSeen_done hj2.wk rfl hN hH O.inv O.act).mono ?_
    rintro e w2 ⟨rfl, h3, hb3⟩
    obtain ⟨y, hm, hg, hf, _, hng⟩ := hj2.ex
    obtain ⟨hk2, _⟩ := hj2.kept O hbw hk7
    refine ⟨rfl, gs, y, _, h3, hk2.but hb3 (fun e => O.ht e.symm) (fun e => O.hb e.symm), ?_, hm.but hb3 (fun k hk e => hng (e ▸ hk)), hg, fun k hk => ?_, hsl.2, hsl.1, hj2.lds.ok⟩
    ·refine ((hbw.mono (q := fun k => ym.fp k \/ k = gh \/ k = t \/ k = b) fun k hk => .inr hk).trans hj2.but fun k hk => ?_).trans hb3 fun k hk => .inl (.inr (.inl hk))
     rcases hk with hk | hk
     ·exact .inl (.inl hk)
     ·exact .inl (.inr (.inl hk))
    ·rcases hf k hk with h4 | h4
     ·exact .inl h4
     ·exact .inr (Nat.le_trans hbw.size h4)
   ·rintro e w' ⟨rfl, h3⟩
    exact ⟨by rw [decide_eq_true hlast], fun e => by omega, fun _ => h3⟩
  ·have hd := O.goes.on (u + 1) (by omega)
   have hk : (SS.it (ldV s0) (ldK s0) (u + 1) (SS.new a)).k = 0 := by
    rw [<- hgo] at hd ⊢
    exact next_k hd
   rw [hd, hk] at hst
   refine (hoStep_next (s := hfR gx c key a gh gs) (D := false) (f := 176) (P := fun w' => HKI w6 ym gh gx t b n0 n c a T key s0 (u + 1 + 1) w') hj.wk rfl rfl hW callHRead (fun W1 hb1 => ?_) (fun w' h3 => ?_) (fun W W' h hb => h.below hb)).mono ?_
   ·refine (hoRead_more (gs := gs) (hj.wk.below hb1) rfl (hst W1 hb1)).mono ?_
    rintro e w' ⟨rfl, hj2, _⟩
    exact ⟨rfl, .inr ⟨by omega, by omega, w7, gs, m + 1, _, hbw, hk7, by omega, hsl.1, hsl.2, hj2⟩⟩
   ·rcases h3 with ⟨h0, _⟩ | ⟨_, _, w8, gs2, m2, s2, _, _, _, _, _, hj2⟩
    ·omega
    ·exact ⟨_, hj2.wk, rfl, rfl⟩
   ·rintro e w' ⟨rfl, h3⟩
    exact ⟨by rw [decide_eq_false hlast], fun _ => h3, fun e => by omega⟩
end
end Go.Proofs.YtkbklooocdfcfaaGreatDoor
