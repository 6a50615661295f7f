/- Texts of this claim, packed: LTurn, LPub, LStep, LGame, LPlace, LBits, LSBits. -/
import Derived.Test.YtahojhaeebmpoaaGreatDoorPq29
import Derived.Laws.EntriesVeiled
/- refused, turn: may there be a turn of a block, and one that begins. -/
namespace Go.Proofs.YtahojhaeebmpoaaGreatDoor
open Go.RowKit Go.Sort
set_option linter.unusedVariables false
theorem isAt_one {hs : List Hd} (ok : HsOk hs) (hm : hs.length ≤ 64) {a u v : Nat} (h : isAt hs a u) (h' : isAt hs a v) : u = v := by
  rcases h with ⟨i, j, x, hx, hj, ha, hb⟩ | ⟨hn, rfl⟩
  · rcases h' with ⟨i', j', x', hx', hj', ha', hb'⟩ | ⟨hn, _⟩
    · obtain ⟨rfl, rfl⟩ := found_one ok hm ⟨x, hx, hj, ha⟩ ⟨x', hx', hj', ha'⟩
      rw [hx] at hx'
      cases hx'
      rw [hb] at hb'
      exact Option.some.inj hb'
    · exact absurd ⟨x, hx, hj, ha⟩ (hn i j)
  · rcases h' with ⟨i', j', x', hx', hj', ha', hb'⟩ | ⟨_, rfl⟩
    · exact absurd ⟨x', hx', hj', ha'⟩ (hn i' j')
    · rfl
/-- Is a memory the arena's, a client one? -/
def fitsM (nl n : Nat) (c : Int) : Bool := decide (64 * nl = 1024 * (n + 1)) && inB c 0 64
set_option maxRecDepth 100000 in
theorem refused_is {w : World} {y : SLay} {hs : List Hd} {fs : Nat → List Nat} (h : SlabMem w y hs fs) (ok : HsOk hs) (R : Rms w) {ym : Lay} {s : St} (hm : MemAt w ym s) {c : Int} (hf : fitsM s.nl hs.length c = true) {a v is : Nat} (hv : isAt hs a v) :
    Calls Tryz.prog 71 #[fpt y.gs, fpt ym.g, .int .i64 c, wv a, jv is] w fun e w' => e = .returned (.int .i64 (if v = is then 0 else 7)) ∧ Below w.heap.size w w' := by
  have H := Lib.hid (snone_at h)
  have HZ := Lib.hid (size_yes hm)
  have HN := Lib.hid (slabs_at h)
  have HG := Lib.hid (size_any (hs.length : Int) w)
  have hpos := h.pos
  have hmost := h.most
  have e1 : sizeN (hs.length : Int) = ((1024 * (hs.length + 1) : Nat) : Int) := by unfold sizeN; rw [if_pos (by omega)]; omega
  rw [e1] at HG
  have hz0 : (((64 * s.nl : Nat) : Int) == 0) = false := by rw [Bool.eq_false_iff]; intro k; have := beq_iff_eq.1 k; have := hm.pos; omega
  have hns := hm.most
  have hi0 := is_any h ok R a
  have hi1 : Calls Tryz.prog 14 #[fpt y.gs, wv a] w fun e w' => e = .returned (.int .i64 (v : Int)) ∧ Below w.heap.size w w' := hi0.mono fun e w' ⟨⟨u, hu, he⟩, hb⟩ => by
    obtain rfl := isAt_one ok hmost hu hv
    exact ⟨he, hb⟩
  have HI := Lib.hid hi1
  unfold fpt at H HN HI ⊢
  unfold wv at HI ⊢
  unfold jv
  unfold fitsM at hf
  simp only [Bool.and_eq_true, decide_eq_true_eq] at hf
  obtain ⟨hs1, hf⟩ := hf
  have HC := Lib.hid (sClient_at hf w)
  generalize hs.length = n at *
  obtain ⟨gs, hgs⟩ : ∃ g, g = y.gs := ⟨_, rfl⟩
  obtain ⟨gm, hgm⟩ : ∃ g, g = ym.g := ⟨_, rfl⟩
  rw [← hgs] at H HN HI ⊢
  rw [← hgm] at HZ ⊢
  rw [hs1] at HZ hz0
  have hne : (((1024 * (n + 1) : Nat) : Int) != ((1024 * (n + 1) : Nat) : Int)) = false := by simp
  obtain ⟨Z, hZ⟩ : ∃ Z, Z = 1024 * (n + 1) := ⟨_, rfl⟩
  rw [← hZ] at HZ hz0 HG hne
  clear h ok R hm hgs hgm e1 hi0 hi1 hs1 hf hZ hv
  by_cases hvi : v = is
  · rw [if_pos hvi]
    have hd : ((v : Int) != (is : Int)) = false := by rw [hvi]; simp
    clear hvi
    go_enter Tryz.func71, Tryz.ntmps71
    go_wp2_with fail
    refine H.out.mono ?_
    rintro e w1 ⟨rfl, rfl⟩
    go_wp2_with fail
    refine HZ.out.mono ?_
    rintro e w1 ⟨rfl, rfl⟩
    go_wp2_with fail
    refine HZ.out.mono ?_
    rintro e w1 ⟨rfl, rfl⟩
    go_wp2_with fail
    refine HN.out.mono ?_
    rintro e w1 ⟨rfl, rfl⟩
    go_wp2_with fail
    refine HG.out.mono ?_
    rintro e w1 ⟨rfl, rfl⟩
    go_wp2_with fail
    refine HC.out.mono ?_
    rintro e w1 ⟨rfl, rfl⟩
    go_wp2_with fail
    refine HI.out.mono ?_
    rintro e w1 ⟨rfl, hb⟩
    have HB := Lib.hid hb
    clear hb
    go_wp2
    go_ret
    exact ⟨rfl, HB.out⟩
  · rw [if_neg hvi]
    have hd : ((v : Int) != (is : Int)) = true := by rw [bne_iff_ne]; omega
    clear hvi
    go_enter Tryz.func71, Tryz.ntmps71
    go_wp2_with fail
    refine H.out.mono ?_
    rintro e w1 ⟨rfl, rfl⟩
    go_wp2_with fail
    refine HZ.out.mono ?_
    rintro e w1 ⟨rfl, rfl⟩
    go_wp2_with fail
    refine HZ.out.mono ?_
    rintro e w1 ⟨rfl, rfl⟩
    go_wp2_with fail
    refine HN.out.mono ?_
    rintro e w1 ⟨rfl, rfl⟩
    go_wp2_with fail
    refine HG.out.mono ?_
    rintro e w1 ⟨rfl, rfl⟩
    go_wp2_with fail
    refine HC.out.mono ?_
    rintro e w1 ⟨rfl, rfl⟩
    go_wp2_with fail
    refine HI.out.mono ?_
    rintro e w1 ⟨rfl, hb⟩
    have HB := Lib.hid hb
    clear hb
    go_wp2
    go_ret
    exact ⟨rfl, HB.out⟩
/-- A turn's struct, as it lies. -/
def tcells (gs gm : Nat) (c : Int) (gh i j : Nat) (pl : Value) (done : Bool) (code : Int) : Array Value :=
  #[fpt gs, fpt gm, .int .i64 c, .pointer (some ⟨gh, i * 4, none⟩), jv j, pl, .bool done, .int .i64 code]
def place (f : FuncId) (gt : Nat) : Value := .func (.func f) #[fpt gt] #[]
set_option maxRecDepth 100000 in
set_option maxHeartbeats 1600000 in
theorem turn_any {w : World} {y : SLay} {hs : List Hd} {fs : Nat → List Nat} (h : SlabMem w y hs fs) (ok : HsOk hs) (R : RS w y) {i j a : Nat} {x : Hd} (hx : hs[i]? = some x) (hj : j < x.bl.length) (ha : adr x.no x.cls j = a) (gm : Nat) (c : Int) (is : Nat) :
    Calls Tryz.prog 72 #[fpt y.gs, fpt gm, .int .i64 c, wv a, jv is] w fun e w' => ∃ gt, e = .returned (fpt gt) ∧ Row w' gt 165 (tcells y.gs gm c y.gh i j (place 99 gt) false 0) ∧ w.heap.size ≤ gt ∧ SlabMem w' y (hs.set i { x with bl := x.bl.set j is }) fs ∧ STurn w w' y y := by
  have hf0 : Found hs a i j := ⟨x, hx, hj, ha⟩
  have HF := Lib.hid (find_any h ok R.1 a)
  have HM := Lib.hid h
  have HO := Lib.hid ok
  have HX := Lib.hid hx
  have HJ := Lib.hid hj
  have HF0 := Lib.hid hf0
  obtain ⟨gs, hgs⟩ : ∃ g, g = y.gs := ⟨_, rfl⟩
  obtain ⟨gh, hgh⟩ : ∃ g, g = y.gh := ⟨_, rfl⟩
  unfold fpt at HF
  unfold wv at HF ⊢
  rw [← hgs] at HF ⊢
  rw [← hgh]
  have HGH := Lib.hid hgh
  clear h ok R hx hj ha hf0 hgs hgh
  unfold fpt jv
  go_enter Tryz.func72, Tryz.ntmps72
  go_wp2_with fail
  refine HF.out.mono ?_
  rintro e w1 ⟨hf, hb⟩
  have HB := Lib.hid hb
  rcases hf with ⟨i', j', hf', rfl⟩ | ⟨hn, rfl⟩
  · obtain ⟨rfl, rfl⟩ := found_one HO.out HM.out.most hf' HF0.out
    have hm1 := HM.out.below hb
    have hl15 := (HM.out.lens x (List.mem_of_getElem? HX.out)).1
    have hxl := HJ.out
    obtain ⟨g, hsh, hrow⟩ := (hm1.blk i' x HX.out).pos (by omega)
    have hown : (y.bv i').ownBlock = some g := by rw [hsh]; rfl
    have c3 := (hm1.head HX.out).2.2.2
    rw [hsh, ← HGH.out] at c3
    have cj := hrow.cell j'
    rw [List.getElem?_toArray, List.getElem?_map, List.getElem?_eq_getElem hxl, Option.map_some] at cj
    obtain ⟨u, cj'⟩ : ∃ u, w1.cell? ⟨g, j', none⟩ = some u := ⟨_, cj⟩
    have fj := hrow.free j'
    obtain ⟨hp, tp⟩ := hm1.put_bl (j := j') HX.out hown is
    have HP := Lib.hid hp
    have HT := Lib.hid ((STurn.of_below y hb).trans tp)
    rw [← HGH.out]
    clear hf' hb hm1 hsh hrow hown hp tp HF cj
    generalize x.bl.length = q at *
    unfold jv at HP HT ⊢
    go_upto_region 4 with (fail)
    obtain ⟨W2, hW2⟩ : ∃ W2, W2 = (w1.setCell ⟨g, j', none⟩ (.int .i64 (is : Int))).alloc (.cells #[.pointer (some ⟨gs, 0, none⟩), .pointer (some ⟨gm, 0, none⟩), .int .i64 c, .pointer (some ⟨gh, i' * 4, none⟩), .int .i64 (j' : Int), Value.nilFunc, .bool false, .int .i64 0] 165) := ⟨_, rfl⟩
    rw [← hW2]
    obtain ⟨gt, hgt⟩ : ∃ gt, gt = w1.heap.size := ⟨_, rfl⟩
    rw [← hgt]
    have hrt : Row W2 gt 165 #[.pointer (some ⟨gs, 0, none⟩), .pointer (some ⟨gm, 0, none⟩), .int .i64 c, .pointer (some ⟨gh, i' * 4, none⟩), .int .i64 (j' : Int), Value.nilFunc, .bool false, .int .i64 0] := by
      rw [hW2]
      exact rowAt (by rw [size_set]; exact hgt)
    have c5 := hrt.cell 5
    simp only [List.getElem?_toArray, List.getElem?_cons_succ, List.getElem?_cons_zero] at c5
    have f5 := hrt.free 5
    have hg2 : w.heap.size ≤ gt := by rw [hgt]; exact HB.out.size
    have HE := Lib.hid (show Row (W2.setCell ⟨gt, 5, none⟩ (.func (.func 99) #[.pointer (some ⟨gt, 0, none⟩)] #[])) gt 165 (tcells gs gm c gh i' j' (place 99 gt) false 0) ∧ w.heap.size ≤ gt ∧ SlabMem (W2.setCell ⟨gt, 5, none⟩ (.func (.func 99) #[.pointer (some ⟨gt, 0, none⟩)] #[])) y (hs.set i' { x with bl := x.bl.set j' is }) fs ∧ STurn w (W2.setCell ⟨gt, 5, none⟩ (.func (.func 99) #[.pointer (some ⟨gt, 0, none⟩)] #[])) y y from by
      have b2 : Below (w1.setCell ⟨g, j', none⟩ (.int .i64 (is : Int))).heap.size (w1.setCell ⟨g, j', none⟩ (.int .i64 (is : Int))) (W2.setCell ⟨gt, 5, none⟩ (.func (.func 99) #[.pointer (some ⟨gt, 0, none⟩)] #[])) := by
        rw [hW2]
        exact ((Below.refl _ _).alloc (Nat.le_refl _) _).setCell (p := ⟨gt, 5, none⟩) (by rw [size_set, hgt]; exact Nat.le_refl _) _
      exact ⟨hrt.set 5 _, hg2, HP.out.below b2, HT.out.trans (STurn.of_below y b2)⟩)
    clear hW2 hgt hrt hg2 cj' fj c3
    go_wp2

    go_ret
    exact ⟨gt, rfl, HE.out⟩
  · exact absurd HF0.out (hn i j)
end Go.Proofs.YtahojhaeebmpoaaGreatDoor
/- Publish, Free: a turn that begins, or why there is none. -/
namespace Go.Proofs.YtahojhaeebmpoaaGreatDoor
open Go.RowKit Go.Sort
set_option linter.unusedVariables false
/-- A turn that begins, of the block j of the slab i, which is b meanwhile. -/
def Began (w : World) (y : SLay) (hs : List Hd) (fs : Nat → List Nat) (i j : Nat) (x : Hd) (gm : Nat) (c : Int) (is : Nat) (e : Ending) (w' : World) : Prop :=
  ∃ gt, e = .returned (.tuple #[fpt gt, .int .i64 0]) ∧ Row w' gt 165 (tcells y.gs gm c y.gh i j (place 99 gt) false 0) ∧ w.heap.size ≤ gt ∧ SlabMem w' y (hs.set i { x with bl := x.bl.set j is }) fs ∧ STurn w w' y y

set_option maxRecDepth 100000 in
theorem publish_ok {w : World} {y : SLay} {hs : List Hd} {fs : Nat → List Nat} (h : SlabMem w y hs fs) (ok : HsOk hs) (R : RS w y) {ym : Lay} {s : St} (hm : MemAt w ym s) {c : Int} (hf : fitsM s.nl hs.length c = true) {i j a : Nat} {x : Hd} (hx : hs[i]? = some x) (hj : x.bl[j]? = some 1) (ha : adr x.no x.cls j = a) :
    Calls Tryz.prog 31 #[fpt y.gs, fpt ym.g, .int .i64 c, wv a] w (Began w y hs fs i j x ym.g c 4) := by
  have hjl := (List.getElem?_eq_some_iff.1 hj).1
  have hv : isAt hs a 1 := .inl ⟨i, j, x, hx, hjl, ha, hj⟩
  have HR0 := refused_is h ok R.1 hm hf (is := 1) hv
  rw [if_pos rfl] at HR0
  have HT := Lib.hid fun (W : World) (hb : Below w.heap.size w W) => turn_any (h.below hb) ok (R.below hb) hx hjl ha ym.g c 4
  have HK := Lib.hid (show ∀ (W W' : World) (gt : Nat), Below w.heap.size w W → (Row W' gt 165 (tcells y.gs ym.g c y.gh i j (place 99 gt) false 0) ∧ W.heap.size ≤ gt ∧ SlabMem W' y (hs.set i { x with bl := x.bl.set j 4 }) fs ∧ STurn W W' y y) → Began w y hs fs i j x ym.g c 4 (.returned (.tuple #[fpt gt, .int .i64 0])) W' from fun W W' gt hb ⟨h1, h2, h3, h4⟩ => ⟨gt, rfl, h1, Nat.le_trans hb.size h2, h3, (STurn.of_below y hb).trans h4⟩)
  have HR := Lib.hid HR0
  obtain ⟨gs, hgs⟩ : ∃ g, g = y.gs := ⟨_, rfl⟩
  obtain ⟨gm, hgm⟩ : ∃ g, g = ym.g := ⟨_, rfl⟩
  unfold fpt wv jv at HR
  rw [← hgs, ← hgm] at HR HT ⊢
  rw [← hgs, ← hgm] at HK
  unfold fpt wv jv at HT
  unfold fpt wv
  unfold fpt at HK
  rw [show (((1 : Nat)) : Int) = 1 from rfl] at HR
  rw [show (((4 : Nat)) : Int) = 4 from rfl] at HT
  clear h ok R hm hf hx hj ha hjl hv HR0 hgm hgs
  go_enter Tryz.func31, Tryz.ntmps31
  go_wp2_with fail
  refine HR.out.mono ?_
  rintro e w1 ⟨rfl, hb⟩
  have HB := Lib.hid hb
  have HT1 := Lib.hid (HT.out w1 hb)
  clear hb HR HT
  go_wp2_with fail
  refine HT1.out.mono ?_
  rintro e w2 ⟨gt, rfl, hrest⟩
  have HE := Lib.hid (HK.out w1 w2 gt HB.out hrest)
  clear hrest
  go_wp2
  go_ret2
  exact HE.out

set_option maxRecDepth 100000 in
theorem free_ok {w : World} {y : SLay} {hs : List Hd} {fs : Nat → List Nat} (h : SlabMem w y hs fs) (ok : HsOk hs) (R : RS w y) {ym : Lay} {s : St} (hm : MemAt w ym s) {c : Int} (hf : fitsM s.nl hs.length c = true) {i j a : Nat} {x : Hd} (hx : hs[i]? = some x) (hj : x.bl[j]? = some 2) (ha : adr x.no x.cls j = a) :
    Calls Tryz.prog 54 #[fpt y.gs, fpt ym.g, .int .i64 c, wv a] w (Began w y hs fs i j x ym.g c 3) := by
  have hjl := (List.getElem?_eq_some_iff.1 hj).1
  have hv : isAt hs a 2 := .inl ⟨i, j, x, hx, hjl, ha, hj⟩
  have HR0 := refused_is h ok R.1 hm hf (is := 2) hv
  rw [if_pos rfl] at HR0
  have HT := Lib.hid fun (W : World) (hb : Below w.heap.size w W) => turn_any (h.below hb) ok (R.below hb) hx hjl ha ym.g c 3
  have HK := Lib.hid (show ∀ (W W' : World) (gt : Nat), Below w.heap.size w W → (Row W' gt 165 (tcells y.gs ym.g c y.gh i j (place 99 gt) false 0) ∧ W.heap.size ≤ gt ∧ SlabMem W' y (hs.set i { x with bl := x.bl.set j 3 }) fs ∧ STurn W W' y y) → Began w y hs fs i j x ym.g c 3 (.returned (.tuple #[fpt gt, .int .i64 0])) W' from fun W W' gt hb ⟨h1, h2, h3, h4⟩ => ⟨gt, rfl, h1, Nat.le_trans hb.size h2, h3, (STurn.of_below y hb).trans h4⟩)
  have HR := Lib.hid HR0
  obtain ⟨gs, hgs⟩ : ∃ g, g = y.gs := ⟨_, rfl⟩
  obtain ⟨gm, hgm⟩ : ∃ g, g = ym.g := ⟨_, rfl⟩
  unfold fpt wv jv at HR
  rw [← hgs, ← hgm] at HR HT ⊢
  rw [← hgs, ← hgm] at HK
  unfold fpt wv jv at HT
  unfold fpt wv
  unfold fpt at HK
  rw [show (((2 : Nat)) : Int) = 2 from rfl] at HR
  rw [show (((3 : Nat)) : Int) = 3 from rfl] at HT
  clear h ok R hm hf hx hj ha hjl hv HR0 hgm hgs
  go_enter Tryz.func54, Tryz.ntmps54
  go_wp2_with fail
  refine HR.out.mono ?_
  rintro e w1 ⟨rfl, hb⟩
  have HB := Lib.hid hb
  have HT1 := Lib.hid (HT.out w1 hb)
  clear hb HR HT
  go_wp2_with fail
  refine HT1.out.mono ?_
  rintro e w2 ⟨gt, rfl, hrest⟩
  have HE := Lib.hid (HK.out w1 w2 gt HB.out hrest)
  clear hrest
  go_wp2
  go_ret2
  exact HE.out
end Go.Proofs.YtahojhaeebmpoaaGreatDoor
/- A turn's step, of whatever its place does; of no turn, a zero one, one that is done. -/
namespace Go.Proofs.YtahojhaeebmpoaaGreatDoor
open Go.RowKit Go.Sort
set_option linter.unusedVariables false
attribute [local go_sem] Oper.semAt_some
theorem eqFn6 (w : World) (g : Nat) (fi lb : Array Value) : (binOp .eql 163 (.func (.func g) fi lb) .nilFunc).run Tryz.prog w = .ok (.bool false) w := by kernel_rfl
theorem guardFn6 (w : World) (g : Nat) (fi lb : Array Value) (x : Operand) : (eqGuard .eql 163 x (.const .nilFunc) (.func (.func g) fi lb) .nilFunc).run Tryz.prog w = .ok () w := by kernel_rfl
/-- What a step makes of the world behind its place's call. -/
def stepW (w1 : World) (gt : Nat) (d : Bool) (k : Int) : World := (w1.setCell ⟨gt, 7, none⟩ (.int .i64 k)).setCell ⟨gt, 6, none⟩ (.bool d)
def StepPost (P : World → Prop) (gt : Nat) (d : Bool) (k : Int) (e : Ending) (w' : World) : Prop := e = .returned (.tuple #[.bool d, .int .i64 k]) ∧ ∃ w1, P w1 ∧ Below (stepW w1 gt d k).heap.size (stepW w1 gt d k) w'
set_option maxRecDepth 100000 in
set_option maxHeartbeats 1600000 in
theorem step_of {w : World} {gs gm gh i j gt : Nat} {c code code' : Int} {f f' : Nat} {d' : Bool} {P : World → Prop} (hcall : ∀ (w : World) (v : Value), (callFunc f #[v]).run Tryz.prog w = .ok (.enter f #[v]) w) (hr : Row w gt 165 (tcells gs gm c gh i j (place f gt) false code))
    (H : Calls Tryz.prog f #[fpt gt] w fun e w' => e = .returned (.int .i64 0) ∧ Row w' gt 165 (tcells gs gm c gh i j (place f' gt) d' code') ∧ P w') :
    Calls Tryz.prog 101 #[fpt gt] w (StepPost P gt d' 0) := by
  have mixed : Tryz.prog.follows .mixedOrders = true := by kernel_rfl
  have c5 := hr.cell 5
  have c6 := hr.cell 6
  simp only [tcells, List.getElem?_toArray, List.getElem?_cons_succ, List.getElem?_cons_zero] at c5 c6
  unfold place fpt at c5
  have q1 := fun w => eqFn6 w f #[.pointer (some ⟨gt, 0, none⟩)] #[]
  have q2 := fun w => guardFn6 w f #[.pointer (some ⟨gt, 0, none⟩)] #[] (.tmp 11)
  have H := Lib.hid H
  unfold fpt at H ⊢
  clear hr
  go_enter Tryz.func101, Tryz.ntmps101
  go_wp2_with fail
  refine H.out.mono ?_
  rintro e w1 ⟨rfl, hr1, hp⟩
  have d6 := hr1.cell 6
  have d7 := hr1.cell 7
  simp only [tcells, List.getElem?_toArray, List.getElem?_cons_succ, List.getElem?_cons_zero] at d6 d7
  have g6 := hr1.free 6
  have g7 := hr1.free 7
  have HP := Lib.hid hp
  have HR := Lib.hid hr1
  clear hp hr1 c5 c6 q1 q2 H
  cases d' with
  | true =>
    go_wp2_with fail
    obtain ⟨W2, hW2⟩ : ∃ W2, W2 = (w1.setCell ⟨gt, 7, none⟩ (.int .i64 0)).setCell ⟨gt, 6, none⟩ (.bool true) := ⟨_, rfl⟩
    rw [← hW2]
    have hrw : Row W2 gt 165 ((tcells gs gm c gh i j (place f' gt) true code').setIfInBounds 7 (.int .i64 0) |>.setIfInBounds 6 (.bool true)) := by rw [hW2]; exact (HR.out.set 7 _).set 6 _
    have k6 := hrw.cell 6
    have k7 := hrw.cell 7
    simp only [tcells, List.setIfInBounds_toArray, List.set_cons_succ, List.set_cons_zero, List.getElem?_toArray, List.getElem?_cons_succ, List.getElem?_cons_zero] at k6 k7
    have ca := fun p : LowBy W2 => p.cell k6
    have cb := fun p : LowBy W2 => p.cell k7
    have HW := Lib.hid hW2
    clear hrw k6 k7 hW2 d6 d7 g6 g7
    refine wp_region_quiet_low (by assumption) (by kernel_rfl) ?_
    repeat (go_big_quiet_step (fail))
    refine wpQuiet_nil ?_
    intro _ hw'
    obtain ⟨p, hw''⟩ := hw'
    subst hw''
    have hp := Lib.hid p.low
    clear ca cb
    go_wp2
    go_ret2
    exact ⟨rfl, w1, HP.out, by unfold stepW; rw [← HW.out]; exact hp.out⟩
  | false =>
    go_wp2_with fail
    obtain ⟨W2, hW2⟩ : ∃ W2, W2 = (w1.setCell ⟨gt, 7, none⟩ (.int .i64 0)).setCell ⟨gt, 6, none⟩ (.bool false) := ⟨_, rfl⟩
    rw [← hW2]
    have hrw : Row W2 gt 165 ((tcells gs gm c gh i j (place f' gt) false code').setIfInBounds 7 (.int .i64 0) |>.setIfInBounds 6 (.bool false)) := by rw [hW2]; exact (HR.out.set 7 _).set 6 _
    have k6 := hrw.cell 6
    have k7 := hrw.cell 7
    simp only [tcells, List.setIfInBounds_toArray, List.set_cons_succ, List.set_cons_zero, List.getElem?_toArray, List.getElem?_cons_succ, List.getElem?_cons_zero] at k6 k7
    have ca := fun p : LowBy W2 => p.cell k6
    have cb := fun p : LowBy W2 => p.cell k7
    have HW := Lib.hid hW2
    clear hrw k6 k7 hW2 d6 d7 g6 g7
    refine wp_region_quiet_low (by assumption) (by kernel_rfl) ?_
    repeat (go_big_quiet_step (fail))
    refine wpQuiet_nil ?_
    intro _ hw'
    obtain ⟨p, hw''⟩ := hw'
    subst hw''
    have hp := Lib.hid p.low
    clear ca cb
    go_wp2
    go_ret2
    exact ⟨rfl, w1, HP.out, by unfold stepW; rw [← HW.out]; exact hp.out⟩
end Go.Proofs.YtahojhaeebmpoaaGreatDoor
/- A memory, its arena's blocks, and a turn's struct, side by side: plain facts. -/
namespace Go.Proofs.YtahojhaeebmpoaaGreatDoor
open Go.RowKit Go.Sort
set_option linter.unusedVariables false
structure Game (w : World) (ym : Lay) (s : St) (y : SLay) (hs : List Hd) (fs : Nat → List Nat) : Prop where
  pm : MemAt w ym s
  ok : s.Ok
  mem : SlabMem w y hs fs
  ho : HsOk hs
  fo : FsOk hs fs
  rs : RS w y
  rm : ¬ ym.fp 0
  size : 64 * s.nl = 1024 * (hs.length + 1)
/-- What a call makes of them: nothing turns but their own blocks; these, or new ones, are theirs behind it. -/
structure GTurn (w w' : World) (ym ym' : Lay) (y y' : SLay) (gt : Nat) : Prop where
  g : ym'.g = ym.g
  gs : y'.gs = y.gs
  gh : y'.gh = y.gh
  gf : y'.gf = y.gf
  but : But w w' (fun k => ym.fp k ∨ y.fp k ∨ k = gt)
  fm : ∀ k, ym'.fp k → ym.fp k ∨ w.heap.size ≤ k
  fy : ∀ k, y'.fp k → y.fp k ∨ w.heap.size ≤ k
theorem GTurn.trans {w w1 w2 : World} {ym ym1 ym2 : Lay} {y y1 y2 : SLay} {gt : Nat} (h : GTurn w w1 ym ym1 y y1 gt) (h2 : GTurn w1 w2 ym1 ym2 y1 y2 gt) : GTurn w w2 ym ym2 y y2 gt := by
  refine ⟨h2.g.trans h.g, h2.gs.trans h.gs, h2.gh.trans h.gh, h2.gf.trans h.gf, h.but.trans h2.but fun k hk => ?_, fun k hk => ?_, fun k hk => ?_⟩
  · rcases hk with hk | hk | hk
    · rcases h.fm k hk with h1 | h1
      · exact .inl (.inl h1)
      · exact .inr h1
    · rcases h.fy k hk with h1 | h1
      · exact .inl (.inr (.inl h1))
      · exact .inr h1
    · exact .inl (.inr (.inr hk))
  · rcases h2.fm k hk with h1 | h1
    · exact h.fm k h1
    · exact .inr (Nat.le_trans h.but.size h1)
  · rcases h2.fy k hk with h1 | h1
    · exact h.fy k h1
    · exact .inr (Nat.le_trans h.but.size h1)
theorem GTurn.of_mem {w w' : World} {ym ym' : Lay} (y : SLay) (gt : Nat) (t : Turn w w' ym ym') : GTurn w w' ym ym' y y gt := ⟨t.g, rfl, rfl, rfl, t.but.mono fun k h => .inl h, t.fp, fun _ h => .inl h⟩
theorem GTurn.of_slab {w w' : World} (ym : Lay) {y y' : SLay} (gt : Nat) (t : STurn w w' y y') : GTurn w w' ym ym y y' gt := ⟨rfl, t.gs, t.gh, t.gf, t.but.mono fun k h => .inr (.inl h), fun _ h => .inl h, t.fp⟩
theorem GTurn.of_below {w w' : World} (ym : Lay) (y : SLay) (gt : Nat) (h : Below w.heap.size w w') : GTurn w w' ym ym y y gt := ⟨rfl, rfl, rfl, rfl, But.of_below h _, fun _ h => .inl h, fun _ h => .inl h⟩
theorem GTurn.of_set (w : World) (ym : Lay) (y : SLay) (gt k : Nat) (v : Value) : GTurn w (w.setCell ⟨gt, k, none⟩ v) ym ym y y gt :=
  ⟨rfl, rfl, rfl, rfl, ((But.refl w (fun k => ym.fp k ∨ y.fp k ∨ k = gt)).set (p := ⟨gt, k, none⟩) (.inr (.inr rfl)) v), fun _ h => .inl h, fun _ h => .inl h⟩
section
variable {w w' : World} {ym ym' : Lay} {s s' : St} {y y' : SLay} {hs hs' : List Hd} {fs fs' : Nat → List Nat} {gt : Nat} {cs : Array Value}
theorem Game.below (G : Game w ym s y hs fs) (hb : Below w.heap.size w w') : Game w' ym s y hs fs :=
  ⟨G.pm.below hb, G.ok, G.mem.below hb, G.ho, G.fo, G.rs.below hb, G.rm, G.size⟩
theorem Game.apart (G : Game w ym s y hs fs) (hr : Row w gt 165 cs) : ¬ ym.fp gt ∧ ¬ y.fp gt := by
  refine ⟨G.pm.apart_tag hr.tag (by decide) (by decide) (by decide) (by decide), fun h => ?_⟩
  rcases G.mem.tag h with h' | h' | h' | h' | h' <;> exact absurd (hr.tag.same h') (by decide)
theorem Game.set (G : Game w ym s y hs fs) (hr : Row w gt 165 cs) (hg : gt ≠ 0) (k : Nat) (v : Value) : Game (w.setCell ⟨gt, k, none⟩ v) ym s y hs fs := by
  have hb : But w (w.setCell ⟨gt, k, none⟩ v) (fun q => q = gt) := (But.refl w (fun q => q = gt)).set (p := ⟨gt, k, none⟩) (by rfl) v
  have ha := G.apart hr
  refine ⟨G.pm.but hb fun q hq e => ?_, G.ok, G.mem.keep hb fun q hq e => ?_, G.ho, G.fo, ⟨G.rs.1.but hb (Ne.symm hg), G.rs.2⟩, G.rm, G.size⟩
  · subst e; exact ha.1 hq
  · subst e; exact ha.2 hq
theorem Game.onMem (G : Game w ym s y hs fs) (hm : MemAt w' ym' s') (ok : s'.Ok) (hn : s'.nl = s.nl) (t : Turn w w' ym ym') : Game w' ym' s' y hs fs := by
  have R := RM.turn ⟨G.rs.1, G.rm⟩ t
  exact ⟨hm, ok, G.mem.mem G.pm t, G.ho, G.fo, ⟨R.1, G.rs.2⟩, R.2, by rw [hn]; exact G.size⟩
theorem Game.onSlab (G : Game w ym s y hs fs) (hm : SlabMem w' y' hs' fs') (ho : HsOk hs') (fo : FsOk hs' fs') (hl : hs'.length = hs.length) (t : STurn w w' y y') : Game w' ym s y' hs' fs' :=
  ⟨G.pm.slab G.mem t, G.ok, hm, ho, fo, G.rs.turn t, G.rm, by rw [hl]; exact G.size⟩
theorem Row.gturn (hr : Row w gt 165 cs) (G : Game w ym s y hs fs) {gt' : Nat} (t : GTurn w w' ym ym' y y' gt') (hn : gt ≠ gt') : Row w' gt 165 cs := by
  have ha := G.apart hr
  exact t.but.row hr fun h => by rcases h with h | h | h; exact ha.1 h; exact ha.2 h; exact hn h
theorem Row.onMem (hr : Row w gt 165 cs) (G : Game w ym s y hs fs) (t : Turn w w' ym ym') : Row w' gt 165 cs := t.but.row hr (G.apart hr).1
theorem Row.onSlab (hr : Row w gt 165 cs) (G : Game w ym s y hs fs) (t : STurn w w' y y') : Row w' gt 165 cs := t.but.row hr (G.apart hr).2
end
/-- Where a block's bit lies. -/
theorem head_addr {ym : Lay} {w : World} {s : St} {y : SLay} {hs : List Hd} {fs : Nat → List Nat} (G : Game w ym s y hs fs) {i : Nat} {x : Hd} (hx : hs[i]? = some x) : 1 ≤ x.no ∧ x.no ≤ 64 ∧ 1024 * x.no + 64 ≤ 64 * s.nl ∧ hdA (x.no : Int) = ((1024 * x.no : Nat) : Int) := by
  have h1 := (G.ho i x hx).1
  have h2 := (List.getElem?_eq_some_iff.1 hx).1
  have h3 := G.mem.most
  have h4 := G.size
  refine ⟨by omega, by omega, by omega, ?_⟩
  unfold hdA
  rw [if_pos (by omega)]
  omega
/-- A turn in its place: what it is of, where it goes on. -/
def TAt (w : World) (ym : Lay) (y : SLay) (gt : Nat) (c : Int) (i j : Nat) (f : FuncId) (d : Bool) (code : Int) : Prop := Row w gt 165 (tcells y.gs ym.g c y.gh i j (place f gt) d code)
theorem TAt.turn {w w' : World} {ym ym' : Lay} {y y' : SLay} {gt i j : Nat} {c code : Int} {f : FuncId} {d : Bool} (h : Row w' gt 165 (tcells y.gs ym.g c y.gh i j (place f gt) d code)) (t : GTurn w w' ym ym' y y' gt) : TAt w' ym' y' gt c i j f d code := by
  unfold TAt
  rw [t.g, t.gs, t.gh]
  exact h
end Go.Proofs.YtahojhaeebmpoaaGreatDoor
/- What each of a turn's places does: storeClass, storeBits, flush. -/
namespace Go.Proofs.YtahojhaeebmpoaaGreatDoor
open Go.RowKit Go.Sort
set_option linter.unusedVariables false
/-- What a place leaves: the memory's state s', the slabs hs', the turn at f, done or not. -/
def PlacePost (w : World) (ym : Lay) (y : SLay) (gt : Nat) (c : Int) (i j : Nat) (f : FuncId) (d : Bool) (code : Int) (s' : St) (hs' : List Hd) (w' : World) : Prop :=
  ∃ ym' y' fs', Game w' ym' s' y' hs' fs' ∧ TAt w' ym' y' gt c i j f d code ∧ GTurn w w' ym ym' y y' gt
theorem tcells_set (gs gm gh i j gt : Nat) (c code : Int) (f f' : Nat) (d : Bool) : (tcells gs gm c gh i j (place f gt) d code).setIfInBounds 5 (place f' gt) = tcells gs gm c gh i j (place f' gt) d code := rfl
theorem tcells_done (gs gm gh i j gt : Nat) (c code : Int) (f : Nat) (d : Bool) : (tcells gs gm c gh i j (place f gt) d code).setIfInBounds 6 (.bool true) = tcells gs gm c gh i j (place f gt) true code := rfl
set_option maxRecDepth 100000 in
set_option maxHeartbeats 3200000 in
theorem storeClass_any {w : World} {ym : Lay} {s : St} {y : SLay} {hs : List Hd} {fs : Nat → List Nat} (G : Game w ym s y hs fs) {gt i j : Nat} {x : Hd} {c code : Int} {d : Bool} {f : Nat}
    (T : TAt w ym y gt c i j f d code) (hg : gt ≠ 0) (hx : hs[i]? = some x) (hst : s.st + 1 < 9223372036854775808) (hp : ∀ l ∈ s.pend, l.length + 1 ≤ 1000000000) :
    Calls Tryz.prog 99 #[fpt gt] w fun e w' => e = .returned (.int .i64 0) ∧ PlacePost w ym y gt c i j 109 d code (s.store (1024 * x.no) x.cls) hs w' := by
  have mixed : Tryz.prog.follows .mixedOrders = true := by kernel_rfl
  have hr : Row w gt 165 (tcells y.gs ym.g c y.gh i j (place f gt) d code) := T
  obtain ⟨n1, n2, n3, n4⟩ := head_addr G hx
  have hc3 := (G.mem.lens x (List.mem_of_getElem? hx)).2
  have c5 := hr.cell 5
  simp only [tcells, List.getElem?_toArray, List.getElem?_cons_succ, List.getElem?_cons_zero] at c5
  have f5 := hr.free 5
  obtain ⟨W1, hW1⟩ : ∃ W1, W1 = w.setCell ⟨gt, 5, none⟩ (.func (.func 109) #[.pointer (some ⟨gt, 0, none⟩)] #[]) := ⟨_, rfl⟩
  have G1 : Game W1 ym s y hs fs := by rw [hW1]; exact G.set hr hg 5 _
  have T1 : Row W1 gt 165 (tcells y.gs ym.g c y.gh i j (place 109 gt) d code) := by rw [hW1, ← tcells_set y.gs ym.g y.gh i j gt c code f 109 d]; exact hr.set 5 _
  have t1 : GTurn w W1 ym ym y y gt := by rw [hW1]; exact GTurn.of_set w ym y gt 5 _
  have d1 := T1.cell 1
  have d3 := T1.cell 3
  simp only [tcells, List.getElem?_toArray, List.getElem?_cons_succ, List.getElem?_cons_zero] at d1 d3
  unfold fpt at d1
  have hh := G1.mem.head hx
  unfold jv at hh
  have ca := fun p : LowBy W1 => p.cell d1
  have cb := fun p : LowBy W1 => p.cell d3
  have cc := fun p : LowBy W1 => p.cell hh.1
  have cd := fun p : LowBy W1 => p.cell hh.2.1
  have HH := Lib.hid fun (p : LowBy W1) => Calls.low_of_same (w := W1) (p := p) (header_any (x.no : Int) p.W)
  rw [n4] at HH
  have hla : 1024 * x.no / 64 < s.pend.length := by have := G.pm.plen; omega
  have hok : (s.store (1024 * x.no) x.cls).Ok := store_Ok G.ok (by omega) hla (by omega) hst (by
    rw [List.getD_eq_getElem?_getD, List.getElem?_eq_getElem hla]
    exact hp _ (List.getElem_mem hla))
  have HS := Lib.hid fun (p : LowBy W1) => store_ok (G1.pm.below p.low) (1024 * x.no) x.cls (by omega) (by omega) (by omega) (by omega) (fun l hl => by have := hp l hl; omega)
  have HE := Lib.hid (show ∀ (p : LowBy W1) (w' : World) (ym' : Lay), MemAt w' ym' (s.store (1024 * x.no) x.cls) → Turn p.W w' ym ym' → PlacePost w ym y gt c i j 109 d code (s.store (1024 * x.no) x.cls) hs w' from fun p w' ym' hm' ht' => by
    have Gp := G1.below p.low
    have Tp := T1.below p.low T1.lt
    have tt := (t1.trans (GTurn.of_below ym y gt p.low)).trans (GTurn.of_mem y gt ht')
    exact ⟨ym', y, fs, Gp.onMem hm' hok rfl ht', TAt.turn (Tp.onMem Gp ht') tt, tt⟩)
  obtain ⟨A, hA⟩ : ∃ A, A = 1024 * x.no := ⟨_, rfl⟩
  rw [← hA] at HH HS HE ⊢
  obtain ⟨S', hS'⟩ : ∃ S', S' = s.store A x.cls := ⟨_, rfl⟩
  rw [← hS'] at HS HE ⊢
  obtain ⟨gm, hgm⟩ : ∃ gm, gm = ym.g := ⟨_, rfl⟩
  rw [← hgm] at ca HS
  obtain ⟨gh, hgh⟩ : ∃ gh, gh = y.gh := ⟨_, rfl⟩
  rw [← hgh] at cb cc cd
  obtain ⟨k, hk⟩ : ∃ k, k = x.cls := ⟨_, rfl⟩
  rw [← hk] at cd HS hc3
  have HST := Lib.hid (show ∀ (p : LowBy W1), Calls Tryz.prog 110 #[.pointer (some ⟨gm, 0, none⟩), .int .u64 (A : Int), .int .u64 (k : Int)] p.W (StPost p.W ym S' 0) from HS.out)
  unfold fpt
  clear G hr T n1 n2 n3 n4 G1 T1 t1 d1 d3 hh hla hok hA hS' hgm hgh hk HS hst hp hx
  go_enter Tryz.func99, Tryz.ntmps99
  go_wp2_with fail
  rw [← hW1]
  clear hW1 c5 f5
  refine wp_region_low_tail 20 (by assumption) (by kernel_rfl) ?_
  simp only [List.take_succ_cons, List.take_zero, List.drop_succ_cons, List.drop_zero]
  repeat (go_big_quiet_step ((go_at_call 79; with_reducible exact HH.out _)))
  refine wpQuiet_nil ?_
  intro _ hw'
  obtain ⟨p, hw''⟩ := hw'
  subst hw''
  clear ca cb cc cd
  go_wp2_with fail
  refine (HST.out p).mono ?_
  rintro e w2 ⟨rfl, ym2, hm2, ht2⟩
  have HZ := Lib.hid (HE.out p w2 ym2 hm2 ht2)
  clear hm2 ht2
  go_wp2
  go_ret
  exact ⟨rfl, HZ.out⟩
end Go.Proofs.YtahojhaeebmpoaaGreatDoor
/- What a turn's places do: bits, storeBits, flush. -/
namespace Go.Proofs.YtahojhaeebmpoaaGreatDoor
open Go.RowKit Go.Sort
set_option linter.unusedVariables false
/-- The bits that a turn stores. -/
def bitV (v b j : Nat) : Nat := if v = 4 then setB b j else clrB b j
theorem bitV_lt {v b j : Nat} (hb : b < 18446744073709551616) : bitV v b j < 18446744073709551616 := by
  unfold bitV
  split
  · exact setB_lt hb _
  · have := clrB_le b (j : Int); omega
theorem HsOk.bits {hs : List Hd} (ok : HsOk hs) {i b : Nat} {x : Hd} (hx : hs[i]? = some x) : HsOk (hs.set i { x with bits := b }) := by
  intro k z hz
  rw [List.getElem?_set] at hz
  have hil := (List.getElem?_eq_some_iff.1 hx).1
  by_cases e : i = k
  · subst e
    rw [if_pos rfl, if_pos hil] at hz
    cases hz
    exact ok i x hx
  · rw [if_neg e] at hz
    exact ok k z hz
theorem FsOk.bits {hs : List Hd} {fs : Nat → List Nat} (h : FsOk hs fs) {i b : Nat} {x : Hd} (hx : hs[i]? = some x) : FsOk (hs.set i { x with bits := b }) fs := by
  intro c
  have hil := (List.getElem?_eq_some_iff.1 hx).1
  refine ⟨(h c).1, fun a => ?_⟩
  rw [(h c).2]
  constructor
  · rintro ⟨k, q, z, hz, hc, hb, ha⟩
    by_cases e : i = k
    · subst e
      rw [hx] at hz
      cases hz
      exact ⟨i, q, { x with bits := b }, by rw [List.getElem?_set, if_pos rfl, if_pos hil], hc, hb, ha⟩
    · exact ⟨k, q, z, by rw [List.getElem?_set, if_neg e]; exact hz, hc, hb, ha⟩
  · rintro ⟨k, q, z, hz, hc, hb, ha⟩
    rw [List.getElem?_set] at hz
    by_cases e : i = k
    · subst e
      rw [if_pos rfl, if_pos hil] at hz
      cases hz
      exact ⟨i, q, x, hx, hc, hb, ha⟩
    · rw [if_neg e] at hz
      exact ⟨k, q, z, hz, hc, hb, ha⟩
set_option maxRecDepth 100000 in
set_option maxHeartbeats 3200000 in
theorem bits_any {w : World} {ym : Lay} {y : SLay} {hs : List Hd} {fs : Nat → List Nat} (h : SlabMem w y hs fs) {gt i j v : Nat} {x : Hd} {c code : Int} {d : Bool} {f : Nat}
    (T : TAt w ym y gt c i j f d code) (hx : hs[i]? = some x) (hv : x.bl[j]? = some v) (hb : x.bits < 18446744073709551616) :
    Calls Tryz.prog 126 #[fpt gt] w fun e w' => e = .returned (wv (bitV v x.bits j)) ∧ Below w.heap.size w w' := by
  have mixed : Tryz.prog.follows .mixedOrders = true := by kernel_rfl
  have hr : Row w gt 165 (tcells y.gs ym.g c y.gh i j (place f gt) d code) := T
  have hjl := (List.getElem?_eq_some_iff.1 hv).1
  have hl15 := (h.lens x (List.mem_of_getElem? hx)).1
  have d3 := hr.cell 3
  have d4 := hr.cell 4
  simp only [tcells, List.getElem?_toArray, List.getElem?_cons_succ, List.getElem?_cons_zero] at d3 d4
  obtain ⟨g, hsh, hrow⟩ := (h.blk i x hx).pos (by omega)
  have hh := h.head hx
  rw [hsh] at hh
  have cj := hrow.cell j
  rw [List.getElem?_toArray, List.getElem?_map, hv, Option.map_some] at cj
  unfold jv at d4 cj
  have h2 := hh.2.2.1
  unfold wv at h2
  have ca := fun p : LowBy w => p.cell d3
  have cb := fun p : LowBy w => p.cell d4
  have cc := fun p : LowBy w => p.cell hh.2.2.2
  have ce := fun p : LowBy w => p.cell cj
  have HS := Lib.hid fun (W : World) (p : LowBy W) => Calls.low_of_same (p := p) (bSet_any hb (j := (j : Int)) (by omega) (by omega) p.W)
  have HC := Lib.hid fun (W : World) (p : LowBy W) => Calls.low_of_same (p := p) (bClear_any hb (j := (j : Int)) (by omega) (by omega) p.W)
  have D3 := Lib.hid d3
  have D4 := Lib.hid d4
  have H2 := Lib.hid h2
  obtain ⟨gh, hgh⟩ : ∃ gh, gh = y.gh := ⟨_, rfl⟩
  rw [← hgh] at ca cc D3 H2
  unfold wv at HS HC
  unfold fpt
  clear h hr T hx hsh hrow hh d3 d4 h2 hgh cj hv
  generalize x.bl.length = m at *
  by_cases hv4 : v = 4
  · have hz : ((v : Int) == 4) = true := by rw [hv4]; rfl
    have HV := Lib.hid (show bitV v x.bits j = setB x.bits j from if_pos hv4)
    generalize x.bits = b at *
    rw [show wv (bitV v b j) = .int .u64 ((setB b j : Nat) : Int) from by rw [HV.out]; rfl]
    clear hv4 hb
    generalize setB b j = r at *
    go_enter Tryz.func126, Tryz.ntmps126
    go_wp2_with fail
    refine wp_region_quiet_low (by assumption) (by kernel_rfl) ?_
    repeat (go_big_quiet_step (fail))
    refine wpQuiet_nil ?_
    intro _ hw'
    obtain ⟨p, hw''⟩ := hw'
    subst hw''
    have e3 := p.cell D3.out
    have e4 := p.cell D4.out
    have e2 := p.cell H2.out
    have HPL := Lib.hid p.low
    clear ca cb cc ce
    generalize p.W = w1 at *
    clear p
    have ca := fun p : LowBy w1 => p.cell e3
    have cb := fun p : LowBy w1 => p.cell e4
    have cc := fun p : LowBy w1 => p.cell e2
    clear e3 e4 e2
    go_wp2_with fail
    refine wp_region_quiet_low (by assumption) (by kernel_rfl) ?_
    repeat (go_big_quiet_step ((go_at_call 137; with_reducible exact HS.out _ _)))
    refine wpQuiet_nil ?_
    intro _ hw'
    obtain ⟨p, hw''⟩ := hw'
    subst hw''
    have HQ := Lib.hid p.low
    clear ca cb cc
    go_wp2
    go_ret
    exact ⟨rfl, Below.and HPL.out HQ.out⟩
  · have hz : ((v : Int) == 4) = false := by rw [Bool.eq_false_iff]; intro k; have := beq_iff_eq.1 k; omega
    have HV := Lib.hid (show bitV v x.bits j = clrB x.bits j from if_neg hv4)
    generalize x.bits = b at *
    rw [show wv (bitV v b j) = .int .u64 ((clrB b j : Nat) : Int) from by rw [HV.out]; rfl]
    clear hv4 hb
    generalize clrB b j = r at *
    go_enter Tryz.func126, Tryz.ntmps126
    go_wp2_with fail
    refine wp_region_quiet_low (by assumption) (by kernel_rfl) ?_
    repeat (go_big_quiet_step (fail))
    refine wpQuiet_nil ?_
    intro _ hw'
    obtain ⟨p, hw''⟩ := hw'
    subst hw''
    have e3 := p.cell D3.out
    have e4 := p.cell D4.out
    have e2 := p.cell H2.out
    have HPL := Lib.hid p.low
    clear ca cb cc ce
    generalize p.W = w1 at *
    clear p
    have ca := fun p : LowBy w1 => p.cell e3
    have cb := fun p : LowBy w1 => p.cell e4
    have cc := fun p : LowBy w1 => p.cell e2
    clear e3 e4 e2
    go_wp2_with fail
    refine wp_region_quiet_low (by assumption) (by kernel_rfl) ?_
    repeat (go_big_quiet_step ((go_at_call 138; with_reducible exact HC.out _ _)))
    refine wpQuiet_nil ?_
    intro _ hw'
    obtain ⟨p, hw''⟩ := hw'
    subst hw''
    have HQ := Lib.hid p.low
    clear ca cb cc
    go_wp2
    go_ret
    exact ⟨rfl, Below.and HPL.out HQ.out⟩
end Go.Proofs.YtahojhaeebmpoaaGreatDoor
/- What a turn's places do: storeBits, flush. -/
namespace Go.Proofs.YtahojhaeebmpoaaGreatDoor
open Go.RowKit Go.Sort
set_option linter.unusedVariables false
set_option maxRecDepth 100000 in
set_option maxHeartbeats 3200000 in
theorem storeBits_any {w : World} {ym : Lay} {s : St} {y : SLay} {hs : List Hd} {fs : Nat → List Nat} (G : Game w ym s y hs fs) {gt i j v : Nat} {x : Hd} {c code : Int} {d : Bool} {f : Nat}
    (T : TAt w ym y gt c i j f d code) (hg : gt ≠ 0) (hx : hs[i]? = some x) (hv : x.bl[j]? = some v) (hb : x.bits < 18446744073709551616) (hst : s.st + 1 < 9223372036854775808) (hp : ∀ l ∈ s.pend, l.length + 1 ≤ 1000000000) :
    Calls Tryz.prog 109 #[fpt gt] w fun e w' => e = .returned (.int .i64 0) ∧ PlacePost w ym y gt c i j 125 d code (s.store (1024 * x.no + 8) (bitV v x.bits j)) (hs.set i { x with bits := bitV v x.bits j }) w' := by
  have mixed : Tryz.prog.follows .mixedOrders = true := by kernel_rfl
  have hr : Row w gt 165 (tcells y.gs ym.g c y.gh i j (place f gt) d code) := T
  obtain ⟨n1, n2, n3, n4⟩ := head_addr G hx
  have c5 := hr.cell 5
  simp only [tcells, List.getElem?_toArray, List.getElem?_cons_succ, List.getElem?_cons_zero] at c5
  have f5 := hr.free 5
  obtain ⟨W1, hW1⟩ : ∃ W1, W1 = w.setCell ⟨gt, 5, none⟩ (.func (.func 125) #[.pointer (some ⟨gt, 0, none⟩)] #[]) := ⟨_, rfl⟩
  have G1 : Game W1 ym s y hs fs := by rw [hW1]; exact G.set hr hg 5 _
  have T1 : Row W1 gt 165 (tcells y.gs ym.g c y.gh i j (place 125 gt) d code) := by rw [hW1, ← tcells_set y.gs ym.g y.gh i j gt c code f 125 d]; exact hr.set 5 _
  have t1 : GTurn w W1 ym ym y y gt := by rw [hW1]; exact GTurn.of_set w ym y gt 5 _
  have HBT := Lib.hid (bits_any G1.mem (show TAt W1 ym y gt c i j 125 d code from T1) hx hv hb)
  have hbl : bitV v x.bits j < 18446744073709551616 := bitV_lt hb
  have hla : (1024 * x.no + 8) / 64 < s.pend.length := by have := G.pm.plen; omega
  obtain ⟨b, hbe⟩ : ∃ b, b = bitV v x.bits j := ⟨_, rfl⟩
  rw [← hbe] at HBT hbl ⊢
  have hok : (s.store (1024 * x.no + 8) b).Ok := store_Ok G.ok (by omega) hla hbl hst (by
    rw [List.getD_eq_getElem?_getD, List.getElem?_eq_getElem hla]
    exact hp _ (List.getElem_mem hla))
  have HG1 := Lib.hid G1
  have HT1 := Lib.hid T1
  have Ht1 := Lib.hid t1
  have HX := Lib.hid hx
  have HOK := Lib.hid hok
  have HH := Lib.hid fun (W : World) (p : LowBy W) => Calls.low_of_same (p := p) (bits_yes (s := (x.no : Int)) (by omega) p.W)
  rw [n4] at HH
  rw [show ((1024 * x.no : Nat) : Int) + 8 = ((1024 * x.no + 8 : Nat) : Int) from by omega] at HH
  have HS0 : ∀ (W : World), Below W1.heap.size W1 W → Calls Tryz.prog 110 #[.pointer (some ⟨ym.g, 0, none⟩), .int .u64 ((1024 * x.no + 8 : Nat) : Int), .int .u64 (b : Int)] W (StPost W ym (s.store (1024 * x.no + 8) b) 0) :=
    fun W hb => store_ok (G1.pm.below hb) (1024 * x.no + 8) b (by omega) (by omega) hbl (by omega) (fun l hl => by have := hp l hl; omega)
  have HS := Lib.hid HS0
  obtain ⟨A, hA⟩ : ∃ A, A = 1024 * x.no + 8 := ⟨_, rfl⟩
  rw [← hA] at HH HS HOK ⊢
  obtain ⟨S', hS'⟩ : ∃ S', S' = s.store A b := ⟨_, rfl⟩
  rw [← hS'] at HS HOK ⊢
  have HNL := Lib.hid (show S'.nl = s.nl by rw [hS']; rfl)
  obtain ⟨gm, hgm⟩ : ∃ gm, gm = ym.g := ⟨_, rfl⟩
  rw [← hgm] at HS
  have HGM := Lib.hid hgm
  obtain ⟨gh, hgh⟩ : ∃ gh, gh = y.gh := ⟨_, rfl⟩
  have HGH := Lib.hid hgh
  unfold fpt wv at HBT
  unfold fpt
  clear G hr T n1 n2 n3 n4 G1 T1 t1 hla hok hA hS' hgm hgh HS0 hst hp hx hv hb hbl hbe
  go_enter Tryz.func109, Tryz.ntmps109
  go_wp2_with fail
  rw [← hW1]
  clear hW1 c5 f5
  refine HBT.out.mono ?_
  rintro e w2 ⟨rfl, hb2⟩
  have G2 := HG1.out.below hb2
  have T2 := HT1.out.below hb2 HT1.out.lt
  have d1 := T2.cell 1
  have d3 := T2.cell 3
  simp only [tcells, List.getElem?_toArray, List.getElem?_cons_succ, List.getElem?_cons_zero] at d1 d3
  unfold fpt at d1
  rw [← HGM.out] at d1
  rw [← HGH.out] at d3
  have hh := (G2.mem.head HX.out).1
  unfold jv at hh
  rw [← HGH.out] at hh
  have ca := fun p : LowBy w2 => p.cell d1
  have cb := fun p : LowBy w2 => p.cell d3
  have cc := fun p : LowBy w2 => p.cell hh
  have HG2 := Lib.hid G2
  have HT2 := Lib.hid T2
  have HB2 := Lib.hid hb2
  clear G2 T2 d1 d3 hh hb2 HBT
  go_wp2_with fail
  refine wp_region_low_tail 13 (by assumption) (by kernel_rfl) ?_
  simp only [List.take_succ_cons, List.take_zero, List.drop_succ_cons, List.drop_zero]
  repeat (go_big_quiet_step ((go_at_call 80; with_reducible exact HH.out _ _)))
  refine wpQuiet_nil ?_
  intro _ hw'
  obtain ⟨p, hw''⟩ := hw'
  subst hw''
  have HST := Lib.hid (HS.out p.W (Below.and HB2.out p.low))
  clear ca cb cc
  go_wp2_with fail
  refine HST.out.mono ?_
  rintro e w3 ⟨rfl, ym3, hm3, ht3⟩
  have Gp := HG2.out.below p.low
  have Tp := HT2.out.below p.low HT2.out.lt
  have G3 := Gp.onMem hm3 HOK.out HNL.out ht3
  have T3 := Tp.onMem Gp ht3
  have t3 := ((Ht1.out.trans (GTurn.of_below ym y gt (Below.and HB2.out p.low)))).trans (GTurn.of_mem y gt ht3)
  have k3 := T3.cell 3
  simp only [tcells, List.getElem?_toArray, List.getElem?_cons_succ, List.getElem?_cons_zero] at k3
  rw [← HGH.out] at k3
  have k2 := (G3.mem.head HX.out).2.2.1
  have kf := G3.mem.hfree (i * 4 + 2)
  rw [← HGH.out] at k2 kf
  unfold wv at k2
  have HEND := Lib.hid (show PlacePost w ym y gt c i j 125 d code S' (hs.set i { x with bits := b }) (w3.setCell ⟨gh, i * 4 + 2, none⟩ (.int .u64 (b : Int))) from by
    obtain ⟨hp3, tp3⟩ := G3.mem.put_bits HX.out b
    rw [HGH.out]
    have G4 := G3.onSlab hp3 (G3.ho.bits HX.out) (G3.fo.bits HX.out) (by rw [List.length_set]) tp3
    have T4 := T3.onSlab G3 tp3
    have t4 := t3.trans (GTurn.of_slab ym3 gt tp3)
    exact ⟨ym3, y, fs, G4, TAt.turn T4 t4, t4⟩)
  clear hm3 ht3 Gp Tp G3 T3 t3 HST
  go_wp2
  go_ret
  exact ⟨rfl, HEND.out⟩
set_option maxRecDepth 100000 in
set_option maxHeartbeats 3200000 in
theorem tflush_any {w : World} {ym : Lay} {s : St} {y : SLay} {hs : List Hd} {fs : Nat → List Nat} (G : Game w ym s y hs fs) {gt i j cl : Nat} {x : Hd} {code : Int} {d : Bool} {f : Nat}
    (T : TAt w ym y gt (cl : Int) i j f d code) (hg : gt ≠ 0) (hcl : cl ≤ 64) (hx : hs[i]? = some x) (hfl : s.fl + 1 < 9223372036854775808) :
    Calls Tryz.prog 125 #[fpt gt] w fun e w' => e = .returned (.int .i64 0) ∧ PlacePost w ym y gt (cl : Int) i j 135 d code (s.flush cl (1024 * x.no)) hs w' := by
  have mixed : Tryz.prog.follows .mixedOrders = true := by kernel_rfl
  have hr : Row w gt 165 (tcells y.gs ym.g cl y.gh i j (place f gt) d code) := T
  obtain ⟨n1, n2, n3, n4⟩ := head_addr G hx
  have c5 := hr.cell 5
  simp only [tcells, List.getElem?_toArray, List.getElem?_cons_succ, List.getElem?_cons_zero] at c5
  have f5 := hr.free 5
  obtain ⟨W1, hW1⟩ : ∃ W1, W1 = w.setCell ⟨gt, 5, none⟩ (.func (.func 135) #[.pointer (some ⟨gt, 0, none⟩)] #[]) := ⟨_, rfl⟩
  have G1 : Game W1 ym s y hs fs := by rw [hW1]; exact G.set hr hg 5 _
  have T1 : Row W1 gt 165 (tcells y.gs ym.g cl y.gh i j (place 135 gt) d code) := by rw [hW1, ← tcells_set y.gs ym.g y.gh i j gt cl code f 135 d]; exact hr.set 5 _
  have t1 : GTurn w W1 ym ym y y gt := by rw [hW1]; exact GTurn.of_set w ym y gt 5 _
  have d1 := T1.cell 1
  have d2 := T1.cell 2
  have d3 := T1.cell 3
  simp only [tcells, List.getElem?_toArray, List.getElem?_cons_succ, List.getElem?_cons_zero] at d1 d2 d3
  unfold fpt at d1
  have hh := (G1.mem.head hx).1
  unfold jv at hh
  have ca := fun p : LowBy W1 => p.cell d1
  have cb := fun p : LowBy W1 => p.cell d2
  have cc := fun p : LowBy W1 => p.cell d3
  have ce := fun p : LowBy W1 => p.cell hh
  have HH := Lib.hid fun (p : LowBy W1) => Calls.low_of_same (w := W1) (p := p) (header_any (x.no : Int) p.W)
  rw [n4] at HH
  have hok : (s.flush cl (1024 * x.no)).Ok := flush_Ok G.ok hfl
  have HS0 : ∀ (p : LowBy W1), Calls Tryz.prog 136 #[.pointer (some ⟨ym.g, 0, none⟩), .int .i64 (cl : Int), .int .u64 ((1024 * x.no : Nat) : Int)] p.W (StPost p.W ym (s.flush cl (1024 * x.no)) 0) :=
    fun p => flush_ok (G1.pm.below p.low) G.ok cl (1024 * x.no) hcl (by omega) (by omega)
  have HS := Lib.hid HS0
  have HE := Lib.hid (show ∀ (p : LowBy W1) (w' : World) (ym' : Lay), MemAt w' ym' (s.flush cl (1024 * x.no)) → Turn p.W w' ym ym' → PlacePost w ym y gt (cl : Int) i j 135 d code (s.flush cl (1024 * x.no)) hs w' from fun p w' ym' hm' ht' => by
    have Gp := G1.below p.low
    have Tp := T1.below p.low T1.lt
    have tt := (t1.trans (GTurn.of_below ym y gt p.low)).trans (GTurn.of_mem y gt ht')
    exact ⟨ym', y, fs, Gp.onMem hm' hok rfl ht', TAt.turn (Tp.onMem Gp ht') tt, tt⟩)
  obtain ⟨A, hA⟩ : ∃ A, A = 1024 * x.no := ⟨_, rfl⟩
  rw [← hA] at HH HS HE ⊢
  obtain ⟨S', hS'⟩ : ∃ S', S' = s.flush cl A := ⟨_, rfl⟩
  rw [← hS'] at HS HE ⊢
  obtain ⟨gm, hgm⟩ : ∃ gm, gm = ym.g := ⟨_, rfl⟩
  rw [← hgm] at ca HS
  obtain ⟨gh, hgh⟩ : ∃ gh, gh = y.gh := ⟨_, rfl⟩
  rw [← hgh] at cc ce
  unfold fpt
  clear G hr T n1 n2 n3 n4 G1 T1 t1 d1 d2 d3 hh hok hA hS' hgm hgh HS0 hfl hx
  go_enter Tryz.func125, Tryz.ntmps125
  go_wp2_with fail
  rw [← hW1]
  clear hW1 c5 f5
  refine wp_region_low_tail 16 (by assumption) (by kernel_rfl) ?_
  simp only [List.take_succ_cons, List.take_zero, List.drop_succ_cons, List.drop_zero]
  repeat (go_big_quiet_step ((go_at_call 79; with_reducible exact HH.out _)))
  refine wpQuiet_nil ?_
  intro _ hw'
  obtain ⟨p, hw''⟩ := hw'
  subst hw''
  clear ca cb cc ce
  go_wp2_with fail
  refine (HS.out p).mono ?_
  rintro e w2 ⟨rfl, ym2, hm2, ht2⟩
  have HZ := Lib.hid (HE.out p w2 ym2 hm2 ht2)
  clear hm2 ht2
  go_wp2
  go_ret
  exact ⟨rfl, HZ.out⟩
end Go.Proofs.YtahojhaeebmpoaaGreatDoor
