/- Texts of this claim, packed: LTurn, LPub, LStep, LGame, LPlace, LBits, LSBits, LFence, LWhole, LWh, LKs, LKnown. -/
import Derived.Test.YtahojhaeebmpoaaGreatDoorPl29
import Derived.Laws.EntriesVeiled
/- refused, turn: may there be a turn of a block, and one that begins. -/
namespace Go.Proofs.YtahojhaeebmpoaaGreatDoor
open Go.RowKit Go.Sort
set_option linter.unusedVariables false
theorem isAt_one {hs : List Hd} (ok : HsOk hs) (hm : hs.length ≤ 64) {a u v : Nat} (h : isAt hs a u) (h' : isAt hs a v) : u = v := by
  rcases h with ⟨i, j, x, hx, hj, ha, hb⟩ | ⟨hn, rfl⟩
  · rcases h' with ⟨i', j', x', hx', hj', ha', hb'⟩ | ⟨hn, _⟩
    · obtain ⟨rfl, rfl⟩ := found_one ok hm ⟨x, hx, hj, ha⟩ ⟨x', hx', hj', ha'⟩
      rw [hx] at hx'
      cases hx'
      rw [hb] at hb'
      exact Option.some.inj hb'
    · exact absurd ⟨x, hx, hj, ha⟩ (hn i j)
  · rcases h' with ⟨i', j', x', hx', hj', ha', hb'⟩ | ⟨_, rfl⟩
    · exact absurd ⟨x', hx', hj', ha'⟩ (hn i' j')
    · rfl
def fitsM (nl n : Nat) (c : Int) : Bool := decide (64 * nl = 1024 * (n + 1)) && inB c 0 64
set_option maxRecDepth 100000 in
theorem refused_arg2 {w : World} {y : SLay} {hs : List Hd} {fs : Nat → List Nat} (h : SlabMem w y hs fs) {ym : Lay} {s : St} (hm : MemAt w ym s) {c : Int} (hf : fitsM s.nl hs.length c = false) (a is : Int) : Calls Tryz.prog 71 #[fpt y.gs, fpt ym.g, .int .i64 c, .int .u64 a, .int .i64 is] w fun e w' => e = .returned (.int .i64 2) ∧ w = w' := by
  have H := Lib.hid (snone_at h)
  have HZ := Lib.hid (size_yes hm)
  have HN := Lib.hid (slabs_at h)
  have HG := Lib.hid (size_any (hs.length : Int) w)
  have hpos := h.pos
  have hmost := h.most
  have e1 : sizeN (hs.length : Int) = ((1024 * (hs.length + 1) : Nat) : Int) := by unfold sizeN; rw [if_pos (by omega)]; omega
  rw [e1] at HG
  have hz0 : (((64 * s.nl : Nat) : Int) == 0) = false := by rw [Bool.eq_false_iff]; intro k; have := beq_iff_eq.1 k; have := hm.pos; omega
  have hns := hm.most
  unfold fpt at H HN ⊢
  unfold fitsM at hf
  generalize hs.length = n at *
  obtain ⟨gs, hgs⟩ : ∃ g, g = y.gs := ⟨_, rfl⟩
  obtain ⟨gm, hgm⟩ : ∃ g, g = ym.g := ⟨_, rfl⟩
  rw [← hgs] at H HN ⊢
  rw [← hgm] at HZ ⊢
  clear h hm hgs hgm e1
  by_cases hs1 : 64 * s.nl = 1024 * (n + 1)
  · rw [decide_eq_true hs1, Bool.true_and] at hf
    have HC := Lib.hid (sClient_at hf w)
    rw [hs1] at HZ hz0
    have hne : (((1024 * (n + 1) : Nat) : Int) != ((1024 * (n + 1) : Nat) : Int)) = false := by simp
    obtain ⟨Z, hZ⟩ : ∃ Z, Z = 1024 * (n + 1) := ⟨_, rfl⟩
    rw [← hZ] at HZ hz0 HG hne
    clear hs1 hf hZ
    go_enter Tryz.func71, Tryz.ntmps71
    go_wp2_with fail
    refine H.out.mono ?_
    rintro e w1 ⟨rfl, rfl⟩
    go_wp2_with fail
    refine HZ.out.mono ?_
    rintro e w1 ⟨rfl, rfl⟩
    go_wp2_with fail
    refine HZ.out.mono ?_
    rintro e w1 ⟨rfl, rfl⟩
    go_wp2_with fail
    refine HN.out.mono ?_
    rintro e w1 ⟨rfl, rfl⟩
    go_wp2_with fail
    refine HG.out.mono ?_
    rintro e w1 ⟨rfl, rfl⟩
    go_wp2_with fail
    refine HC.out.mono ?_
    rintro e w1 ⟨rfl, rfl⟩
    go_wp2
    go_ret
    exact ⟨rfl, rfl⟩
  · have hne : (((64 * s.nl : Nat) : Int) != ((1024 * (n + 1) : Nat) : Int)) = true := by
      rw [bne_iff_ne]
      intro k
      exact hs1 (by omega)
    obtain ⟨Z, hZ⟩ : ∃ Z, Z = 1024 * (n + 1) := ⟨_, rfl⟩
    obtain ⟨Y, hY⟩ : ∃ Y, Y = 64 * s.nl := ⟨_, rfl⟩
    rw [← hZ] at HG hne
    rw [← hY] at HZ hz0 hne
    clear hs1 hf hZ hY
    go_enter Tryz.func71, Tryz.ntmps71
    go_wp2_with fail
    refine H.out.mono ?_
    rintro e w1 ⟨rfl, rfl⟩
    go_wp2_with fail
    refine HZ.out.mono ?_
    rintro e w1 ⟨rfl, rfl⟩
    go_wp2_with fail
    refine HZ.out.mono ?_
    rintro e w1 ⟨rfl, rfl⟩
    go_wp2_with fail
    refine HN.out.mono ?_
    rintro e w1 ⟨rfl, rfl⟩
    go_wp2_with fail
    refine HG.out.mono ?_
    rintro e w1 ⟨rfl, rfl⟩
    go_wp2
    go_ret
    exact ⟨rfl, rfl⟩
set_option maxRecDepth 100000 in
theorem refused_is {w : World} {y : SLay} {hs : List Hd} {fs : Nat → List Nat} (h : SlabMem w y hs fs) (ok : HsOk hs) (R : Rms w) {ym : Lay} {s : St} (hm : MemAt w ym s) {c : Int} (hf : fitsM s.nl hs.length c = true) {a v is : Nat} (hv : isAt hs a v) :
    Calls Tryz.prog 71 #[fpt y.gs, fpt ym.g, .int .i64 c, wv a, jv is] w fun e w' => e = .returned (.int .i64 (if v = is then 0 else 7)) ∧ Below w.heap.size w w' := by
  have H := Lib.hid (snone_at h)
  have HZ := Lib.hid (size_yes hm)
  have HN := Lib.hid (slabs_at h)
  have HG := Lib.hid (size_any (hs.length : Int) w)
  have hpos := h.pos
  have hmost := h.most
  have e1 : sizeN (hs.length : Int) = ((1024 * (hs.length + 1) : Nat) : Int) := by unfold sizeN; rw [if_pos (by omega)]; omega
  rw [e1] at HG
  have hz0 : (((64 * s.nl : Nat) : Int) == 0) = false := by rw [Bool.eq_false_iff]; intro k; have := beq_iff_eq.1 k; have := hm.pos; omega
  have hns := hm.most
  have hi0 := is_any h ok R a
  have hi1 : Calls Tryz.prog 14 #[fpt y.gs, wv a] w fun e w' => e = .returned (.int .i64 (v : Int)) ∧ Below w.heap.size w w' := hi0.mono fun e w' ⟨⟨u, hu, he⟩, hb⟩ => by
    obtain rfl := isAt_one ok hmost hu hv
    exact ⟨he, hb⟩
  have HI := Lib.hid hi1
  unfold fpt at H HN HI ⊢
  unfold wv at HI ⊢
  unfold jv
  unfold fitsM at hf
  simp only [Bool.and_eq_true, decide_eq_true_eq] at hf
  obtain ⟨hs1, hf⟩ := hf
  have HC := Lib.hid (sClient_at hf w)
  generalize hs.length = n at *
  obtain ⟨gs, hgs⟩ : ∃ g, g = y.gs := ⟨_, rfl⟩
  obtain ⟨gm, hgm⟩ : ∃ g, g = ym.g := ⟨_, rfl⟩
  rw [← hgs] at H HN HI ⊢
  rw [← hgm] at HZ ⊢
  rw [hs1] at HZ hz0
  have hne : (((1024 * (n + 1) : Nat) : Int) != ((1024 * (n + 1) : Nat) : Int)) = false := by simp
  obtain ⟨Z, hZ⟩ : ∃ Z, Z = 1024 * (n + 1) := ⟨_, rfl⟩
  rw [← hZ] at HZ hz0 HG hne
  clear h ok R hm hgs hgm e1 hi0 hi1 hs1 hf hZ hv
  by_cases hvi : v = is
  · rw [if_pos hvi]
    have hd : ((v : Int) != (is : Int)) = false := by rw [hvi]; simp
    clear hvi
    go_enter Tryz.func71, Tryz.ntmps71
    go_wp2_with fail
    refine H.out.mono ?_
    rintro e w1 ⟨rfl, rfl⟩
    go_wp2_with fail
    refine HZ.out.mono ?_
    rintro e w1 ⟨rfl, rfl⟩
    go_wp2_with fail
    refine HZ.out.mono ?_
    rintro e w1 ⟨rfl, rfl⟩
    go_wp2_with fail
    refine HN.out.mono ?_
    rintro e w1 ⟨rfl, rfl⟩
    go_wp2_with fail
    refine HG.out.mono ?_
    rintro e w1 ⟨rfl, rfl⟩
    go_wp2_with fail
    refine HC.out.mono ?_
    rintro e w1 ⟨rfl, rfl⟩
    go_wp2_with fail
    refine HI.out.mono ?_
    rintro e w1 ⟨rfl, hb⟩
    have HB := Lib.hid hb
    clear hb
    go_wp2
    go_ret
    exact ⟨rfl, HB.out⟩
  · rw [if_neg hvi]
    have hd : ((v : Int) != (is : Int)) = true := by rw [bne_iff_ne]; omega
    clear hvi
    go_enter Tryz.func71, Tryz.ntmps71
    go_wp2_with fail
    refine H.out.mono ?_
    rintro e w1 ⟨rfl, rfl⟩
    go_wp2_with fail
    refine HZ.out.mono ?_
    rintro e w1 ⟨rfl, rfl⟩
    go_wp2_with fail
    refine HZ.out.mono ?_
    rintro e w1 ⟨rfl, rfl⟩
    go_wp2_with fail
    refine HN.out.mono ?_
    rintro e w1 ⟨rfl, rfl⟩
    go_wp2_with fail
    refine HG.out.mono ?_
    rintro e w1 ⟨rfl, rfl⟩
    go_wp2_with fail
    refine HC.out.mono ?_
    rintro e w1 ⟨rfl, rfl⟩
    go_wp2_with fail
    refine HI.out.mono ?_
    rintro e w1 ⟨rfl, hb⟩
    have HB := Lib.hid hb
    clear hb
    go_wp2
    go_ret
    exact ⟨rfl, HB.out⟩
def tcells (gs gm : Nat) (c : Int) (gh i j : Nat) (pl : Value) (done : Bool) (code : Int) : Array Value :=
  #[fpt gs, fpt gm, .int .i64 c, .pointer (some ⟨gh, i * 4, none⟩), jv j, pl, .bool done, .int .i64 code]
def place (f : FuncId) (gt : Nat) : Value := .func (.func f) #[fpt gt] #[]
set_option maxRecDepth 100000 in
set_option maxHeartbeats 1600000 in
theorem turn_any {w : World} {y : SLay} {hs : List Hd} {fs : Nat → List Nat} (h : SlabMem w y hs fs) (ok : HsOk hs) (R : RS w y) {i j a : Nat} {x : Hd} (hx : hs[i]? = some x) (hj : j < x.bl.length) (ha : adr x.no x.cls j = a) (gm : Nat) (c : Int) (is : Nat) :
    Calls Tryz.prog 72 #[fpt y.gs, fpt gm, .int .i64 c, wv a, jv is] w fun e w' => ∃ gt, e = .returned (fpt gt) ∧ Row w' gt 165 (tcells y.gs gm c y.gh i j (place 99 gt) false 0) ∧ w.heap.size ≤ gt ∧ SlabMem w' y (hs.set i { x with bl := x.bl.set j is }) fs ∧ STurn w w' y y := by
  have hf0 : Found hs a i j := ⟨x, hx, hj, ha⟩
  have HF := Lib.hid (find_any h ok R.1 a)
  have HM := Lib.hid h
  have HO := Lib.hid ok
  have HX := Lib.hid hx
  have HJ := Lib.hid hj
  have HF0 := Lib.hid hf0
  obtain ⟨gs, hgs⟩ : ∃ g, g = y.gs := ⟨_, rfl⟩
  obtain ⟨gh, hgh⟩ : ∃ g, g = y.gh := ⟨_, rfl⟩
  unfold fpt at HF
  unfold wv at HF ⊢
  rw [← hgs] at HF ⊢
  rw [← hgh]
  have HGH := Lib.hid hgh
  clear h ok R hx hj ha hf0 hgs hgh
  unfold fpt jv
  go_enter Tryz.func72, Tryz.ntmps72
  go_wp2_with fail
  refine HF.out.mono ?_
  rintro e w1 ⟨hf, hb⟩
  have HB := Lib.hid hb
  rcases hf with ⟨i', j', hf', rfl⟩ | ⟨hn, rfl⟩
  · obtain ⟨rfl, rfl⟩ := found_one HO.out HM.out.most hf' HF0.out
    have hm1 := HM.out.below hb
    have hl15 := (HM.out.lens x (List.mem_of_getElem? HX.out)).1
    have hxl := HJ.out
    obtain ⟨g, hsh, hrow⟩ := (hm1.blk i' x HX.out).pos (by omega)
    have hown : (y.bv i').ownBlock = some g := by rw [hsh]; rfl
    have c3 := (hm1.head HX.out).2.2.2
    rw [hsh, ← HGH.out] at c3
    have cj := hrow.cell j'
    rw [List.getElem?_toArray, List.getElem?_map, List.getElem?_eq_getElem hxl, Option.map_some] at cj
    obtain ⟨u, cj'⟩ : ∃ u, w1.cell? ⟨g, j', none⟩ = some u := ⟨_, cj⟩
    have fj := hrow.free j'
    obtain ⟨hp, tp⟩ := hm1.put_bl (j := j') HX.out hown is
    have HP := Lib.hid hp
    have HT := Lib.hid ((STurn.of_below y hb).trans tp)
    rw [← HGH.out]
    clear hf' hb hm1 hsh hrow hown hp tp HF cj
    generalize x.bl.length = q at *
    unfold jv at HP HT ⊢
    go_upto_region 4 with (fail)
    obtain ⟨W2, hW2⟩ : ∃ W2, W2 = (w1.setCell ⟨g, j', none⟩ (.int .i64 (is : Int))).alloc (.cells #[.pointer (some ⟨gs, 0, none⟩), .pointer (some ⟨gm, 0, none⟩), .int .i64 c, .pointer (some ⟨gh, i' * 4, none⟩), .int .i64 (j' : Int), Value.nilFunc, .bool false, .int .i64 0] 165) := ⟨_, rfl⟩
    rw [← hW2]
    obtain ⟨gt, hgt⟩ : ∃ gt, gt = w1.heap.size := ⟨_, rfl⟩
    rw [← hgt]
    have hrt : Row W2 gt 165 #[.pointer (some ⟨gs, 0, none⟩), .pointer (some ⟨gm, 0, none⟩), .int .i64 c, .pointer (some ⟨gh, i' * 4, none⟩), .int .i64 (j' : Int), Value.nilFunc, .bool false, .int .i64 0] := by
      rw [hW2]
      exact rowAt (by rw [size_set]; exact hgt)
    have c5 := hrt.cell 5
    simp only [List.getElem?_toArray, List.getElem?_cons_succ, List.getElem?_cons_zero] at c5
    have f5 := hrt.free 5
    have hg2 : w.heap.size ≤ gt := by rw [hgt]; exact HB.out.size
    have HE := Lib.hid (show Row (W2.setCell ⟨gt, 5, none⟩ (.func (.func 99) #[.pointer (some ⟨gt, 0, none⟩)] #[])) gt 165 (tcells gs gm c gh i' j' (place 99 gt) false 0) ∧ w.heap.size ≤ gt ∧ SlabMem (W2.setCell ⟨gt, 5, none⟩ (.func (.func 99) #[.pointer (some ⟨gt, 0, none⟩)] #[])) y (hs.set i' { x with bl := x.bl.set j' is }) fs ∧ STurn w (W2.setCell ⟨gt, 5, none⟩ (.func (.func 99) #[.pointer (some ⟨gt, 0, none⟩)] #[])) y y from by
      have b2 : Below (w1.setCell ⟨g, j', none⟩ (.int .i64 (is : Int))).heap.size (w1.setCell ⟨g, j', none⟩ (.int .i64 (is : Int))) (W2.setCell ⟨gt, 5, none⟩ (.func (.func 99) #[.pointer (some ⟨gt, 0, none⟩)] #[])) := by
        rw [hW2]
        exact ((Below.refl _ _).alloc (Nat.le_refl _) _).setCell (p := ⟨gt, 5, none⟩) (by rw [size_set, hgt]; exact Nat.le_refl _) _
      exact ⟨hrt.set 5 _, hg2, HP.out.below b2, HT.out.trans (STurn.of_below y b2)⟩)
    clear hW2 hgt hrt hg2 cj' fj c3
    go_wp2

    go_ret
    exact ⟨gt, rfl, HE.out⟩
  · exact absurd HF0.out (hn i j)
end Go.Proofs.YtahojhaeebmpoaaGreatDoor
/- Publish, Free: a turn that begins, or why there is none. -/
namespace Go.Proofs.YtahojhaeebmpoaaGreatDoor
open Go.RowKit Go.Sort
set_option linter.unusedVariables false
def Began (w : World) (y : SLay) (hs : List Hd) (fs : Nat → List Nat) (i j : Nat) (x : Hd) (gm : Nat) (c : Int) (is : Nat) (e : Ending) (w' : World) : Prop :=
  ∃ gt, e = .returned (.tuple #[fpt gt, .int .i64 0]) ∧ Row w' gt 165 (tcells y.gs gm c y.gh i j (place 99 gt) false 0) ∧ w.heap.size ≤ gt ∧ SlabMem w' y (hs.set i { x with bl := x.bl.set j is }) fs ∧ STurn w w' y y

theorem publish_refused {p q : Option Addr} {w : World} {c a k : Int} (hk : k ≠ 0) (H : Hid (Calls Tryz.prog 71 #[.pointer p, .pointer q, .int .i64 c, .int .u64 a, .int .i64 1] w fun e w' => e = .returned (.int .i64 k) ∧ Below w.heap.size w w')) :
    Calls Tryz.prog 31 #[.pointer p, .pointer q, .int .i64 c, .int .u64 a] w fun e w' => e = .returned (.tuple #[.pointer none, .int .i64 k]) ∧ Below w.heap.size w w' := by
  have hz : (k != 0) = true := by rw [bne_iff_ne]; exact hk
  go_enter Tryz.func31, Tryz.ntmps31
  go_wp2_with fail
  refine H.out.mono ?_
  rintro e w1 ⟨rfl, hb⟩
  have HB := Lib.hid hb
  clear hb
  go_wp2
  go_ret2
  exact ⟨rfl, HB.out⟩
theorem publish_arg {w : World} {y : SLay} {hs : List Hd} {fs : Nat → List Nat} (h : SlabMem w y hs fs) {ym : Lay} {s : St} (hm : MemAt w ym s) {c : Int} (hf : fitsM s.nl hs.length c = false) (a : Int) : Calls Tryz.prog 31 #[fpt y.gs, fpt ym.g, .int .i64 c, .int .u64 a] w fun e w' => e = .returned (.tuple #[.pointer none, .int .i64 2]) ∧ Below w.heap.size w w' :=
  publish_refused (by decide) (Lib.hid ((refused_arg2 h hm hf a 1).mono fun e w' ⟨he, hw⟩ => ⟨he, by subst hw; exact Below.refl _ _⟩))
theorem publish_state {w : World} {y : SLay} {hs : List Hd} {fs : Nat → List Nat} (h : SlabMem w y hs fs) (ok : HsOk hs) (R : Rms w) {ym : Lay} {s : St} (hm : MemAt w ym s) {c : Int} (hf : fitsM s.nl hs.length c = true) {a v : Nat} (hv : isAt hs a v) (hn : v ≠ 1) :
    Calls Tryz.prog 31 #[fpt y.gs, fpt ym.g, .int .i64 c, wv a] w fun e w' => e = .returned (.tuple #[.pointer none, .int .i64 7]) ∧ Below w.heap.size w w' :=
  publish_refused (p := some ⟨y.gs, 0, none⟩) (q := some ⟨ym.g, 0, none⟩) (a := (a : Int)) (k := 7) (by decide) (Lib.hid (show Calls Tryz.prog 71 #[.pointer (some ⟨y.gs, 0, none⟩), .pointer (some ⟨ym.g, 0, none⟩), .int .i64 c, .int .u64 (a : Int), .int .i64 1] w fun e w' => e = .returned (.int .i64 7) ∧ Below w.heap.size w w' from by
    have h1 := refused_is h ok R hm hf (is := 1) hv
    rw [if_neg hn] at h1
    exact h1))
set_option maxRecDepth 100000 in
theorem publish_ok {w : World} {y : SLay} {hs : List Hd} {fs : Nat → List Nat} (h : SlabMem w y hs fs) (ok : HsOk hs) (R : RS w y) {ym : Lay} {s : St} (hm : MemAt w ym s) {c : Int} (hf : fitsM s.nl hs.length c = true) {i j a : Nat} {x : Hd} (hx : hs[i]? = some x) (hj : x.bl[j]? = some 1) (ha : adr x.no x.cls j = a) :
    Calls Tryz.prog 31 #[fpt y.gs, fpt ym.g, .int .i64 c, wv a] w (Began w y hs fs i j x ym.g c 4) := by
  have hjl := (List.getElem?_eq_some_iff.1 hj).1
  have hv : isAt hs a 1 := .inl ⟨i, j, x, hx, hjl, ha, hj⟩
  have HR0 := refused_is h ok R.1 hm hf (is := 1) hv
  rw [if_pos rfl] at HR0
  have HT := Lib.hid fun (W : World) (hb : Below w.heap.size w W) => turn_any (h.below hb) ok (R.below hb) hx hjl ha ym.g c 4
  have HK := Lib.hid (show ∀ (W W' : World) (gt : Nat), Below w.heap.size w W → (Row W' gt 165 (tcells y.gs ym.g c y.gh i j (place 99 gt) false 0) ∧ W.heap.size ≤ gt ∧ SlabMem W' y (hs.set i { x with bl := x.bl.set j 4 }) fs ∧ STurn W W' y y) → Began w y hs fs i j x ym.g c 4 (.returned (.tuple #[fpt gt, .int .i64 0])) W' from fun W W' gt hb ⟨h1, h2, h3, h4⟩ => ⟨gt, rfl, h1, Nat.le_trans hb.size h2, h3, (STurn.of_below y hb).trans h4⟩)
  have HR := Lib.hid HR0
  obtain ⟨gs, hgs⟩ : ∃ g, g = y.gs := ⟨_, rfl⟩
  obtain ⟨gm, hgm⟩ : ∃ g, g = ym.g := ⟨_, rfl⟩
  unfold fpt wv jv at HR
  rw [← hgs, ← hgm] at HR HT ⊢
  rw [← hgs, ← hgm] at HK
  unfold fpt wv jv at HT
  unfold fpt wv
  unfold fpt at HK
  rw [show (((1 : Nat)) : Int) = 1 from rfl] at HR
  rw [show (((4 : Nat)) : Int) = 4 from rfl] at HT
  clear h ok R hm hf hx hj ha hjl hv HR0 hgm hgs
  go_enter Tryz.func31, Tryz.ntmps31
  go_wp2_with fail
  refine HR.out.mono ?_
  rintro e w1 ⟨rfl, hb⟩
  have HB := Lib.hid hb
  have HT1 := Lib.hid (HT.out w1 hb)
  clear hb HR HT
  go_wp2_with fail
  refine HT1.out.mono ?_
  rintro e w2 ⟨gt, rfl, hrest⟩
  have HE := Lib.hid (HK.out w1 w2 gt HB.out hrest)
  clear hrest
  go_wp2
  go_ret2
  exact HE.out

theorem free_refused {p q : Option Addr} {w : World} {c a k : Int} (hk : k ≠ 0) (H : Hid (Calls Tryz.prog 71 #[.pointer p, .pointer q, .int .i64 c, .int .u64 a, .int .i64 2] w fun e w' => e = .returned (.int .i64 k) ∧ Below w.heap.size w w')) :
    Calls Tryz.prog 54 #[.pointer p, .pointer q, .int .i64 c, .int .u64 a] w fun e w' => e = .returned (.tuple #[.pointer none, .int .i64 k]) ∧ Below w.heap.size w w' := by
  have hz : (k != 0) = true := by rw [bne_iff_ne]; exact hk
  go_enter Tryz.func54, Tryz.ntmps54
  go_wp2_with fail
  refine H.out.mono ?_
  rintro e w1 ⟨rfl, hb⟩
  have HB := Lib.hid hb
  clear hb
  go_wp2
  go_ret2
  exact ⟨rfl, HB.out⟩
theorem free_arg {w : World} {y : SLay} {hs : List Hd} {fs : Nat → List Nat} (h : SlabMem w y hs fs) {ym : Lay} {s : St} (hm : MemAt w ym s) {c : Int} (hf : fitsM s.nl hs.length c = false) (a : Int) : Calls Tryz.prog 54 #[fpt y.gs, fpt ym.g, .int .i64 c, .int .u64 a] w fun e w' => e = .returned (.tuple #[.pointer none, .int .i64 2]) ∧ Below w.heap.size w w' :=
  free_refused (by decide) (Lib.hid ((refused_arg2 h hm hf a 2).mono fun e w' ⟨he, hw⟩ => ⟨he, by subst hw; exact Below.refl _ _⟩))
theorem free_state {w : World} {y : SLay} {hs : List Hd} {fs : Nat → List Nat} (h : SlabMem w y hs fs) (ok : HsOk hs) (R : Rms w) {ym : Lay} {s : St} (hm : MemAt w ym s) {c : Int} (hf : fitsM s.nl hs.length c = true) {a v : Nat} (hv : isAt hs a v) (hn : v ≠ 2) :
    Calls Tryz.prog 54 #[fpt y.gs, fpt ym.g, .int .i64 c, wv a] w fun e w' => e = .returned (.tuple #[.pointer none, .int .i64 7]) ∧ Below w.heap.size w w' :=
  free_refused (p := some ⟨y.gs, 0, none⟩) (q := some ⟨ym.g, 0, none⟩) (a := (a : Int)) (k := 7) (by decide) (Lib.hid (show Calls Tryz.prog 71 #[.pointer (some ⟨y.gs, 0, none⟩), .pointer (some ⟨ym.g, 0, none⟩), .int .i64 c, .int .u64 (a : Int), .int .i64 2] w fun e w' => e = .returned (.int .i64 7) ∧ Below w.heap.size w w' from by
    have h1 := refused_is h ok R hm hf (is := 2) hv
    rw [if_neg hn] at h1
    exact h1))
set_option maxRecDepth 100000 in
theorem free_ok {w : World} {y : SLay} {hs : List Hd} {fs : Nat → List Nat} (h : SlabMem w y hs fs) (ok : HsOk hs) (R : RS w y) {ym : Lay} {s : St} (hm : MemAt w ym s) {c : Int} (hf : fitsM s.nl hs.length c = true) {i j a : Nat} {x : Hd} (hx : hs[i]? = some x) (hj : x.bl[j]? = some 2) (ha : adr x.no x.cls j = a) :
    Calls Tryz.prog 54 #[fpt y.gs, fpt ym.g, .int .i64 c, wv a] w (Began w y hs fs i j x ym.g c 3) := by
  have hjl := (List.getElem?_eq_some_iff.1 hj).1
  have hv : isAt hs a 2 := .inl ⟨i, j, x, hx, hjl, ha, hj⟩
  have HR0 := refused_is h ok R.1 hm hf (is := 2) hv
  rw [if_pos rfl] at HR0
  have HT := Lib.hid fun (W : World) (hb : Below w.heap.size w W) => turn_any (h.below hb) ok (R.below hb) hx hjl ha ym.g c 3
  have HK := Lib.hid (show ∀ (W W' : World) (gt : Nat), Below w.heap.size w W → (Row W' gt 165 (tcells y.gs ym.g c y.gh i j (place 99 gt) false 0) ∧ W.heap.size ≤ gt ∧ SlabMem W' y (hs.set i { x with bl := x.bl.set j 3 }) fs ∧ STurn W W' y y) → Began w y hs fs i j x ym.g c 3 (.returned (.tuple #[fpt gt, .int .i64 0])) W' from fun W W' gt hb ⟨h1, h2, h3, h4⟩ => ⟨gt, rfl, h1, Nat.le_trans hb.size h2, h3, (STurn.of_below y hb).trans h4⟩)
  have HR := Lib.hid HR0
  obtain ⟨gs, hgs⟩ : ∃ g, g = y.gs := ⟨_, rfl⟩
  obtain ⟨gm, hgm⟩ : ∃ g, g = ym.g := ⟨_, rfl⟩
  unfold fpt wv jv at HR
  rw [← hgs, ← hgm] at HR HT ⊢
  rw [← hgs, ← hgm] at HK
  unfold fpt wv jv at HT
  unfold fpt wv
  unfold fpt at HK
  rw [show (((2 : Nat)) : Int) = 2 from rfl] at HR
  rw [show (((3 : Nat)) : Int) = 3 from rfl] at HT
  clear h ok R hm hf hx hj ha hjl hv HR0 hgm hgs
  go_enter Tryz.func54, Tryz.ntmps54
  go_wp2_with fail
  refine HR.out.mono ?_
  rintro e w1 ⟨rfl, hb⟩
  have HB := Lib.hid hb
  have HT1 := Lib.hid (HT.out w1 hb)
  clear hb HR HT
  go_wp2_with fail
  refine HT1.out.mono ?_
  rintro e w2 ⟨gt, rfl, hrest⟩
  have HE := Lib.hid (HK.out w1 w2 gt HB.out hrest)
  clear hrest
  go_wp2
  go_ret2
  exact HE.out
end Go.Proofs.YtahojhaeebmpoaaGreatDoor
/- A turn's step, of whatever its place does; of no turn, a zero one, one that is done. -/
namespace Go.Proofs.YtahojhaeebmpoaaGreatDoor
open Go.RowKit Go.Sort
set_option linter.unusedVariables false
attribute [local go_sem] Oper.semAt_some
theorem eqFn6 (w : World) (g : Nat) (fi lb : Array Value) : (binOp .eql 163 (.func (.func g) fi lb) .nilFunc).run Tryz.prog w = .ok (.bool false) w := by kernel_rfl
theorem guardFn6 (w : World) (g : Nat) (fi lb : Array Value) (x : Operand) : (eqGuard .eql 163 x (.const .nilFunc) (.func (.func g) fi lb) .nilFunc).run Tryz.prog w = .ok () w := by kernel_rfl
def stepW (w1 : World) (gt : Nat) (d : Bool) (k : Int) : World := (w1.setCell ⟨gt, 7, none⟩ (.int .i64 k)).setCell ⟨gt, 6, none⟩ (.bool d)
def StepPost (P : World → Prop) (gt : Nat) (d : Bool) (k : Int) (e : Ending) (w' : World) : Prop := e = .returned (.tuple #[.bool d, .int .i64 k]) ∧ ∃ w1, P w1 ∧ Below (stepW w1 gt d k).heap.size (stepW w1 gt d k) w'
set_option maxRecDepth 100000 in
set_option maxHeartbeats 1600000 in
theorem step_of {w : World} {gs gm gh i j gt : Nat} {c code code' : Int} {f f' : Nat} {d' : Bool} {P : World → Prop} (hcall : ∀ (w : World) (v : Value), (callFunc f #[v]).run Tryz.prog w = .ok (.enter f #[v]) w) (hr : Row w gt 165 (tcells gs gm c gh i j (place f gt) false code))
    (H : Calls Tryz.prog f #[fpt gt] w fun e w' => e = .returned (.int .i64 0) ∧ Row w' gt 165 (tcells gs gm c gh i j (place f' gt) d' code') ∧ P w') :
    Calls Tryz.prog 101 #[fpt gt] w (StepPost P gt d' 0) := by
  have mixed : Tryz.prog.follows .mixedOrders = true := by kernel_rfl
  have c5 := hr.cell 5
  have c6 := hr.cell 6
  simp only [tcells, List.getElem?_toArray, List.getElem?_cons_succ, List.getElem?_cons_zero] at c5 c6
  unfold place fpt at c5
  have q1 := fun w => eqFn6 w f #[.pointer (some ⟨gt, 0, none⟩)] #[]
  have q2 := fun w => guardFn6 w f #[.pointer (some ⟨gt, 0, none⟩)] #[] (.tmp 11)
  have H := Lib.hid H
  unfold fpt at H ⊢
  clear hr
  go_enter Tryz.func101, Tryz.ntmps101
  go_wp2_with fail
  refine H.out.mono ?_
  rintro e w1 ⟨rfl, hr1, hp⟩
  have d6 := hr1.cell 6
  have d7 := hr1.cell 7
  simp only [tcells, List.getElem?_toArray, List.getElem?_cons_succ, List.getElem?_cons_zero] at d6 d7
  have g6 := hr1.free 6
  have g7 := hr1.free 7
  have HP := Lib.hid hp
  have HR := Lib.hid hr1
  clear hp hr1 c5 c6 q1 q2 H
  cases d' with
  | true =>
    go_wp2_with fail
    obtain ⟨W2, hW2⟩ : ∃ W2, W2 = (w1.setCell ⟨gt, 7, none⟩ (.int .i64 0)).setCell ⟨gt, 6, none⟩ (.bool true) := ⟨_, rfl⟩
    rw [← hW2]
    have hrw : Row W2 gt 165 ((tcells gs gm c gh i j (place f' gt) true code').setIfInBounds 7 (.int .i64 0) |>.setIfInBounds 6 (.bool true)) := by rw [hW2]; exact (HR.out.set 7 _).set 6 _
    have k6 := hrw.cell 6
    have k7 := hrw.cell 7
    simp only [tcells, List.setIfInBounds_toArray, List.set_cons_succ, List.set_cons_zero, List.getElem?_toArray, List.getElem?_cons_succ, List.getElem?_cons_zero] at k6 k7
    have ca := fun p : LowBy W2 => p.cell k6
    have cb := fun p : LowBy W2 => p.cell k7
    have HW := Lib.hid hW2
    clear hrw k6 k7 hW2 d6 d7 g6 g7
    refine wp_region_quiet_low (by assumption) (by kernel_rfl) ?_
    repeat (go_big_quiet_step (fail))
    refine wpQuiet_nil ?_
    intro _ hw'
    obtain ⟨p, hw''⟩ := hw'
    subst hw''
    have hp := Lib.hid p.low
    clear ca cb
    go_wp2
    go_ret2
    exact ⟨rfl, w1, HP.out, by unfold stepW; rw [← HW.out]; exact hp.out⟩
  | false =>
    go_wp2_with fail
    obtain ⟨W2, hW2⟩ : ∃ W2, W2 = (w1.setCell ⟨gt, 7, none⟩ (.int .i64 0)).setCell ⟨gt, 6, none⟩ (.bool false) := ⟨_, rfl⟩
    rw [← hW2]
    have hrw : Row W2 gt 165 ((tcells gs gm c gh i j (place f' gt) false code').setIfInBounds 7 (.int .i64 0) |>.setIfInBounds 6 (.bool false)) := by rw [hW2]; exact (HR.out.set 7 _).set 6 _
    have k6 := hrw.cell 6
    have k7 := hrw.cell 7
    simp only [tcells, List.setIfInBounds_toArray, List.set_cons_succ, List.set_cons_zero, List.getElem?_toArray, List.getElem?_cons_succ, List.getElem?_cons_zero] at k6 k7
    have ca := fun p : LowBy W2 => p.cell k6
    have cb := fun p : LowBy W2 => p.cell k7
    have HW := Lib.hid hW2
    clear hrw k6 k7 hW2 d6 d7 g6 g7
    refine wp_region_quiet_low (by assumption) (by kernel_rfl) ?_
    repeat (go_big_quiet_step (fail))
    refine wpQuiet_nil ?_
    intro _ hw'
    obtain ⟨p, hw''⟩ := hw'
    subst hw''
    have hp := Lib.hid p.low
    clear ca cb
    go_wp2
    go_ret2
    exact ⟨rfl, w1, HP.out, by unfold stepW; rw [← HW.out]; exact hp.out⟩
end Go.Proofs.YtahojhaeebmpoaaGreatDoor
/- A memory, its arena's blocks, and a turn's struct, side by side: plain facts. -/
namespace Go.Proofs.YtahojhaeebmpoaaGreatDoor
open Go.RowKit Go.Sort
set_option linter.unusedVariables false
structure Game (w : World) (ym : Lay) (s : St) (y : SLay) (hs : List Hd) (fs : Nat → List Nat) : Prop where
  pm : MemAt w ym s
  ok : s.Ok
  mem : SlabMem w y hs fs
  ho : HsOk hs
  fo : FsOk hs fs
  rs : RS w y
  rm : ¬ ym.fp 0
  size : 64 * s.nl = 1024 * (hs.length + 1)
structure GTurn (w w' : World) (ym ym' : Lay) (y y' : SLay) (gt : Nat) : Prop where
  g : ym'.g = ym.g
  gs : y'.gs = y.gs
  gh : y'.gh = y.gh
  gf : y'.gf = y.gf
  but : But w w' (fun k => ym.fp k ∨ y.fp k ∨ k = gt)
  fm : ∀ k, ym'.fp k → ym.fp k ∨ w.heap.size ≤ k
  fy : ∀ k, y'.fp k → y.fp k ∨ w.heap.size ≤ k
theorem GTurn.trans {w w1 w2 : World} {ym ym1 ym2 : Lay} {y y1 y2 : SLay} {gt : Nat} (h : GTurn w w1 ym ym1 y y1 gt) (h2 : GTurn w1 w2 ym1 ym2 y1 y2 gt) : GTurn w w2 ym ym2 y y2 gt := by
  refine ⟨h2.g.trans h.g, h2.gs.trans h.gs, h2.gh.trans h.gh, h2.gf.trans h.gf, h.but.trans h2.but fun k hk => ?_, fun k hk => ?_, fun k hk => ?_⟩
  · rcases hk with hk | hk | hk
    · rcases h.fm k hk with h1 | h1
      · exact .inl (.inl h1)
      · exact .inr h1
    · rcases h.fy k hk with h1 | h1
      · exact .inl (.inr (.inl h1))
      · exact .inr h1
    · exact .inl (.inr (.inr hk))
  · rcases h2.fm k hk with h1 | h1
    · exact h.fm k h1
    · exact .inr (Nat.le_trans h.but.size h1)
  · rcases h2.fy k hk with h1 | h1
    · exact h.fy k h1
    · exact .inr (Nat.le_trans h.but.size h1)
theorem GTurn.of_mem {w w' : World} {ym ym' : Lay} (y : SLay) (gt : Nat) (t : Turn w w' ym ym') : GTurn w w' ym ym' y y gt := ⟨t.g, rfl, rfl, rfl, t.but.mono fun k h => .inl h, t.fp, fun _ h => .inl h⟩
theorem GTurn.of_slab {w w' : World} (ym : Lay) {y y' : SLay} (gt : Nat) (t : STurn w w' y y') : GTurn w w' ym ym y y' gt := ⟨rfl, t.gs, t.gh, t.gf, t.but.mono fun k h => .inr (.inl h), fun _ h => .inl h, t.fp⟩
theorem GTurn.of_below {w w' : World} (ym : Lay) (y : SLay) (gt : Nat) (h : Below w.heap.size w w') : GTurn w w' ym ym y y gt := ⟨rfl, rfl, rfl, rfl, But.of_below h _, fun _ h => .inl h, fun _ h => .inl h⟩
theorem GTurn.of_set (w : World) (ym : Lay) (y : SLay) (gt k : Nat) (v : Value) : GTurn w (w.setCell ⟨gt, k, none⟩ v) ym ym y y gt :=
  ⟨rfl, rfl, rfl, rfl, ((But.refl w (fun k => ym.fp k ∨ y.fp k ∨ k = gt)).set (p := ⟨gt, k, none⟩) (.inr (.inr rfl)) v), fun _ h => .inl h, fun _ h => .inl h⟩
section
variable {w w' : World} {ym ym' : Lay} {s s' : St} {y y' : SLay} {hs hs' : List Hd} {fs fs' : Nat → List Nat} {gt : Nat} {cs : Array Value}
theorem Game.below (G : Game w ym s y hs fs) (hb : Below w.heap.size w w') : Game w' ym s y hs fs :=
  ⟨G.pm.below hb, G.ok, G.mem.below hb, G.ho, G.fo, G.rs.below hb, G.rm, G.size⟩
theorem Game.apart (G : Game w ym s y hs fs) (hr : Row w gt 165 cs) : ¬ ym.fp gt ∧ ¬ y.fp gt := by
  refine ⟨G.pm.apart_tag hr.tag (by decide) (by decide) (by decide) (by decide), fun h => ?_⟩
  rcases G.mem.tag h with h' | h' | h' | h' | h' <;> exact absurd (hr.tag.same h') (by decide)
theorem Game.set (G : Game w ym s y hs fs) (hr : Row w gt 165 cs) (hg : gt ≠ 0) (k : Nat) (v : Value) : Game (w.setCell ⟨gt, k, none⟩ v) ym s y hs fs := by
  have hb : But w (w.setCell ⟨gt, k, none⟩ v) (fun q => q = gt) := (But.refl w (fun q => q = gt)).set (p := ⟨gt, k, none⟩) (by rfl) v
  have ha := G.apart hr
  refine ⟨G.pm.but hb fun q hq e => ?_, G.ok, G.mem.keep hb fun q hq e => ?_, G.ho, G.fo, ⟨G.rs.1.but hb (Ne.symm hg), G.rs.2⟩, G.rm, G.size⟩
  · subst e; exact ha.1 hq
  · subst e; exact ha.2 hq
theorem Game.onMem (G : Game w ym s y hs fs) (hm : MemAt w' ym' s') (ok : s'.Ok) (hn : s'.nl = s.nl) (t : Turn w w' ym ym') : Game w' ym' s' y hs fs := by
  have R := RM.turn ⟨G.rs.1, G.rm⟩ t
  exact ⟨hm, ok, G.mem.mem G.pm t, G.ho, G.fo, ⟨R.1, G.rs.2⟩, R.2, by rw [hn]; exact G.size⟩
theorem Game.onSlab (G : Game w ym s y hs fs) (hm : SlabMem w' y' hs' fs') (ho : HsOk hs') (fo : FsOk hs' fs') (hl : hs'.length = hs.length) (t : STurn w w' y y') : Game w' ym s y' hs' fs' :=
  ⟨G.pm.slab G.mem t, G.ok, hm, ho, fo, G.rs.turn t, G.rm, by rw [hl]; exact G.size⟩
theorem Row.gturn (hr : Row w gt 165 cs) (G : Game w ym s y hs fs) {gt' : Nat} (t : GTurn w w' ym ym' y y' gt') (hn : gt ≠ gt') : Row w' gt 165 cs := by
  have ha := G.apart hr
  exact t.but.row hr fun h => by rcases h with h | h | h; exact ha.1 h; exact ha.2 h; exact hn h
theorem Row.onMem (hr : Row w gt 165 cs) (G : Game w ym s y hs fs) (t : Turn w w' ym ym') : Row w' gt 165 cs := t.but.row hr (G.apart hr).1
theorem Row.onSlab (hr : Row w gt 165 cs) (G : Game w ym s y hs fs) (t : STurn w w' y y') : Row w' gt 165 cs := t.but.row hr (G.apart hr).2
end
theorem head_addr {ym : Lay} {w : World} {s : St} {y : SLay} {hs : List Hd} {fs : Nat → List Nat} (G : Game w ym s y hs fs) {i : Nat} {x : Hd} (hx : hs[i]? = some x) : 1 ≤ x.no ∧ x.no ≤ 64 ∧ 1024 * x.no + 64 ≤ 64 * s.nl ∧ hdA (x.no : Int) = ((1024 * x.no : Nat) : Int) := by
  have h1 := (G.ho i x hx).1
  have h2 := (List.getElem?_eq_some_iff.1 hx).1
  have h3 := G.mem.most
  have h4 := G.size
  refine ⟨by omega, by omega, by omega, ?_⟩
  unfold hdA
  rw [if_pos (by omega)]
  omega
def TAt (w : World) (ym : Lay) (y : SLay) (gt : Nat) (c : Int) (i j : Nat) (f : FuncId) (d : Bool) (code : Int) : Prop := Row w gt 165 (tcells y.gs ym.g c y.gh i j (place f gt) d code)
theorem TAt.turn {w w' : World} {ym ym' : Lay} {y y' : SLay} {gt i j : Nat} {c code : Int} {f : FuncId} {d : Bool} (h : Row w' gt 165 (tcells y.gs ym.g c y.gh i j (place f gt) d code)) (t : GTurn w w' ym ym' y y' gt) : TAt w' ym' y' gt c i j f d code := by
  unfold TAt
  rw [t.g, t.gs, t.gh]
  exact h
end Go.Proofs.YtahojhaeebmpoaaGreatDoor
/- What each of a turn's places does: storeClass, storeBits, flush. -/
namespace Go.Proofs.YtahojhaeebmpoaaGreatDoor
open Go.RowKit Go.Sort
set_option linter.unusedVariables false
def PlacePost (w : World) (ym : Lay) (y : SLay) (gt : Nat) (c : Int) (i j : Nat) (f : FuncId) (d : Bool) (code : Int) (s' : St) (hs' : List Hd) (w' : World) : Prop :=
  ∃ ym' y' fs', Game w' ym' s' y' hs' fs' ∧ TAt w' ym' y' gt c i j f d code ∧ GTurn w w' ym ym' y y' gt
theorem tcells_set (gs gm gh i j gt : Nat) (c code : Int) (f f' : Nat) (d : Bool) : (tcells gs gm c gh i j (place f gt) d code).setIfInBounds 5 (place f' gt) = tcells gs gm c gh i j (place f' gt) d code := rfl
theorem tcells_done (gs gm gh i j gt : Nat) (c code : Int) (f : Nat) (d : Bool) : (tcells gs gm c gh i j (place f gt) d code).setIfInBounds 6 (.bool true) = tcells gs gm c gh i j (place f gt) true code := rfl
set_option maxRecDepth 100000 in
set_option maxHeartbeats 3200000 in
theorem storeClass_any {w : World} {ym : Lay} {s : St} {y : SLay} {hs : List Hd} {fs : Nat → List Nat} (G : Game w ym s y hs fs) {gt i j : Nat} {x : Hd} {c code : Int} {d : Bool} {f : Nat}
    (T : TAt w ym y gt c i j f d code) (hg : gt ≠ 0) (hx : hs[i]? = some x) (hst : s.st + 1 < 9223372036854775808) (hp : ∀ l ∈ s.pend, l.length + 1 ≤ 1000000000) :
    Calls Tryz.prog 99 #[fpt gt] w fun e w' => e = .returned (.int .i64 0) ∧ PlacePost w ym y gt c i j 109 d code (s.store (1024 * x.no) x.cls) hs w' := by
  have mixed : Tryz.prog.follows .mixedOrders = true := by kernel_rfl
  have hr : Row w gt 165 (tcells y.gs ym.g c y.gh i j (place f gt) d code) := T
  obtain ⟨n1, n2, n3, n4⟩ := head_addr G hx
  have hc3 := (G.mem.lens x (List.mem_of_getElem? hx)).2
  have c5 := hr.cell 5
  simp only [tcells, List.getElem?_toArray, List.getElem?_cons_succ, List.getElem?_cons_zero] at c5
  have f5 := hr.free 5
  obtain ⟨W1, hW1⟩ : ∃ W1, W1 = w.setCell ⟨gt, 5, none⟩ (.func (.func 109) #[.pointer (some ⟨gt, 0, none⟩)] #[]) := ⟨_, rfl⟩
  have G1 : Game W1 ym s y hs fs := by rw [hW1]; exact G.set hr hg 5 _
  have T1 : Row W1 gt 165 (tcells y.gs ym.g c y.gh i j (place 109 gt) d code) := by rw [hW1, ← tcells_set y.gs ym.g y.gh i j gt c code f 109 d]; exact hr.set 5 _
  have t1 : GTurn w W1 ym ym y y gt := by rw [hW1]; exact GTurn.of_set w ym y gt 5 _
  have d1 := T1.cell 1
  have d3 := T1.cell 3
  simp only [tcells, List.getElem?_toArray, List.getElem?_cons_succ, List.getElem?_cons_zero] at d1 d3
  unfold fpt at d1
  have hh := G1.mem.head hx
  unfold jv at hh
  have ca := fun p : LowBy W1 => p.cell d1
  have cb := fun p : LowBy W1 => p.cell d3
  have cc := fun p : LowBy W1 => p.cell hh.1
  have cd := fun p : LowBy W1 => p.cell hh.2.1
  have HH := Lib.hid fun (p : LowBy W1) => Calls.low_of_same (w := W1) (p := p) (header_any (x.no : Int) p.W)
  rw [n4] at HH
  have hla : 1024 * x.no / 64 < s.pend.length := by have := G.pm.plen; omega
  have hok : (s.store (1024 * x.no) x.cls).Ok := store_Ok G.ok (by omega) hla (by omega) hst (by
    rw [List.getD_eq_getElem?_getD, List.getElem?_eq_getElem hla]
    exact hp _ (List.getElem_mem hla))
  have HS := Lib.hid fun (p : LowBy W1) => store_ok (G1.pm.below p.low) (1024 * x.no) x.cls (by omega) (by omega) (by omega) (by omega) (fun l hl => by have := hp l hl; omega)
  have HE := Lib.hid (show ∀ (p : LowBy W1) (w' : World) (ym' : Lay), MemAt w' ym' (s.store (1024 * x.no) x.cls) → Turn p.W w' ym ym' → PlacePost w ym y gt c i j 109 d code (s.store (1024 * x.no) x.cls) hs w' from fun p w' ym' hm' ht' => by
    have Gp := G1.below p.low
    have Tp := T1.below p.low T1.lt
    have tt := (t1.trans (GTurn.of_below ym y gt p.low)).trans (GTurn.of_mem y gt ht')
    exact ⟨ym', y, fs, Gp.onMem hm' hok rfl ht', TAt.turn (Tp.onMem Gp ht') tt, tt⟩)
  obtain ⟨A, hA⟩ : ∃ A, A = 1024 * x.no := ⟨_, rfl⟩
  rw [← hA] at HH HS HE ⊢
  obtain ⟨S', hS'⟩ : ∃ S', S' = s.store A x.cls := ⟨_, rfl⟩
  rw [← hS'] at HS HE ⊢
  obtain ⟨gm, hgm⟩ : ∃ gm, gm = ym.g := ⟨_, rfl⟩
  rw [← hgm] at ca HS
  obtain ⟨gh, hgh⟩ : ∃ gh, gh = y.gh := ⟨_, rfl⟩
  rw [← hgh] at cb cc cd
  obtain ⟨k, hk⟩ : ∃ k, k = x.cls := ⟨_, rfl⟩
  rw [← hk] at cd HS hc3
  have HST := Lib.hid (show ∀ (p : LowBy W1), Calls Tryz.prog 110 #[.pointer (some ⟨gm, 0, none⟩), .int .u64 (A : Int), .int .u64 (k : Int)] p.W (StPost p.W ym S' 0) from HS.out)
  unfold fpt
  clear G hr T n1 n2 n3 n4 G1 T1 t1 d1 d3 hh hla hok hA hS' hgm hgh hk HS hst hp hx
  go_enter Tryz.func99, Tryz.ntmps99
  go_wp2_with fail
  rw [← hW1]
  clear hW1 c5 f5
  refine wp_region_low_tail 20 (by assumption) (by kernel_rfl) ?_
  simp only [List.take_succ_cons, List.take_zero, List.drop_succ_cons, List.drop_zero]
  repeat (go_big_quiet_step ((go_at_call 79; with_reducible exact HH.out _)))
  refine wpQuiet_nil ?_
  intro _ hw'
  obtain ⟨p, hw''⟩ := hw'
  subst hw''
  clear ca cb cc cd
  go_wp2_with fail
  refine (HST.out p).mono ?_
  rintro e w2 ⟨rfl, ym2, hm2, ht2⟩
  have HZ := Lib.hid (HE.out p w2 ym2 hm2 ht2)
  clear hm2 ht2
  go_wp2
  go_ret
  exact ⟨rfl, HZ.out⟩
end Go.Proofs.YtahojhaeebmpoaaGreatDoor
/- What a turn's places do: bits, storeBits, flush. -/
namespace Go.Proofs.YtahojhaeebmpoaaGreatDoor
open Go.RowKit Go.Sort
set_option linter.unusedVariables false
def bitV (v b j : Nat) : Nat := if v = 4 then setB b j else clrB b j
theorem bitV_lt {v b j : Nat} (hb : b < 18446744073709551616) : bitV v b j < 18446744073709551616 := by
  unfold bitV
  split
  · exact setB_lt hb _
  · have := clrB_le b (j : Int); omega
theorem HsOk.bits {hs : List Hd} (ok : HsOk hs) {i b : Nat} {x : Hd} (hx : hs[i]? = some x) : HsOk (hs.set i { x with bits := b }) := by
  intro k z hz
  rw [List.getElem?_set] at hz
  have hil := (List.getElem?_eq_some_iff.1 hx).1
  by_cases e : i = k
  · subst e
    rw [if_pos rfl, if_pos hil] at hz
    cases hz
    exact ok i x hx
  · rw [if_neg e] at hz
    exact ok k z hz
theorem FsOk.bits {hs : List Hd} {fs : Nat → List Nat} (h : FsOk hs fs) {i b : Nat} {x : Hd} (hx : hs[i]? = some x) : FsOk (hs.set i { x with bits := b }) fs := by
  intro c
  have hil := (List.getElem?_eq_some_iff.1 hx).1
  refine ⟨(h c).1, fun a => ?_⟩
  rw [(h c).2]
  constructor
  · rintro ⟨k, q, z, hz, hc, hb, ha⟩
    by_cases e : i = k
    · subst e
      rw [hx] at hz
      cases hz
      exact ⟨i, q, { x with bits := b }, by rw [List.getElem?_set, if_pos rfl, if_pos hil], hc, hb, ha⟩
    · exact ⟨k, q, z, by rw [List.getElem?_set, if_neg e]; exact hz, hc, hb, ha⟩
  · rintro ⟨k, q, z, hz, hc, hb, ha⟩
    rw [List.getElem?_set] at hz
    by_cases e : i = k
    · subst e
      rw [if_pos rfl, if_pos hil] at hz
      cases hz
      exact ⟨i, q, x, hx, hc, hb, ha⟩
    · rw [if_neg e] at hz
      exact ⟨k, q, z, hz, hc, hb, ha⟩
set_option maxRecDepth 100000 in
set_option maxHeartbeats 3200000 in
theorem bits_any {w : World} {ym : Lay} {y : SLay} {hs : List Hd} {fs : Nat → List Nat} (h : SlabMem w y hs fs) {gt i j v : Nat} {x : Hd} {c code : Int} {d : Bool} {f : Nat}
    (T : TAt w ym y gt c i j f d code) (hx : hs[i]? = some x) (hv : x.bl[j]? = some v) (hb : x.bits < 18446744073709551616) :
    Calls Tryz.prog 126 #[fpt gt] w fun e w' => e = .returned (wv (bitV v x.bits j)) ∧ Below w.heap.size w w' := by
  have mixed : Tryz.prog.follows .mixedOrders = true := by kernel_rfl
  have hr : Row w gt 165 (tcells y.gs ym.g c y.gh i j (place f gt) d code) := T
  have hjl := (List.getElem?_eq_some_iff.1 hv).1
  have hl15 := (h.lens x (List.mem_of_getElem? hx)).1
  have d3 := hr.cell 3
  have d4 := hr.cell 4
  simp only [tcells, List.getElem?_toArray, List.getElem?_cons_succ, List.getElem?_cons_zero] at d3 d4
  obtain ⟨g, hsh, hrow⟩ := (h.blk i x hx).pos (by omega)
  have hh := h.head hx
  rw [hsh] at hh
  have cj := hrow.cell j
  rw [List.getElem?_toArray, List.getElem?_map, hv, Option.map_some] at cj
  unfold jv at d4 cj
  have h2 := hh.2.2.1
  unfold wv at h2
  have ca := fun p : LowBy w => p.cell d3
  have cb := fun p : LowBy w => p.cell d4
  have cc := fun p : LowBy w => p.cell hh.2.2.2
  have ce := fun p : LowBy w => p.cell cj
  have HS := Lib.hid fun (W : World) (p : LowBy W) => Calls.low_of_same (p := p) (bSet_any hb (j := (j : Int)) (by omega) (by omega) p.W)
  have HC := Lib.hid fun (W : World) (p : LowBy W) => Calls.low_of_same (p := p) (bClear_any hb (j := (j : Int)) (by omega) (by omega) p.W)
  have D3 := Lib.hid d3
  have D4 := Lib.hid d4
  have H2 := Lib.hid h2
  obtain ⟨gh, hgh⟩ : ∃ gh, gh = y.gh := ⟨_, rfl⟩
  rw [← hgh] at ca cc D3 H2
  unfold wv at HS HC
  unfold fpt
  clear h hr T hx hsh hrow hh d3 d4 h2 hgh cj hv
  generalize x.bl.length = m at *
  by_cases hv4 : v = 4
  · have hz : ((v : Int) == 4) = true := by rw [hv4]; rfl
    have HV := Lib.hid (show bitV v x.bits j = setB x.bits j from if_pos hv4)
    generalize x.bits = b at *
    rw [show wv (bitV v b j) = .int .u64 ((setB b j : Nat) : Int) from by rw [HV.out]; rfl]
    clear hv4 hb
    generalize setB b j = r at *
    go_enter Tryz.func126, Tryz.ntmps126
    go_wp2_with fail
    refine wp_region_quiet_low (by assumption) (by kernel_rfl) ?_
    repeat (go_big_quiet_step (fail))
    refine wpQuiet_nil ?_
    intro _ hw'
    obtain ⟨p, hw''⟩ := hw'
    subst hw''
    have e3 := p.cell D3.out
    have e4 := p.cell D4.out
    have e2 := p.cell H2.out
    have HPL := Lib.hid p.low
    clear ca cb cc ce
    generalize p.W = w1 at *
    clear p
    have ca := fun p : LowBy w1 => p.cell e3
    have cb := fun p : LowBy w1 => p.cell e4
    have cc := fun p : LowBy w1 => p.cell e2
    clear e3 e4 e2
    go_wp2_with fail
    refine wp_region_quiet_low (by assumption) (by kernel_rfl) ?_
    repeat (go_big_quiet_step ((go_at_call 137; with_reducible exact HS.out _ _)))
    refine wpQuiet_nil ?_
    intro _ hw'
    obtain ⟨p, hw''⟩ := hw'
    subst hw''
    have HQ := Lib.hid p.low
    clear ca cb cc
    go_wp2
    go_ret
    exact ⟨rfl, Below.and HPL.out HQ.out⟩
  · have hz : ((v : Int) == 4) = false := by rw [Bool.eq_false_iff]; intro k; have := beq_iff_eq.1 k; omega
    have HV := Lib.hid (show bitV v x.bits j = clrB x.bits j from if_neg hv4)
    generalize x.bits = b at *
    rw [show wv (bitV v b j) = .int .u64 ((clrB b j : Nat) : Int) from by rw [HV.out]; rfl]
    clear hv4 hb
    generalize clrB b j = r at *
    go_enter Tryz.func126, Tryz.ntmps126
    go_wp2_with fail
    refine wp_region_quiet_low (by assumption) (by kernel_rfl) ?_
    repeat (go_big_quiet_step (fail))
    refine wpQuiet_nil ?_
    intro _ hw'
    obtain ⟨p, hw''⟩ := hw'
    subst hw''
    have e3 := p.cell D3.out
    have e4 := p.cell D4.out
    have e2 := p.cell H2.out
    have HPL := Lib.hid p.low
    clear ca cb cc ce
    generalize p.W = w1 at *
    clear p
    have ca := fun p : LowBy w1 => p.cell e3
    have cb := fun p : LowBy w1 => p.cell e4
    have cc := fun p : LowBy w1 => p.cell e2
    clear e3 e4 e2
    go_wp2_with fail
    refine wp_region_quiet_low (by assumption) (by kernel_rfl) ?_
    repeat (go_big_quiet_step ((go_at_call 138; with_reducible exact HC.out _ _)))
    refine wpQuiet_nil ?_
    intro _ hw'
    obtain ⟨p, hw''⟩ := hw'
    subst hw''
    have HQ := Lib.hid p.low
    clear ca cb cc
    go_wp2
    go_ret
    exact ⟨rfl, Below.and HPL.out HQ.out⟩
end Go.Proofs.YtahojhaeebmpoaaGreatDoor
/- What a turn's places do: storeBits, flush. -/
namespace Go.Proofs.YtahojhaeebmpoaaGreatDoor
open Go.RowKit Go.Sort
set_option linter.unusedVariables false
set_option maxRecDepth 100000 in
set_option maxHeartbeats 3200000 in
theorem storeBits_any {w : World} {ym : Lay} {s : St} {y : SLay} {hs : List Hd} {fs : Nat → List Nat} (G : Game w ym s y hs fs) {gt i j v : Nat} {x : Hd} {c code : Int} {d : Bool} {f : Nat}
    (T : TAt w ym y gt c i j f d code) (hg : gt ≠ 0) (hx : hs[i]? = some x) (hv : x.bl[j]? = some v) (hb : x.bits < 18446744073709551616) (hst : s.st + 1 < 9223372036854775808) (hp : ∀ l ∈ s.pend, l.length + 1 ≤ 1000000000) :
    Calls Tryz.prog 109 #[fpt gt] w fun e w' => e = .returned (.int .i64 0) ∧ PlacePost w ym y gt c i j 125 d code (s.store (1024 * x.no + 8) (bitV v x.bits j)) (hs.set i { x with bits := bitV v x.bits j }) w' := by
  have mixed : Tryz.prog.follows .mixedOrders = true := by kernel_rfl
  have hr : Row w gt 165 (tcells y.gs ym.g c y.gh i j (place f gt) d code) := T
  obtain ⟨n1, n2, n3, n4⟩ := head_addr G hx
  have c5 := hr.cell 5
  simp only [tcells, List.getElem?_toArray, List.getElem?_cons_succ, List.getElem?_cons_zero] at c5
  have f5 := hr.free 5
  obtain ⟨W1, hW1⟩ : ∃ W1, W1 = w.setCell ⟨gt, 5, none⟩ (.func (.func 125) #[.pointer (some ⟨gt, 0, none⟩)] #[]) := ⟨_, rfl⟩
  have G1 : Game W1 ym s y hs fs := by rw [hW1]; exact G.set hr hg 5 _
  have T1 : Row W1 gt 165 (tcells y.gs ym.g c y.gh i j (place 125 gt) d code) := by rw [hW1, ← tcells_set y.gs ym.g y.gh i j gt c code f 125 d]; exact hr.set 5 _
  have t1 : GTurn w W1 ym ym y y gt := by rw [hW1]; exact GTurn.of_set w ym y gt 5 _
  have HBT := Lib.hid (bits_any G1.mem (show TAt W1 ym y gt c i j 125 d code from T1) hx hv hb)
  have hbl : bitV v x.bits j < 18446744073709551616 := bitV_lt hb
  have hla : (1024 * x.no + 8) / 64 < s.pend.length := by have := G.pm.plen; omega
  obtain ⟨b, hbe⟩ : ∃ b, b = bitV v x.bits j := ⟨_, rfl⟩
  rw [← hbe] at HBT hbl ⊢
  have hok : (s.store (1024 * x.no + 8) b).Ok := store_Ok G.ok (by omega) hla hbl hst (by
    rw [List.getD_eq_getElem?_getD, List.getElem?_eq_getElem hla]
    exact hp _ (List.getElem_mem hla))
  have HG1 := Lib.hid G1
  have HT1 := Lib.hid T1
  have Ht1 := Lib.hid t1
  have HX := Lib.hid hx
  have HOK := Lib.hid hok
  have HH := Lib.hid fun (W : World) (p : LowBy W) => Calls.low_of_same (p := p) (bits_yes (s := (x.no : Int)) (by omega) p.W)
  rw [n4] at HH
  rw [show ((1024 * x.no : Nat) : Int) + 8 = ((1024 * x.no + 8 : Nat) : Int) from by omega] at HH
  have HS0 : ∀ (W : World), Below W1.heap.size W1 W → Calls Tryz.prog 110 #[.pointer (some ⟨ym.g, 0, none⟩), .int .u64 ((1024 * x.no + 8 : Nat) : Int), .int .u64 (b : Int)] W (StPost W ym (s.store (1024 * x.no + 8) b) 0) :=
    fun W hb => store_ok (G1.pm.below hb) (1024 * x.no + 8) b (by omega) (by omega) hbl (by omega) (fun l hl => by have := hp l hl; omega)
  have HS := Lib.hid HS0
  obtain ⟨A, hA⟩ : ∃ A, A = 1024 * x.no + 8 := ⟨_, rfl⟩
  rw [← hA] at HH HS HOK ⊢
  obtain ⟨S', hS'⟩ : ∃ S', S' = s.store A b := ⟨_, rfl⟩
  rw [← hS'] at HS HOK ⊢
  have HNL := Lib.hid (show S'.nl = s.nl by rw [hS']; rfl)
  obtain ⟨gm, hgm⟩ : ∃ gm, gm = ym.g := ⟨_, rfl⟩
  rw [← hgm] at HS
  have HGM := Lib.hid hgm
  obtain ⟨gh, hgh⟩ : ∃ gh, gh = y.gh := ⟨_, rfl⟩
  have HGH := Lib.hid hgh
  unfold fpt wv at HBT
  unfold fpt
  clear G hr T n1 n2 n3 n4 G1 T1 t1 hla hok hA hS' hgm hgh HS0 hst hp hx hv hb hbl hbe
  go_enter Tryz.func109, Tryz.ntmps109
  go_wp2_with fail
  rw [← hW1]
  clear hW1 c5 f5
  refine HBT.out.mono ?_
  rintro e w2 ⟨rfl, hb2⟩
  have G2 := HG1.out.below hb2
  have T2 := HT1.out.below hb2 HT1.out.lt
  have d1 := T2.cell 1
  have d3 := T2.cell 3
  simp only [tcells, List.getElem?_toArray, List.getElem?_cons_succ, List.getElem?_cons_zero] at d1 d3
  unfold fpt at d1
  rw [← HGM.out] at d1
  rw [← HGH.out] at d3
  have hh := (G2.mem.head HX.out).1
  unfold jv at hh
  rw [← HGH.out] at hh
  have ca := fun p : LowBy w2 => p.cell d1
  have cb := fun p : LowBy w2 => p.cell d3
  have cc := fun p : LowBy w2 => p.cell hh
  have HG2 := Lib.hid G2
  have HT2 := Lib.hid T2
  have HB2 := Lib.hid hb2
  clear G2 T2 d1 d3 hh hb2 HBT
  go_wp2_with fail
  refine wp_region_low_tail 13 (by assumption) (by kernel_rfl) ?_
  simp only [List.take_succ_cons, List.take_zero, List.drop_succ_cons, List.drop_zero]
  repeat (go_big_quiet_step ((go_at_call 80; with_reducible exact HH.out _ _)))
  refine wpQuiet_nil ?_
  intro _ hw'
  obtain ⟨p, hw''⟩ := hw'
  subst hw''
  have HST := Lib.hid (HS.out p.W (Below.and HB2.out p.low))
  clear ca cb cc
  go_wp2_with fail
  refine HST.out.mono ?_
  rintro e w3 ⟨rfl, ym3, hm3, ht3⟩
  have Gp := HG2.out.below p.low
  have Tp := HT2.out.below p.low HT2.out.lt
  have G3 := Gp.onMem hm3 HOK.out HNL.out ht3
  have T3 := Tp.onMem Gp ht3
  have t3 := ((Ht1.out.trans (GTurn.of_below ym y gt (Below.and HB2.out p.low)))).trans (GTurn.of_mem y gt ht3)
  have k3 := T3.cell 3
  simp only [tcells, List.getElem?_toArray, List.getElem?_cons_succ, List.getElem?_cons_zero] at k3
  rw [← HGH.out] at k3
  have k2 := (G3.mem.head HX.out).2.2.1
  have kf := G3.mem.hfree (i * 4 + 2)
  rw [← HGH.out] at k2 kf
  unfold wv at k2
  have HEND := Lib.hid (show PlacePost w ym y gt c i j 125 d code S' (hs.set i { x with bits := b }) (w3.setCell ⟨gh, i * 4 + 2, none⟩ (.int .u64 (b : Int))) from by
    obtain ⟨hp3, tp3⟩ := G3.mem.put_bits HX.out b
    rw [HGH.out]
    have G4 := G3.onSlab hp3 (G3.ho.bits HX.out) (G3.fo.bits HX.out) (by rw [List.length_set]) tp3
    have T4 := T3.onSlab G3 tp3
    have t4 := t3.trans (GTurn.of_slab ym3 gt tp3)
    exact ⟨ym3, y, fs, G4, TAt.turn T4 t4, t4⟩)
  clear hm3 ht3 Gp Tp G3 T3 t3 HST
  go_wp2
  go_ret
  exact ⟨rfl, HEND.out⟩
set_option maxRecDepth 100000 in
set_option maxHeartbeats 3200000 in
theorem tflush_any {w : World} {ym : Lay} {s : St} {y : SLay} {hs : List Hd} {fs : Nat → List Nat} (G : Game w ym s y hs fs) {gt i j cl : Nat} {x : Hd} {code : Int} {d : Bool} {f : Nat}
    (T : TAt w ym y gt (cl : Int) i j f d code) (hg : gt ≠ 0) (hcl : cl ≤ 64) (hx : hs[i]? = some x) (hfl : s.fl + 1 < 9223372036854775808) :
    Calls Tryz.prog 125 #[fpt gt] w fun e w' => e = .returned (.int .i64 0) ∧ PlacePost w ym y gt (cl : Int) i j 135 d code (s.flush cl (1024 * x.no)) hs w' := by
  have mixed : Tryz.prog.follows .mixedOrders = true := by kernel_rfl
  have hr : Row w gt 165 (tcells y.gs ym.g cl y.gh i j (place f gt) d code) := T
  obtain ⟨n1, n2, n3, n4⟩ := head_addr G hx
  have c5 := hr.cell 5
  simp only [tcells, List.getElem?_toArray, List.getElem?_cons_succ, List.getElem?_cons_zero] at c5
  have f5 := hr.free 5
  obtain ⟨W1, hW1⟩ : ∃ W1, W1 = w.setCell ⟨gt, 5, none⟩ (.func (.func 135) #[.pointer (some ⟨gt, 0, none⟩)] #[]) := ⟨_, rfl⟩
  have G1 : Game W1 ym s y hs fs := by rw [hW1]; exact G.set hr hg 5 _
  have T1 : Row W1 gt 165 (tcells y.gs ym.g cl y.gh i j (place 135 gt) d code) := by rw [hW1, ← tcells_set y.gs ym.g y.gh i j gt cl code f 135 d]; exact hr.set 5 _
  have t1 : GTurn w W1 ym ym y y gt := by rw [hW1]; exact GTurn.of_set w ym y gt 5 _
  have d1 := T1.cell 1
  have d2 := T1.cell 2
  have d3 := T1.cell 3
  simp only [tcells, List.getElem?_toArray, List.getElem?_cons_succ, List.getElem?_cons_zero] at d1 d2 d3
  unfold fpt at d1
  have hh := (G1.mem.head hx).1
  unfold jv at hh
  have ca := fun p : LowBy W1 => p.cell d1
  have cb := fun p : LowBy W1 => p.cell d2
  have cc := fun p : LowBy W1 => p.cell d3
  have ce := fun p : LowBy W1 => p.cell hh
  have HH := Lib.hid fun (p : LowBy W1) => Calls.low_of_same (w := W1) (p := p) (header_any (x.no : Int) p.W)
  rw [n4] at HH
  have hok : (s.flush cl (1024 * x.no)).Ok := flush_Ok G.ok hfl
  have HS0 : ∀ (p : LowBy W1), Calls Tryz.prog 136 #[.pointer (some ⟨ym.g, 0, none⟩), .int .i64 (cl : Int), .int .u64 ((1024 * x.no : Nat) : Int)] p.W (StPost p.W ym (s.flush cl (1024 * x.no)) 0) :=
    fun p => flush_ok (G1.pm.below p.low) G.ok cl (1024 * x.no) hcl (by omega) (by omega)
  have HS := Lib.hid HS0
  have HE := Lib.hid (show ∀ (p : LowBy W1) (w' : World) (ym' : Lay), MemAt w' ym' (s.flush cl (1024 * x.no)) → Turn p.W w' ym ym' → PlacePost w ym y gt (cl : Int) i j 135 d code (s.flush cl (1024 * x.no)) hs w' from fun p w' ym' hm' ht' => by
    have Gp := G1.below p.low
    have Tp := T1.below p.low T1.lt
    have tt := (t1.trans (GTurn.of_below ym y gt p.low)).trans (GTurn.of_mem y gt ht')
    exact ⟨ym', y, fs, Gp.onMem hm' hok rfl ht', TAt.turn (Tp.onMem Gp ht') tt, tt⟩)
  obtain ⟨A, hA⟩ : ∃ A, A = 1024 * x.no := ⟨_, rfl⟩
  rw [← hA] at HH HS HE ⊢
  obtain ⟨S', hS'⟩ : ∃ S', S' = s.flush cl A := ⟨_, rfl⟩
  rw [← hS'] at HS HE ⊢
  obtain ⟨gm, hgm⟩ : ∃ gm, gm = ym.g := ⟨_, rfl⟩
  rw [← hgm] at ca HS
  obtain ⟨gh, hgh⟩ : ∃ gh, gh = y.gh := ⟨_, rfl⟩
  rw [← hgh] at cc ce
  unfold fpt
  clear G hr T n1 n2 n3 n4 G1 T1 t1 d1 d2 d3 hh hok hA hS' hgm hgh HS0 hfl hx
  go_enter Tryz.func125, Tryz.ntmps125
  go_wp2_with fail
  rw [← hW1]
  clear hW1 c5 f5
  refine wp_region_low_tail 16 (by assumption) (by kernel_rfl) ?_
  simp only [List.take_succ_cons, List.take_zero, List.drop_succ_cons, List.drop_zero]
  repeat (go_big_quiet_step ((go_at_call 79; with_reducible exact HH.out _)))
  refine wpQuiet_nil ?_
  intro _ hw'
  obtain ⟨p, hw''⟩ := hw'
  subst hw''
  clear ca cb cc ce
  go_wp2_with fail
  refine (HS.out p).mono ?_
  rintro e w2 ⟨rfl, ym2, hm2, ht2⟩
  have HZ := Lib.hid (HE.out p w2 ym2 hm2 ht2)
  clear hm2 ht2
  go_wp2
  go_ret
  exact ⟨rfl, HZ.out⟩
end Go.Proofs.YtahojhaeebmpoaaGreatDoor
/- What a turn's places do: settle, fence. -/
namespace Go.Proofs.YtahojhaeebmpoaaGreatDoor
open Go.RowKit Go.Sort
set_option linter.unusedVariables false
def settled (v : Nat) : Nat := if v = 4 then 2 else 0
def SetPost (w : World) (ym : Lay) (s : St) (y : SLay) (gt : Nat) (c : Int) (i j : Nat) (f : FuncId) (d : Bool) (code : Int) (hs' : List Hd) (e : Ending) (w' : World) : Prop :=
  e = .returned (.tuple #[]) ∧ ∃ y' fs', Game w' ym s y' hs' fs' ∧ TAt w' ym y' gt c i j f d code ∧ GTurn w w' ym ym y y' gt
set_option maxRecDepth 100000 in
set_option maxHeartbeats 3200000 in
theorem settle_any {w : World} {ym : Lay} {s : St} {y : SLay} {hs : List Hd} {fs : Nat → List Nat} (G : Game w ym s y hs fs) {gt i j v : Nat} {x : Hd} {c code : Int} {d : Bool} {f : Nat}
    (T : TAt w ym y gt c i j f d code) (hx : hs[i]? = some x) (hv : x.bl[j]? = some v) (hv0 : v ≠ 0) :
    Calls Tryz.prog 143 #[fpt gt] w (SetPost w ym s y gt c i j f d code (hs.set i { x with bl := x.bl.set j (settled v) })) := by
  have mixed : Tryz.prog.follows .mixedOrders = true := by kernel_rfl
  have hr : Row w gt 165 (tcells y.gs ym.g c y.gh i j (place f gt) d code) := T
  obtain ⟨n1, n2, n3, n4⟩ := head_addr G hx
  have hjl := (List.getElem?_eq_some_iff.1 hv).1
  have hl15 := (G.mem.lens x (List.mem_of_getElem? hx)).1
  have d0 := hr.cell 0
  have d3 := hr.cell 3
  have d4 := hr.cell 4
  simp only [tcells, List.getElem?_toArray, List.getElem?_cons_succ, List.getElem?_cons_zero] at d0 d3 d4
  obtain ⟨g, hsh, hrow⟩ := (G.mem.blk i x hx).pos (by omega)
  have hown : (y.bv i).ownBlock = some g := by rw [hsh]; rfl
  have hh := (G.mem.head hx).2.2.2
  rw [hsh] at hh
  have cj := hrow.cell j
  rw [List.getElem?_toArray, List.getElem?_map, hv, Option.map_some] at cj
  unfold jv at d4 cj
  unfold fpt at d0
  have fj := hrow.free j
  have HG := Lib.hid G
  have HR := Lib.hid hr
  have HX := Lib.hid hx
  have HV := Lib.hid hv
  have HOW := Lib.hid hown
  have HJB := Lib.hid (show j < blN x.cls by rw [← (G.ho i x hx).2]; exact hjl)
  have HRW := Lib.hid hrow
  have HN := Lib.hid (show 1 ≤ x.no ∧ x.no ≤ 64 from ⟨n1, n2⟩)
  have HJL := Lib.hid hjl
  have D0 := Lib.hid d0
  have D3 := Lib.hid d3
  have D4 := Lib.hid d4
  have DH := Lib.hid hh
  have DJ := Lib.hid cj
  have ca := fun p : LowBy w => p.cell d3
  have cb := fun p : LowBy w => p.cell d4
  have cc := fun p : LowBy w => p.cell hh
  have ce := fun p : LowBy w => p.cell cj
  obtain ⟨gh, hgh⟩ : ∃ gh, gh = y.gh := ⟨_, rfl⟩
  rw [← hgh] at ca cc D3 DH
  obtain ⟨gs, hgs⟩ : ∃ gs, gs = y.gs := ⟨_, rfl⟩
  rw [← hgs] at D0
  have HGH := Lib.hid hgh
  have HGS := Lib.hid hgs
  unfold fpt
  clear G hr T n1 n2 n3 n4 d0 d3 d4 hsh hrow hown hh cj hx hv hgh hgs fj
  generalize x.bl.length = m at *
  by_cases hv4 : v = 4
  · have hz : ((v : Int) == 4) = true := by rw [hv4]; rfl
    have HST := Lib.hid (show settled v = 2 from if_pos hv4)
    have HV0 := Lib.hid hv0
    clear hv4 hv0
    go_enter Tryz.func143, Tryz.ntmps143
    go_wp2_with fail
    refine wp_region_quiet_low (by assumption) (by kernel_rfl) ?_
    repeat (go_big_quiet_step (fail))
    refine wpQuiet_nil ?_
    intro _ hw'
    obtain ⟨p, hw''⟩ := hw'
    subst hw''
    have e3 := p.cell D3.out
    have e4 := p.cell D4.out
    have eh := p.cell DH.out
    have HPL := Lib.hid p.low
    clear ca cb cc ce
    generalize p.W = w1 at *
    clear p
    have ca := fun p : LowBy w1 => p.cell e3
    have cb := fun p : LowBy w1 => p.cell e4
    have cc := fun p : LowBy w1 => p.cell eh
    clear e3 e4 eh
    go_wp2_with fail
    refine wp_region_low_tail 12 (by assumption) (by kernel_rfl) ?_
    simp only [List.take_succ_cons, List.take_zero, List.drop_succ_cons, List.drop_zero]
    repeat (go_big_quiet_step (fail))
    refine wpQuiet_nil ?_
    intro _ hw'
    obtain ⟨p, hw''⟩ := hw'
    subst hw''
    have HB := Lib.hid (Below.and HPL.out p.low)
    have hrw := HRW.out.below HB.out HRW.out.lt
    have k1 := hrw.free j
    have k2 : p.W.cell? ⟨g, j, none⟩ = some (.int .i64 (v : Int)) := (HB.out.cell (p := ⟨g, j, none⟩) HRW.out.lt).trans DJ.out
    have HEND := Lib.hid (show SetPost w ym s y gt c i j f d code (hs.set i { x with bl := x.bl.set j (settled v) }) (.returned (.tuple #[])) (p.W.setCell ⟨g, j, none⟩ (.int .i64 2)) from by
      have Gp := HG.out.below HB.out
      have Tp := HR.out.below HB.out HR.out.lt
      obtain ⟨hp3, tp3⟩ := Gp.mem.put_bl (j := j) HX.out HOW.out 2
      rw [HST.out]
      have G4 := Gp.onSlab hp3 (Gp.ho.set_bl HX.out) (Gp.fo.turn HX.out HV.out HV0.out (by decide)) (by rw [List.length_set]) tp3
      have t4 := (GTurn.of_below ym y gt HB.out).trans (GTurn.of_slab ym gt tp3)
      exact ⟨rfl, y, fs, G4, TAt.turn (Tp.onSlab Gp tp3) t4, t4⟩)
    clear ca cb cc hrw
    go_wp2
    refine bodyPost_ret (results_none rfl _ _ _) rfl ?_
    exact HEND.out
  · have hz : ((v : Int) == 4) = false := by rw [Bool.eq_false_iff]; intro k; have := beq_iff_eq.1 k; omega
    have HST := Lib.hid (show settled v = 0 from if_neg hv4)
    have HV0 := Lib.hid hv0
    clear hv4 hv0
    go_enter Tryz.func143, Tryz.ntmps143
    go_wp2_with fail
    refine wp_region_quiet_low (by assumption) (by kernel_rfl) ?_
    repeat (go_big_quiet_step (fail))
    refine wpQuiet_nil ?_
    intro _ hw'
    obtain ⟨p, hw''⟩ := hw'
    subst hw''
    have e0 := p.cell D0.out
    have e3 := p.cell D3.out
    have e4 := p.cell D4.out
    have HPL := Lib.hid p.low
    clear ca cb cc ce
    generalize p.W = w1 at *
    clear p
    have ca := fun p : LowBy w1 => p.cell e3
    have cb := fun p : LowBy w1 => p.cell e4
    have cc := fun p : LowBy w1 => p.cell e0
    clear e3 e4 e0
    go_wp2_with fail
    refine wp_region_low_tail 12 (by assumption) (by kernel_rfl) ?_
    simp only [List.take_succ_cons, List.take_zero, List.drop_succ_cons, List.drop_zero]
    repeat (go_big_quiet_step (fail))
    refine wpQuiet_nil ?_
    intro _ hw'
    obtain ⟨p, hw''⟩ := hw'
    subst hw''
    have HB := Lib.hid (Below.and HPL.out p.low)
    have Gp := HG.out.below HB.out
    have HLV := leave_any Gp.mem Gp.rs HX.out HN.out (j := j) (by have := HJB.out; have := (Gp.ho i x HX.out).2; omega) HJB.out (by have := Gp.fo.few Gp.ho Gp.mem.most x.cls; omega)
    unfold fpt jv at HLV
    rw [← HGS.out, ← HGH.out] at HLV
    have HLV := Lib.hid HLV
    have HGP := Lib.hid Gp
    clear ca cb cc Gp
    go_wp2_with fail
    refine HLV.out.mono ?_
    rintro e w3 ⟨rfl, y3, hm3, tp3⟩
    have HEND := Lib.hid (show SetPost w ym s y gt c i j f d code (hs.set i { x with bl := x.bl.set j (settled v) }) (.returned (.tuple #[])) w3 from by
      have Gp := HGP.out
      have Tp := HR.out.below HB.out HR.out.lt
      rw [HST.out]
      have G4 := Gp.onSlab hm3 (Gp.ho.set_bl HX.out) (Gp.fo.back Gp.ho Gp.mem.most HX.out (by have := HJB.out; have := (Gp.ho i x HX.out).2; omega)) (by rw [List.length_set]) tp3
      have t4 := (GTurn.of_below ym y gt HB.out).trans (GTurn.of_slab ym gt tp3)
      exact ⟨rfl, y3, _, G4, TAt.turn (Tp.onSlab Gp tp3) t4, t4⟩)
    clear hm3 tp3 HLV
    go_wp2
    refine bodyPost_ret (results_none rfl _ _ _) rfl ?_
    exact HEND.out
set_option maxRecDepth 100000 in
set_option maxHeartbeats 3200000 in
theorem tfence_any {w : World} {ym : Lay} {s : St} {y : SLay} {hs : List Hd} {fs : Nat → List Nat} (G : Game w ym s y hs fs) {gt i j cl v : Nat} {x : Hd} {code : Int} {d : Bool} {f : Nat}
    (T : TAt w ym y gt (cl : Int) i j f d code) (hg : gt ≠ 0) (hcl : cl ≤ 64) (hx : hs[i]? = some x) (hv : x.bl[j]? = some v) (hv0 : v ≠ 0) (hfe : s.fe + 1 < 9223372036854775808) :
    Calls Tryz.prog 135 #[fpt gt] w fun e w' => e = .returned (.int .i64 0) ∧ PlacePost w ym y gt (cl : Int) i j f true code (s.fence cl) (hs.set i { x with bl := x.bl.set j (settled v) }) w' := by
  have mixed : Tryz.prog.follows .mixedOrders = true := by kernel_rfl
  have hr : Row w gt 165 (tcells y.gs ym.g cl y.gh i j (place f gt) d code) := T
  have d1 := hr.cell 1
  have d2 := hr.cell 2
  simp only [tcells, List.getElem?_toArray, List.getElem?_cons_succ, List.getElem?_cons_zero] at d1 d2
  unfold fpt at d1
  have ca := fun p : LowBy w => p.cell d1
  have cb := fun p : LowBy w => p.cell d2
  have hok : (s.fence cl).Ok := fence_Ok G.ok hfe
  have HS0 : ∀ (p : LowBy w), Calls Tryz.prog 142 #[.pointer (some ⟨ym.g, 0, none⟩), .int .i64 (cl : Int)] p.W (StPost p.W ym (s.fence cl) 0) :=
    fun p => fence_ok (G.pm.below p.low) G.ok cl hcl hfe
  have HS := Lib.hid HS0
  have HE := Lib.hid (show ∀ (p : LowBy w) (w' : World) (ym' : Lay), MemAt w' ym' (s.fence cl) → Turn p.W w' ym ym' → Game w' ym' (s.fence cl) y hs fs ∧ TAt w' ym' y gt (cl : Int) i j f d code ∧ GTurn w w' ym ym' y y gt from fun p w' ym' hm' ht' => by
    have Gp := G.below p.low
    have Tp := hr.below p.low hr.lt
    have tt := (GTurn.of_below ym y gt p.low).trans (GTurn.of_mem y gt ht')
    exact ⟨Gp.onMem hm' hok rfl ht', TAt.turn (Tp.onMem Gp ht') tt, tt⟩)
  have HX := Lib.hid hx
  have HV := Lib.hid hv
  have HV0 := Lib.hid hv0
  have HG0 := Lib.hid hg
  obtain ⟨S', hS'⟩ : ∃ S', S' = s.fence cl := ⟨_, rfl⟩
  rw [← hS'] at HS HE ⊢
  obtain ⟨gm, hgm⟩ : ∃ gm, gm = ym.g := ⟨_, rfl⟩
  rw [← hgm] at ca HS
  unfold fpt
  clear G hr T d1 d2 hok hS' hgm HS0 hfe hx hv hv0 hg
  go_enter Tryz.func135, Tryz.ntmps135
  go_wp2_with fail
  refine wp_region_low_tail 8 (by assumption) (by kernel_rfl) ?_
  simp only [List.take_succ_cons, List.take_zero, List.drop_succ_cons, List.drop_zero]
  repeat (go_big_quiet_step (fail))
  refine wpQuiet_nil ?_
  intro _ hw'
  obtain ⟨p, hw''⟩ := hw'
  subst hw''
  clear ca cb
  go_wp2_with fail
  refine (HS.out p).mono ?_
  rintro e w2 ⟨rfl, ym2, hm2, ht2⟩
  obtain ⟨G2, T2, t2⟩ := HE.out p w2 ym2 hm2 ht2
  have HSE := settle_any G2 T2 HX.out HV.out HV0.out
  unfold fpt at HSE
  have HSE := Lib.hid HSE
  have Ht2 := Lib.hid t2
  clear hm2 ht2 G2 T2 t2 HS HE
  go_wp2_with fail
  refine HSE.out.mono ?_
  rintro e w3 ⟨rfl, y3, fs3, G3, T3, t3⟩
  have hr3 : Row w3 gt 165 (tcells y3.gs ym2.g cl y3.gh i j (place f gt) d code) := T3
  have c6 := hr3.cell 6
  simp only [tcells, List.getElem?_toArray, List.getElem?_cons_succ, List.getElem?_cons_zero] at c6
  have f6 := hr3.free 6
  have HEND := Lib.hid (show PlacePost w ym y gt (cl : Int) i j f true code S' (hs.set i { x with bl := x.bl.set j (settled v) }) (w3.setCell ⟨gt, 6, none⟩ (.bool true)) from by
    have t4 := (Ht2.out.trans t3).trans (GTurn.of_set w3 ym2 y3 gt 6 (.bool true))
    refine ⟨ym2, y3, fs3, G3.set hr3 HG0.out 6 _, ?_, t4⟩
    show Row _ _ _ _
    rw [← tcells_done y3.gs ym2.g y3.gh i j gt cl code f d]
    exact hr3.set 6 _)
  clear G3 T3 t3 hr3 HSE
  go_wp2
  go_ret
  exact ⟨rfl, HEND.out⟩
end Go.Proofs.YtahojhaeebmpoaaGreatDoor
/- A turn's step, place by place; did, step, whole of the law. -/
namespace Go.Proofs.YtahojhaeebmpoaaGreatDoor
open Go.RowKit Go.Sort
set_option linter.unusedVariables false
theorem tcells_code (gs gm gh i j gt : Nat) (c code k : Int) (f : Nat) (d : Bool) : ((tcells gs gm c gh i j (place f gt) d code).setIfInBounds 7 (.int .i64 k)).setIfInBounds 6 (.bool d) = tcells gs gm c gh i j (place f gt) d k := rfl
def StepP (w : World) (ym : Lay) (y : SLay) (gt : Nat) (c : Int) (i j : Nat) (f : FuncId) (d : Bool) (s' : St) (hs' : List Hd) (e : Ending) (w' : World) : Prop :=
  e = .returned (.tuple #[.bool d, .int .i64 0]) ∧ PlacePost w ym y gt c i j f d 0 s' hs' w'
theorem step_place {w : World} {ym : Lay} {y : SLay} {gt i j : Nat} {c code : Int} {f f' : Nat} {d' : Bool} {s' : St} {hs' : List Hd} (hcall : ∀ (w : World) (v : Value), (callFunc f #[v]).run Tryz.prog w = .ok (.enter f #[v]) w)
    (T : TAt w ym y gt c i j f false code) (hg : gt ≠ 0) (H : Calls Tryz.prog f #[fpt gt] w fun e w' => e = .returned (.int .i64 0) ∧ PlacePost w ym y gt c i j f' d' code s' hs' w') :
    Calls Tryz.prog 101 #[fpt gt] w (StepP w ym y gt c i j f' d' s' hs') := by
  have hr : Row w gt 165 (tcells y.gs ym.g c y.gh i j (place f gt) false code) := T
  refine (step_of (P := fun w1 => PlacePost w ym y gt c i j f' d' code s' hs' w1) (f' := f') (d' := d') (code' := code) hcall hr (H.mono fun e w' ⟨he, hp⟩ => ⟨he, ?_, hp⟩)).mono fun e w' ⟨he, w1, hp, hb⟩ => ⟨he, ?_⟩
  · obtain ⟨ym', y', fs', G', T', t'⟩ := hp
    have h1 : Row w' gt 165 (tcells y'.gs ym'.g c y'.gh i j (place f' gt) d' code) := T'
    rw [t'.g, t'.gs, t'.gh] at h1
    exact h1
  · obtain ⟨ym', y', fs', G', T', t'⟩ := hp
    have h1 : Row w1 gt 165 (tcells y'.gs ym'.g c y'.gh i j (place f' gt) d' code) := T'
    have G2 := G'.set h1 hg 7 (.int .i64 0)
    have h2 := h1.set 7 (.int .i64 0)
    have G3 := G2.set h2 hg 6 (.bool d')
    have h3 := h2.set 6 (.bool d')
    rw [tcells_code] at h3
    have t3 := (t'.trans (GTurn.of_set w1 ym' y' gt 7 (.int .i64 0))).trans (GTurn.of_set _ ym' y' gt 6 (.bool d'))
    have t4 := t3.trans (GTurn.of_below ym' y' gt hb)
    exact ⟨ym', y', fs', G3.below hb, h3.below hb h3.lt, t4⟩
theorem call0 (w : World) (v : Value) : (callFunc 99 #[v]).run Tryz.prog w = .ok (.enter 99 #[v]) w := by kernel_rfl
theorem call1 (w : World) (v : Value) : (callFunc 109 #[v]).run Tryz.prog w = .ok (.enter 109 #[v]) w := by kernel_rfl
theorem call2 (w : World) (v : Value) : (callFunc 125 #[v]).run Tryz.prog w = .ok (.enter 125 #[v]) w := by kernel_rfl
theorem call3 (w : World) (v : Value) : (callFunc 135 #[v]).run Tryz.prog w = .ok (.enter 135 #[v]) w := by kernel_rfl
section
variable {w : World} {ym : Lay} {s : St} {y : SLay} {hs : List Hd} {fs : Nat → List Nat} {gt i j cl v : Nat} {x : Hd} {code : Int}
theorem step0 (G : Game w ym s y hs fs) (T : TAt w ym y gt (cl : Int) i j 99 false code) (hg : gt ≠ 0) (hx : hs[i]? = some x) (hst : s.st + 1 < 9223372036854775808) (hp : ∀ l ∈ s.pend, l.length + 1 ≤ 1000000000) :
    Calls Tryz.prog 101 #[fpt gt] w (StepP w ym y gt (cl : Int) i j 109 false (s.store (1024 * x.no) x.cls) hs) := step_place call0 T hg (storeClass_any G T hg hx hst hp)
theorem step1 (G : Game w ym s y hs fs) (T : TAt w ym y gt (cl : Int) i j 109 false code) (hg : gt ≠ 0) (hx : hs[i]? = some x) (hv : x.bl[j]? = some v) (hb : x.bits < 18446744073709551616) (hst : s.st + 1 < 9223372036854775808) (hp : ∀ l ∈ s.pend, l.length + 1 ≤ 1000000000) :
    Calls Tryz.prog 101 #[fpt gt] w (StepP w ym y gt (cl : Int) i j 125 false (s.store (1024 * x.no + 8) (bitV v x.bits j)) (hs.set i { x with bits := bitV v x.bits j })) := step_place call1 T hg (storeBits_any G T hg hx hv hb hst hp)
theorem step2 (G : Game w ym s y hs fs) (T : TAt w ym y gt (cl : Int) i j 125 false code) (hg : gt ≠ 0) (hcl : cl ≤ 64) (hx : hs[i]? = some x) (hfl : s.fl + 1 < 9223372036854775808) :
    Calls Tryz.prog 101 #[fpt gt] w (StepP w ym y gt (cl : Int) i j 135 false (s.flush cl (1024 * x.no)) hs) := step_place call2 T hg (tflush_any G T hg hcl hx hfl)
theorem step3 (G : Game w ym s y hs fs) (T : TAt w ym y gt (cl : Int) i j 135 false code) (hg : gt ≠ 0) (hcl : cl ≤ 64) (hx : hs[i]? = some x) (hv : x.bl[j]? = some v) (hv0 : v ≠ 0) (hfe : s.fe + 1 < 9223372036854775808) :
    Calls Tryz.prog 101 #[fpt gt] w (StepP w ym y gt (cl : Int) i j 135 true (s.fence cl) (hs.set i { x with bl := x.bl.set j (settled v) })) := step_place call3 T hg (tfence_any G T hg hcl hx hv hv0 hfe)
end
def didN (s : St) : Nat := s.ld + s.st + s.fl + s.fe
set_option maxRecDepth 100000 in
theorem did_any {w : World} {ym : Lay} {s : St} (h : MemAt w ym s) (hd : didN s < 9223372036854775808) : Calls Tryz.prog 100 #[fpt ym.g] w fun e w' => e = .returned (wv (didN s)) ∧ Below w.heap.size w w' := by
  have H := Lib.hid (stats_yes h)
  unfold didN at hd
  have HE := Lib.hid (show wv (didN s) = .int .u64 ((s.ld : Int) + s.st + s.fl + s.fe) from by
    unfold wv didN
    congr 1)
  obtain ⟨g, hgm⟩ : ∃ g, g = ym.g := ⟨_, rfl⟩
  unfold wv at H
  unfold fpt
  rw [HE.out]
  rw [← hgm] at H ⊢
  generalize s.ld = a at *
  generalize s.st = b at *
  generalize s.fl = c at *
  generalize s.fe = d at *
  clear h hgm
  go_enter Tryz.func100, Tryz.ntmps100
  go_wp2_with fail
  refine H.out.mono ?_
  rintro e w1 ⟨rfl, hb⟩
  have HB := Lib.hid hb
  clear hb
  go_wp2_with fail
  go_ret
  exact ⟨rfl, Below.and HB.out (alloc_below _ _)⟩
def Step6P (w : World) (ym : Lay) (y : SLay) (gt : Nat) (c : Int) (i j : Nat) (f : FuncId) (d : Bool) (s' : St) (hs' : List Hd) (e : Ending) (w' : World) : Prop :=
  e = .returned (.tuple #[.bool d, .bool true]) ∧ PlacePost w ym y gt c i j f d 0 s' hs' w'
theorem PlacePost.from {w w1 w' : World} {ym : Lay} {y : SLay} {gt i j : Nat} {c code : Int} {f : Nat} {d : Bool} {s' : St} {hs' : List Hd} (h : PlacePost w1 ym y gt c i j f d code s' hs' w') (hb : Below w.heap.size w w1) : PlacePost w ym y gt c i j f d code s' hs' w' := by
  obtain ⟨ym', y', fs', G', T', t'⟩ := h
  exact ⟨ym', y', fs', G', T', (GTurn.of_below ym y gt hb).trans t'⟩
theorem PlacePost.below {w w1 w' : World} {ym : Lay} {y : SLay} {gt i j : Nat} {c code : Int} {f : Nat} {d : Bool} {s' : St} {hs' : List Hd} (h : PlacePost w ym y gt c i j f d code s' hs' w1) (hb : Below w1.heap.size w1 w') : PlacePost w ym y gt c i j f d code s' hs' w' := by
  obtain ⟨ym', y', fs', G', T', t'⟩ := h
  have h1 : Row w1 gt 165 _ := T'
  exact ⟨ym', y', fs', G'.below hb, h1.below hb h1.lt, t'.trans (GTurn.of_below ym' y' gt hb)⟩
set_option maxRecDepth 100000 in
set_option maxHeartbeats 1600000 in
theorem step6_any {w : World} {ym : Lay} {s s' : St} {y : SLay} {gt i j : Nat} {c : Int} {f' : Nat} {d' : Bool} {hs' : List Hd} (hm : MemAt w ym s) (hd : didN s + 1 < 9223372036854775808) (he : didN s' = didN s + 1)
    (H : ∀ W, Below w.heap.size w W → Calls Tryz.prog 101 #[fpt gt] W (StepP W ym y gt c i j f' d' s' hs')) :
    Calls Tryz.prog 73 #[fpt ym.g, fpt gt] w (Step6P w ym y gt c i j f' d' s' hs') := by
  have HD := Lib.hid (did_any hm (by omega))
  have HD2 := Lib.hid (show ∀ (W : World) (ym' : Lay), MemAt W ym' s' → Calls Tryz.prog 100 #[fpt ym'.g] W fun e w' => e = .returned (wv (didN s + 1)) ∧ Below W.heap.size W w' from fun W ym' h => by
    have := did_any h (by omega)
    rwa [he] at this)
  have HS := Lib.hid H
  obtain ⟨gm, hgm⟩ : ∃ g, g = ym.g := ⟨_, rfl⟩
  unfold fpt wv at HD HD2
  unfold fpt at HS ⊢
  rw [← hgm] at HD ⊢
  have HGM := Lib.hid hgm
  obtain ⟨n, hn⟩ : ∃ n, n = didN s := ⟨_, rfl⟩
  rw [← hn] at HD HD2 hd
  rw [show (((n + 1 : Nat)) : Int) = (n : Int) + 1 from rfl] at HD2
  have e1 : IntKind.u64.wrap ((n : Int) + 1 - (n : Int)) = 1 := by rw [IntKind.wrap_u64]; omega
  have e2 : (n : Int) + 1 - (n : Int) = 1 := by omega
  clear hm he H hgm hn
  cases d' with
  | true =>
    go_enter Tryz.func73, Tryz.ntmps73
    go_wp2_with fail
    refine HD.out.mono ?_
    rintro e w1 ⟨rfl, hb1⟩
    have HS1 := Lib.hid (HS.out w1 hb1)
    have HB1 := Lib.hid hb1
    clear hb1
    go_wp2_with fail
    refine HS1.out.mono ?_
    rintro e w2 ⟨rfl, hp⟩
    have HP := Lib.hid (hp.from HB1.out)
    obtain ⟨ym2, y2, fs2, G2, T2, t2⟩ := hp
    have HD3 := HD2.out w2 ym2 G2.pm
    rw [t2.g, ← HGM.out] at HD3
    have HD3 := Lib.hid HD3
    clear G2 T2 t2 HS1
    go_wp2_with fail
    refine HD3.out.mono ?_
    rintro e w3 ⟨rfl, hb3⟩
    have HE := Lib.hid (HP.out.below hb3)
    clear hb3
    go_wp2
    go_ret2
    exact ⟨rfl, HE.out⟩
  | false =>
    go_enter Tryz.func73, Tryz.ntmps73
    go_wp2_with fail
    refine HD.out.mono ?_
    rintro e w1 ⟨rfl, hb1⟩
    have HS1 := Lib.hid (HS.out w1 hb1)
    have HB1 := Lib.hid hb1
    clear hb1
    go_wp2_with fail
    refine HS1.out.mono ?_
    rintro e w2 ⟨rfl, hp⟩
    have HP := Lib.hid (hp.from HB1.out)
    obtain ⟨ym2, y2, fs2, G2, T2, t2⟩ := hp
    have HD3 := HD2.out w2 ym2 G2.pm
    rw [t2.g, ← HGM.out] at HD3
    have HD3 := Lib.hid HD3
    clear G2 T2 t2 HS1
    go_wp2_with fail
    refine HD3.out.mono ?_
    rintro e w3 ⟨rfl, hb3⟩
    have HE := Lib.hid (HP.out.below hb3)
    clear hb3
    go_wp2
    go_ret2
    exact ⟨rfl, HE.out⟩
end Go.Proofs.YtahojhaeebmpoaaGreatDoor
/- whole: a turn's steps up to its end. -/
namespace Go.Proofs.YtahojhaeebmpoaaGreatDoor
open Go.RowKit Go.Sort
set_option linter.unusedVariables false
def WholeR (w : World) (ym : Lay) (s : St) (y : SLay) (hs : List Hd) (gt cl i j b : Nat) (x : Hd) (v : Value) (wr : World) : Prop :=
  (v = .int .i64 1 ∧ PlacePost w ym y gt (cl : Int) i j 99 false 0 s hs wr) ∨
  (v = .int .i64 2 ∧ PlacePost w ym y gt (cl : Int) i j 109 false 0 (s.store (1024 * x.no) x.cls) hs wr) ∨
  (v = .int .i64 3 ∧ PlacePost w ym y gt (cl : Int) i j 125 false 0 ((s.store (1024 * x.no) x.cls).store (1024 * x.no + 8) b) (hs.set i { x with bits := b }) wr) ∨
  (v = .int .i64 4 ∧ PlacePost w ym y gt (cl : Int) i j 135 false 0 (((s.store (1024 * x.no) x.cls).store (1024 * x.no + 8) b).flush cl (1024 * x.no)) (hs.set i { x with bits := b }) wr)
def turnS (s : St) (no cls b cl : Nat) : St := (((s.store (1024 * no) cls).store (1024 * no + 8) b).flush cl (1024 * no)).fence cl
def turnH (hs : List Hd) (i j v b : Nat) (x : Hd) : List Hd := hs.set i { x with bits := b, bl := x.bl.set j (settled v) }
def WholeP (w : World) (ym : Lay) (s : St) (y : SLay) (hs : List Hd) (gt cl i j v : Nat) (x : Hd) (e : Ending) (w' : World) : Prop :=
  e = .returned (.int .i64 4) ∧ PlacePost w ym y gt (cl : Int) i j 135 true 0 (turnS s x.no x.cls (bitV v x.bits j) cl) (turnH hs i j v (bitV v x.bits j) x) w'
theorem pend_store {s : St} {a u n : Nat} (h : ∀ l ∈ s.pend, l.length ≤ n) : ∀ l ∈ (s.store a u).pend, l.length ≤ n + 1 := by
  intro l hl
  have hl' : l ∈ s.pend.set (a / 64) (s.pend.getD (a / 64) [] ++ [(a, u)]) := hl
  rcases List.mem_or_eq_of_mem_set hl' with h1 | rfl
  · have := h l h1; omega
  · rw [List.length_append, List.getD_eq_getElem?_getD]
    cases hg : s.pend[a / 64]? with
    | none => simp
    | some z => have := h z (List.mem_of_getElem? hg); simp; omega
theorem did_store (s : St) (a u : Nat) : didN (s.store a u) = didN s + 1 := by unfold didN St.store; show s.ld + (s.st + 1) + s.fl + s.fe = _; omega
theorem did_flush (s : St) (c a : Nat) : didN (s.flush c a) = didN s + 1 := by unfold didN St.flush; show s.ld + s.st + (s.fl + 1) + s.fe = _; omega
theorem did_fence (s : St) (c : Nat) : didN (s.fence c) = didN s + 1 := by unfold didN; show s.ld + s.st + s.fl + (s.fe + 1) = _; omega
set_option maxRecDepth 100000 in
set_option maxHeartbeats 3200000 in
theorem whole_any {w : World} {ym : Lay} {s : St} {y : SLay} {hs : List Hd} {fs : Nat → List Nat} (G : Game w ym s y hs fs) {gt i j cl v : Nat} {x : Hd} (T : TAt w ym y gt (cl : Int) i j 99 false 0) (hg : gt ≠ 0) (hcl : cl ≤ 64)
    (hx : hs[i]? = some x) (hv : x.bl[j]? = some v) (hv0 : v ≠ 0) (hb : x.bits < 18446744073709551616) (hd : didN s < 1000000000000) (hp : ∀ l ∈ s.pend, l.length ≤ 900000000) :
    Calls Tryz.prog 32 #[fpt ym.g, fpt gt] w (WholeP w ym s y hs gt cl i j v x) := by
  have hil := (List.getElem?_eq_some_iff.1 hx).1
  have h0 : s.st < 1000000000000 ∧ s.fl < 1000000000000 ∧ s.fe < 1000000000000 := by unfold didN at hd; omega
  have hx1 : ∀ b, (hs.set i { x with bits := b })[i]? = some { x with bits := b } := fun b => by rw [List.getElem?_set, if_pos rfl, if_pos hil]
  obtain ⟨b, hbe⟩ : ∃ b, b = bitV v x.bits j := ⟨_, rfl⟩
  have H0 := Lib.hid (show ∀ (wr : World), PlacePost w ym y gt (cl : Int) i j 99 false 0 s hs wr → Calls Tryz.prog 73 #[fpt ym.g, fpt gt] wr fun e w' => e = .returned (.tuple #[.bool false, .bool true]) ∧ PlacePost w ym y gt (cl : Int) i j 109 false 0 (s.store (1024 * x.no) x.cls) hs w' from fun wr ⟨ym', y', fs', G', T', t'⟩ => by
    rw [← t'.g]
    exact (step6_any G'.pm (by omega) (did_store s _ _) fun W hb => step0 (G'.below hb) (show Row _ _ _ _ from Row.below (show Row wr gt 165 _ from T') hb (show Row wr gt 165 _ from T').lt) hg hx (by omega) (fun l hl => by have := hp l hl; omega)).mono fun e w' ⟨he, ym2, y2, fs2, G2, T2, t2⟩ => ⟨he, ym2, y2, fs2, G2, T2, t'.trans t2⟩)
  have H1 := Lib.hid (show ∀ (wr : World), PlacePost w ym y gt (cl : Int) i j 109 false 0 (s.store (1024 * x.no) x.cls) hs wr → Calls Tryz.prog 73 #[fpt ym.g, fpt gt] wr fun e w' => e = .returned (.tuple #[.bool false, .bool true]) ∧ PlacePost w ym y gt (cl : Int) i j 125 false 0 ((s.store (1024 * x.no) x.cls).store (1024 * x.no + 8) b) (hs.set i { x with bits := b }) w' from fun wr ⟨ym', y', fs', G', T', t'⟩ => by
    rw [← t'.g, hbe]
    exact (step6_any G'.pm (by rw [did_store]; omega) (did_store _ _ _) fun W hb' => step1 (G'.below hb') (show Row _ _ _ _ from Row.below (show Row wr gt 165 _ from T') hb' (show Row wr gt 165 _ from T').lt) hg hx hv hb (by show s.st + 1 + 1 < _; omega) (fun l hl => by have := pend_store hp l hl; omega)).mono fun e w' ⟨he, ym2, y2, fs2, G2, T2, t2⟩ => ⟨he, ym2, y2, fs2, G2, T2, t'.trans t2⟩)
  have H2 := Lib.hid (show ∀ (wr : World), PlacePost w ym y gt (cl : Int) i j 125 false 0 ((s.store (1024 * x.no) x.cls).store (1024 * x.no + 8) b) (hs.set i { x with bits := b }) wr → Calls Tryz.prog 73 #[fpt ym.g, fpt gt] wr fun e w' => e = .returned (.tuple #[.bool false, .bool true]) ∧ PlacePost w ym y gt (cl : Int) i j 135 false 0 (((s.store (1024 * x.no) x.cls).store (1024 * x.no + 8) b).flush cl (1024 * x.no)) (hs.set i { x with bits := b }) w' from fun wr ⟨ym', y', fs', G', T', t'⟩ => by
    rw [← t'.g]
    exact (step6_any G'.pm (by rw [did_store, did_store]; omega) (did_flush _ _ _) fun W hb' => step2 (x := { x with bits := b }) (G'.below hb') (show Row _ _ _ _ from Row.below (show Row wr gt 165 _ from T') hb' (show Row wr gt 165 _ from T').lt) hg hcl (hx1 b) (by show s.fl + 1 < _; omega)).mono fun e w' ⟨he, ym2, y2, fs2, G2, T2, t2⟩ => ⟨he, ym2, y2, fs2, G2, T2, t'.trans t2⟩)
  have H3 := Lib.hid (show ∀ (wr : World), PlacePost w ym y gt (cl : Int) i j 135 false 0 (((s.store (1024 * x.no) x.cls).store (1024 * x.no + 8) b).flush cl (1024 * x.no)) (hs.set i { x with bits := b }) wr → Calls Tryz.prog 73 #[fpt ym.g, fpt gt] wr fun e w' => e = .returned (.tuple #[.bool true, .bool true]) ∧ PlacePost w ym y gt (cl : Int) i j 135 true 0 (turnS s x.no x.cls b cl) (turnH hs i j v b x) w' from fun wr ⟨ym', y', fs', G', T', t'⟩ => by
    rw [← t'.g]
    have e1 : turnH hs i j v b x = (hs.set i { x with bits := b }).set i { ({ x with bits := b } : Hd) with bl := x.bl.set j (settled v) } := by rw [List.set_set]; rfl
    rw [e1]
    exact (step6_any G'.pm (by rw [did_flush, did_store, did_store]; omega) (did_fence _ _) fun W hb' => step3 (x := { x with bits := b }) (G'.below hb') (show Row _ _ _ _ from Row.below (show Row wr gt 165 _ from T') hb' (show Row wr gt 165 _ from T').lt) hg hcl (hx1 b) hv hv0 (by show s.fe + 1 < _; omega)).mono fun e w' ⟨he, ym2, y2, fs2, G2, T2, t2⟩ => ⟨he, ym2, y2, fs2, G2, T2, t'.trans t2⟩)
  have HEND := Lib.hid (show ∀ w', PlacePost w ym y gt (cl : Int) i j 135 true 0 (turnS s x.no x.cls b cl) (turnH hs i j v b x) w' → WholeP w ym s y hs gt cl i j v x (.returned (.int .i64 4)) w' from fun w' h => by rw [hbe] at h; exact ⟨rfl, h⟩)
  have HST := Lib.hid (show PlacePost w ym y gt (cl : Int) i j 99 false 0 s hs w from ⟨ym, y, fs, G, T, GTurn.of_below ym y gt (Below.refl _ _)⟩)
  obtain ⟨gm, hgm⟩ : ∃ gm, gm = ym.g := ⟨_, rfl⟩
  unfold fpt at H0 H1 H2 H3 ⊢
  rw [← hgm] at H0 H1 H2 H3 ⊢
  clear G T hg hcl hx hv hv0 hb hd hp hil h0 hx1 hbe hgm
  go_enter Tryz.func32, Tryz.ntmps32
  go_wp2
  go_loopw [5] (fun u wr => WholeR w ym s y hs gt cl i j b x u wr) (fun u _ => (5 - intOf u).toNat)
  case atStart => exact .inl ⟨rfl, HST.out⟩
  case round =>
    rename World => wr
    rcases hrel with ⟨rfl, h⟩ | ⟨rfl, h⟩ | ⟨rfl, h⟩ | ⟨rfl, h⟩
    · have HC := Lib.hid (H0.out wr h)
      clear h
      go_wp2_with fail
      refine HC.out.mono ?_
      rintro e w2 ⟨rfl, hp⟩
      have HP := Lib.hid hp
      clear hp HC
      go_wp2
      go_roundw
      case rel => exact .inr <| .inl ⟨rfl, HP.out⟩
      case measure => simp [intOf]
    · have HC := Lib.hid (H1.out wr h)
      clear h
      go_wp2_with fail
      refine HC.out.mono ?_
      rintro e w2 ⟨rfl, hp⟩
      have HP := Lib.hid hp
      clear hp HC
      go_wp2
      go_roundw
      case rel => exact .inr <| .inr <| .inl ⟨rfl, HP.out⟩
      case measure => simp [intOf]
    · have HC := Lib.hid (H2.out wr h)
      clear h
      go_wp2_with fail
      refine HC.out.mono ?_
      rintro e w2 ⟨rfl, hp⟩
      have HP := Lib.hid hp
      clear hp HC
      go_wp2
      go_roundw
      case rel => exact .inr <| .inr <| .inr ⟨rfl, HP.out⟩
      case measure => simp [intOf]
    · have HC := Lib.hid (H3.out wr h)
      clear h
      go_wp2_with fail
      refine HC.out.mono ?_
      rintro e w2 ⟨rfl, hp⟩
      have HP := Lib.hid (HEND.out w2 hp)
      clear hp HC
      go_wp2
      go_ret
      exact HP.out
end Go.Proofs.YtahojhaeebmpoaaGreatDoor
/- The chapter's rows, as states: plain facts. -/
namespace Go.Proofs.YtahojhaeebmpoaaGreatDoor
open Go.RowKit Go.Sort
set_option linter.unusedVariables false
theorem ofB_zero (n : Nat) : ofB (List.replicate n 0) = 0 := by
  induction n with
  | zero => rfl
  | succ n ih => rw [List.replicate_succ]; show 0 + 256 * ofB _ = 0; rw [ih]
theorem pw_noughts (n k i : Nat) : pw (List.replicate n 0) k i = 0 := by
  unfold pw
  rw [List.take_replicate, List.drop_replicate, List.take_replicate, ofB_zero]
def A0 : List Hd := [⟨1, 0, 0, []⟩, ⟨2, 0, 0, []⟩]
def A1 : List Hd := [⟨1, 1, 0, List.replicate 15 0⟩, ⟨2, 0, 0, []⟩]
def A2 : List Hd := [⟨1, 1, 0, 1 :: List.replicate 14 0⟩, ⟨2, 0, 0, []⟩]
def A3 : List Hd := [⟨1, 1, 0, 1 :: List.replicate 14 0⟩, ⟨2, 3, 0, List.replicate 5 0⟩]
def A4 : List Hd := [⟨1, 1, 0, 1 :: List.replicate 14 0⟩, ⟨2, 3, 0, 1 :: List.replicate 4 0⟩]
def A5 : List Hd := [⟨1, 1, 0, 4 :: List.replicate 14 0⟩, ⟨2, 3, 0, 1 :: List.replicate 4 0⟩]
def A6 : List Hd := [⟨1, 1, 1, 2 :: List.replicate 14 0⟩, ⟨2, 3, 0, 1 :: List.replicate 4 0⟩]
theorem hsK_noughts (l : List Nat) (hl : l = List.replicate 3072 0) : hsK (hcW l) (hbW l) 2 2 = A0 := by
  have h1 : ∀ q, hcW l q = 0 := fun q => by rw [hl]; exact pw_noughts _ _ _
  have h2 : ∀ q, hbW l q = 0 := fun q => by rw [hl]; exact pw_noughts _ _ _
  have h3 : ∀ q, hdOf (hcW l) (hbW l) q = ⟨q + 1, 0, 0, []⟩ := fun q => by
    unfold hdOf
    rw [h1, h2]
    rfl
  unfold hsK
  rw [show List.range 2 = [0, 1] from rfl]
  simp only [List.map_cons, List.map_nil, h3]
  rfl
theorem okHeads_noughts (l : List Nat) (hl : l = List.replicate 3072 0) (n : Nat) : okHeads l n := by
  intro q _
  have h1 : hcW l q = 0 := by rw [hl]; exact pw_noughts _ _ _
  have h2 : hbW l q = 0 := by rw [hl]; exact pw_noughts _ _ _
  rw [h1, h2]
  decide +kernel
theorem two_get {x0 x1 z : Hd} {i : Nat} (h : [x0, x1][i]? = some z) : (i = 0 ∧ z = x0) ∨ (i = 1 ∧ z = x1) := by
  match i, h with
  | 0, h => exact .inl ⟨rfl, (Option.some.inj h).symm⟩
  | 1, h => exact .inr ⟨rfl, (Option.some.inj h).symm⟩
theorem free_two {x0 x1 : Hd} {c a : Nat} (h : FreeB [x0, x1] c a) : (x0.cls = c ∧ ∃ j : Nat, x0.bl[j]? = some 0 ∧ adr x0.no c j = a) ∨ (x1.cls = c ∧ ∃ j : Nat, x1.bl[j]? = some 0 ∧ adr x1.no c j = a) := by
  obtain ⟨i, j, x, hx, hc, hb, ha⟩ := h
  rcases two_get hx with ⟨_, rfl⟩ | ⟨_, rfl⟩
  · exact .inl ⟨hc, j, hb, ha⟩
  · exact .inr ⟨hc, j, hb, ha⟩
theorem took_det {hs1 hs' : List Hd} {c i j : Nat} {x : Hd} {e : Ending} (ok : HsOk hs1) (hm : hs1.length ≤ 64) (h : Took hs1 hs' c e) (hx : hs1[i]? = some x) (hc : x.cls = c) (hb : x.bl[j]? = some 0) (hmin : ∀ a, FreeB hs1 c a → adr x.no c j ≤ a) :
    hs' = hs1.set i { x with bl := x.bl.set j 1 } ∧ e = .returned (.tuple #[wv (adr x.no c j), .int .i64 0]) := by
  rcases h with ⟨i', j', x', hx', hc', hb', hmin', h1, h2⟩ | ⟨hn, _⟩
  · have e1 := hmin _ ⟨i', j', x', hx', hc', hb', rfl⟩
    have e2 := hmin' _ ⟨i, j, x, hx, hc, hb, rfl⟩
    have e3 : adr x'.no c j' = adr x.no c j := by omega
    obtain ⟨rfl, rfl⟩ := found_one ok hm ⟨x', hx', (List.getElem?_eq_some_iff.1 hb').1, by rw [hc']⟩ ⟨x, hx, (List.getElem?_eq_some_iff.1 hb).1, by rw [hc]; exact e3.symm⟩
    rw [hx] at hx'
    cases hx'
    exact ⟨h1, h2⟩
  · exact absurd ⟨i, j, x, hx, hc, hb, rfl⟩ (hn _)
theorem adr_ge (no c j : Nat) : 1024 * no + 64 ≤ adr no c j := by unfold adr; omega
theorem okA1 : HsOk A1 := by
  intro i x hx
  rcases two_get hx with ⟨rfl, rfl⟩ | ⟨rfl, rfl⟩ <;> exact ⟨rfl, by decide⟩
theorem okA3 : HsOk A3 := by
  intro i x hx
  rcases two_get hx with ⟨rfl, rfl⟩ | ⟨rfl, rfl⟩ <;> exact ⟨rfl, by decide⟩
theorem row1 {hs1 hs' : List Hd} {e : Ending} (hc : Claimed A0 hs1 1) (ht : Took hs1 hs' 1 e) : hs' = A2 ∧ e = .returned (.tuple #[.int .u64 1088, .int .i64 0]) := by
  have h1 : hs1 = A1 := by
    rcases hc with ⟨⟨a, ha⟩, _⟩ | ⟨_, ⟨i, x, hf, hx, rfl⟩ | ⟨hz, _⟩⟩
    · rcases free_two ha with ⟨h, _⟩ | ⟨h, _⟩ <;> cases h
    · have hi : i = 0 := by
        by_cases h0 : i = 0
        · exact h0
        · exact absurd rfl (hf.2 0 ⟨1, 0, 0, []⟩ (by omega) rfl)
      subst hi
      cases hx
      rfl
    · exact absurd rfl (hz 0 _ rfl)
  subst h1
  obtain ⟨h2, h3⟩ := took_det (i := 0) (j := 0) okA1 (by decide) ht rfl rfl rfl (fun a ha => by
    rcases free_two ha with ⟨_, j, _, ha⟩ | ⟨h, _⟩
    · have := adr_ge 1 1 j
      show adr 1 1 0 ≤ a
      have e0 : adr 1 1 0 = 1088 := rfl
      have ha' : adr 1 1 j = a := ha
      omega
    · cases h)
  exact ⟨h2, h3⟩
theorem row3 {hs1 hs' : List Hd} {e : Ending} (hc : Claimed A2 hs1 3) (ht : Took hs1 hs' 3 e) : hs' = A4 ∧ e = .returned (.tuple #[.int .u64 2112, .int .i64 0]) := by
  have h1 : hs1 = A3 := by
    rcases hc with ⟨⟨a, ha⟩, _⟩ | ⟨_, ⟨i, x, hf, hx, rfl⟩ | ⟨hz, _⟩⟩
    · rcases free_two ha with ⟨h, _⟩ | ⟨h, _⟩ <;> cases h
    · have hi : i = 1 := by
        obtain ⟨z, hz, h0⟩ := hf.1
        rcases two_get hz with ⟨rfl, rfl⟩ | ⟨rfl, rfl⟩
        · cases h0
        · rfl
      subst hi
      cases hx
      rfl
    · exact absurd rfl (hz 1 _ rfl)
  subst h1
  obtain ⟨h2, h3⟩ := took_det (i := 1) (j := 0) okA3 (by decide) ht rfl rfl rfl (fun a ha => by
    rcases free_two ha with ⟨h, _⟩ | ⟨_, j, _, ha⟩
    · cases h
    · have := adr_ge 2 3 j
      show adr 2 3 0 ≤ a
      have e0 : adr 2 3 0 = 2112 := rfl
      have ha' : adr 2 3 j = a := ha
      omega)
  exact ⟨h2, h3⟩
theorem row2 {hs1 hs' : List Hd} {e : Ending} (hc : Claimed A4 hs1 2) (ht : Took hs1 hs' 2 e) : hs' = A4 ∧ e = .returned (.tuple #[.int .u64 0, .int .i64 4]) := by
  have h1 : hs1 = A4 := by
    rcases hc with ⟨_, h⟩ | ⟨_, ⟨i, x, hf, hx, _⟩ | ⟨_, h⟩⟩
    · exact h
    · obtain ⟨z, hz, h0⟩ := hf.1
      rcases two_get hz with ⟨rfl, rfl⟩ | ⟨rfl, rfl⟩ <;> cases h0
    · exact h
  subst h1
  rcases ht with ⟨i, j, x, hx, hc', _⟩ | ⟨_, h2, h3⟩
  · rcases two_get hx with ⟨_, rfl⟩ | ⟨_, rfl⟩ <;> cases hc'
  · exact ⟨h2, h3⟩
def k6S : St := turnS (St.zero 48) 1 1 (bitV 4 0 0) 0
set_option maxRecDepth 100000 in
theorem k6_las : (bytesL k6S.lasted).length = 3072 ∧ (bytesL k6S.lasted)[1024]? = some 1 ∧ (bytesL k6S.lasted)[1032]? = some 1 := by decide +kernel
theorem k6_H : turnH A5 0 0 4 (bitV 4 0 0) ⟨1, 1, 0, 4 :: List.replicate 14 0⟩ = A6 := by kernel_rfl
end Go.Proofs.YtahojhaeebmpoaaGreatDoor
/- known: the chapter's rows come out as it says. -/
namespace Go.Proofs.YtahojhaeebmpoaaGreatDoor
open Go.RowKit Go.Sort
set_option linter.unusedVariables false
structure KG (w0 w : World) (gm gs : Nat) (ym : Lay) (s : St) (y : SLay) (hs : List Hd) (fs : Nat → List Nat) : Prop where
  G : Game w ym s y hs fs
  fm : ∀ k, ym.fp k → w0.heap.size ≤ k
  fy : ∀ k, y.fp k → w0.heap.size ≤ k
  low : Below w0.heap.size w0 w
  em : ym.g = gm
  es : y.gs = gs
section
variable {w0 w w' : World} {gm gs : Nat} {ym ym' : Lay} {s s' : St} {y y' : SLay} {hs hs' : List Hd} {fs fs' : Nat → List Nat}
theorem KG.below (h : KG w0 w gm gs ym s y hs fs) (hb : Below w.heap.size w w') : KG w0 w' gm gs ym s y hs fs := ⟨h.G.below hb, h.fm, h.fy, h.low.trans (hb.mono h.low.size), h.em, h.es⟩
theorem KG.slab (h : KG w0 w gm gs ym s y hs fs) (hm : SlabMem w' y' hs' fs') (ho : HsOk hs') (fo : FsOk hs' fs') (hl : hs'.length = hs.length) (t : STurn w w' y y') : KG w0 w' gm gs ym s y' hs' fs' :=
  ⟨h.G.onSlab hm ho fo hl t, h.fm, fun k hk => by
    rcases t.fp k hk with h1 | h1
    · exact h.fy k h1
    · exact Nat.le_trans h.low.size h1, h.low.trans (t.but.below h.low.size h.fy), h.em, t.gs.trans h.es⟩
theorem KG.turn {gt : Nat} (h : KG w0 w gm gs ym s y hs fs) (hg : w0.heap.size ≤ gt) (G' : Game w' ym' s' y' hs' fs') (t : GTurn w w' ym ym' y y' gt) : KG w0 w' gm gs ym' s' y' hs' fs' :=
  ⟨G', fun k hk => by
    rcases t.fm k hk with h1 | h1
    · exact h.fm k h1
    · exact Nat.le_trans h.low.size h1, fun k hk => by
    rcases t.fy k hk with h1 | h1
    · exact h.fy k h1
    · exact Nat.le_trans h.low.size h1, h.low.trans (t.but.below h.low.size fun k hk => by
      rcases hk with h1 | h1 | h1
      · exact h.fm k h1
      · exact h.fy k h1
      · rw [h1]; exact hg), t.g.trans h.em, t.gs.trans h.es⟩
end
theorem bytes_out6 {w : World} {B : Nat} {l : List Nat} {v : Value} {n : Nat} (h : w.ownsRow B 5 1 v l.length (l.map bv)) (hl : l.length = n) (hn : 0 < n) : ∃ g c, v = .slice (some ⟨g, 0, none⟩) n c ∧ Sl w (some ⟨g, 0, none⟩) (l.map bv) := by
  rw [hl] at h
  obtain ⟨A, cap, rfl, _, _, hs, hx⟩ := own_sl h
  rcases h.2 with ⟨h0, hz⟩ | ⟨g, cap', cur, h0, _⟩
  · cases h0; omega
  · cases h0; exact ⟨g, _, rfl, hs⟩
theorem sl_at6 {w : World} {g i n : Nat} {l : List Nat} (h : Sl w (some ⟨g, 0, none⟩) (l.map bv)) (hi : l[i]? = some n) : w.cell? ⟨g, i, none⟩ = some (.int .u8 (n : Int)) := by
  obtain ⟨a, e, hc⟩ := h i (bv n) (by rw [List.getElem?_map, hi]; rfl)
  cases e
  have e : (⟨g, 0, none⟩ : Addr).add i = ⟨g, i, none⟩ := by unfold Addr.add; split <;> simp_all
  rw [e] at hc
  exact hc
theorem noughts48 : bytesL (St.zero 48).lasted = List.replicate 3072 0 := by decide +kernel
set_option maxRecDepth 100000 in
set_option maxHeartbeats 3200000 in
theorem known6_any (w : World) (R : Rms w) : Calls Tryz.prog 7 #[] w fun e w' => e = .returned (.bool true) ∧ Below w.heap.size w w' := by
  have HN := Lib.hid (show Calls Tryz.prog 30 #[.int .i64 3072] w (NewPost 48 w) from new_yes 48 w (by decide) (by decide))
  have HR := Lib.hid R
  have HRL := Lib.hid (show 0 < w.heap.size by obtain ⟨t, ht⟩ := R; exact heap_lt ht)
  clear R
  go_enter Tryz.func7, Tryz.ntmps7
  go_wp2_with fail
  refine HN.out.mono ?_
  rintro e w1 ⟨ym, rfl, hm1, hfm, hb1⟩
  have him := image_yes hm1 (zero_Ok 48).las
  rw [noughts48] at him
  have HM1 := Lib.hid hm1
  have HFM := Lib.hid hfm
  have HB1 := Lib.hid hb1
  obtain ⟨gm, hgm⟩ : ∃ gm, gm = ym.g := ⟨_, rfl⟩
  rw [← hgm] at him ⊢
  have HGM := Lib.hid hgm
  have HIM := Lib.hid him
  clear hm1 hfm hb1 HN hgm him
  go_wp2_with fail
  refine HIM.out.mono ?_
  rintro e w2 ⟨⟨v2, rfl, ho2⟩, hb2⟩
  obtain ⟨ga, ca, rfl, hsa⟩ := bytes_out6 ho2 (n := 3072) List.length_replicate (by decide)
  have HOF := Lib.hid (show Calls Tryz.prog 9 #[.slice (some ⟨ga, 0, none⟩) 3072 ca] w2 (OfPost w2 (List.replicate 3072 0) 2) from
    slabOf_yes (n := 2) (l := List.replicate 3072 0) List.length_replicate hsa (fun x hx => by rw [List.eq_of_mem_replicate hx]; decide) (by decide) (by decide) ((HR.out.below HB1.out).below hb2))
  have HB2 := Lib.hid hb2
  clear ho2 hsa hb2 HIM
  go_wp2_with fail
  refine HOF.out.mono ?_
  rintro e w3 hof
  rcases hof with ⟨_, y3, rfl, hm3, hf3, hb3⟩ | ⟨hno, _⟩
  · rw [hsK_noughts _ rfl] at hm3
    have ho3 : HsOk A0 := by have := hsK_ok (hcW (List.replicate 3072 0)) (hbW (List.replicate 3072 0)) 2; rwa [hsK_noughts _ rfl] at this
    have fo3 : FsOk A0 (fsK (hcW (List.replicate 3072 0)) (hbW (List.replicate 3072 0)) 2) := by have := fsK_ok (hcW (List.replicate 3072 0)) (hbW (List.replicate 3072 0)) 2; rwa [hsK_noughts _ rfl] at this
    have hb12 := HB1.out.trans (HB2.out.mono HB1.out.size)
    have hb13 := hb12.trans (hb3.mono hb12.size)
    have k3 : KG w w3 gm y3.gs ym (St.zero 48) y3 A0 (fsK (hcW (List.replicate 3072 0)) (hbW (List.replicate 3072 0)) 2) := ⟨⟨(HM1.out.below HB2.out).below hb3, zero_Ok 48, hm3, ho3, fo3, ⟨HR.out.below hb13, fun h => by have := hf3 _ h; have := HB1.out.size; have := HB2.out.size; have := HRL.out; omega⟩, fun h => by have := HFM.out _ h; have := HRL.out; omega, by decide⟩, HFM.out, fun k hk => by have := hf3 k hk; have := HB1.out.size; have := HB2.out.size; omega, hb13, HGM.out.symm, rfl⟩
    obtain ⟨gs, hgs⟩ : ∃ gs, gs = y3.gs := ⟨_, rfl⟩
    rw [← hgs] at k3 ⊢
    have hH1 := reserve_any k3.G.mem k3.G.ho k3.G.fo k3.G.rs (c := 1) (by decide) (by decide)
    rw [k3.es] at hH1
    have H1 := Lib.hid (show Calls Tryz.prog 26 #[.pointer (some ⟨gs, 0, none⟩), .int .i64 1] w3 (ResPost w3 y3 A0 1) from hH1)
    clear hH1
    have K3 := Lib.hid k3
    unfold fpt
    clear hm3 hf3 hb3 ho3 fo3 hb12 hb13 k3 hgs HOF HM1 HB1 HB2 HFM HGM
    go_wp2_with fail
    refine H1.out.mono ?_
    rintro e w4 ⟨hs1, hs4, y4, fs4, hcl, htk, hm4, ho4, fo4, ht4⟩
    obtain ⟨rfl, rfl⟩ := row1 hcl htk
    have k4 := K3.out.slab hm4 ho4 fo4 rfl ht4
    have hH2 := reserve_any k4.G.mem k4.G.ho k4.G.fo k4.G.rs (c := 3) (by decide) (by decide)
    rw [k4.es] at hH2
    have H2 := Lib.hid (show Calls Tryz.prog 26 #[.pointer (some ⟨gs, 0, none⟩), .int .i64 3] w4 (ResPost w4 y4 A2 3) from hH2)
    clear hH2
    have K4 := Lib.hid k4
    clear hcl htk hm4 ho4 fo4 ht4 k4 H1 K3
    go_wp2_with fail
    refine H2.out.mono ?_
    rintro e w5 ⟨hs1, hs5, y5, fs5, hcl, htk, hm5, ho5, fo5, ht5⟩
    obtain ⟨rfl, rfl⟩ := row3 hcl htk
    have k5 := K4.out.slab hm5 ho5 fo5 rfl ht5
    have hH3 := reserve_any k5.G.mem k5.G.ho k5.G.fo k5.G.rs (c := 2) (by decide) (by decide)
    rw [k5.es] at hH3
    have H3 := Lib.hid (show Calls Tryz.prog 26 #[.pointer (some ⟨gs, 0, none⟩), .int .i64 2] w5 (ResPost w5 y5 A4 2) from hH3)
    clear hH3
    have K5 := Lib.hid k5
    clear hcl htk hm5 ho5 fo5 ht5 k5 H2 K4
    go_wp2_with fail
    refine H3.out.mono ?_
    rintro e w6 ⟨hs1, hs6, y6, fs6, hcl, htk, hm6, ho6, fo6, ht6⟩
    obtain ⟨rfl, rfl⟩ := row2 hcl htk
    have k6 := K5.out.slab hm6 ho6 fo6 rfl ht6
    have hH4 := publish_ok k6.G.mem k6.G.ho k6.G.rs k6.G.pm (c := 0) (i := 0) (j := 0) (a := 1088) (x := ⟨1, 1, 0, 1 :: List.replicate 14 0⟩) (by decide +kernel) rfl rfl rfl
    rw [k6.es, k6.em] at hH4
    have H4 := Lib.hid (show Calls Tryz.prog 31 #[.pointer (some ⟨gs, 0, none⟩), .pointer (some ⟨gm, 0, none⟩), .int .i64 0, .int .u64 1088] w6 (Began w6 y6 A4 fs6 0 0 ⟨1, 1, 0, 1 :: List.replicate 14 0⟩ gm 0 4) from hH4)
    clear hH4
    have K6 := Lib.hid k6
    clear hcl htk hm6 ho6 fo6 ht6 k6 H3 K5
    go_wp2_with fail
    refine H4.out.mono ?_
    rintro e w7 ⟨gt, rfl, hr7, hg7, hm7, ht7⟩
    have k7 : KG w w7 gm gs ym (St.zero 48) y6 A5 fs6 := K6.out.slab hm7 (K6.out.G.ho.set_bl (i := 0) (j := 0) (v := 4) (x := ⟨1, 1, 0, 1 :: List.replicate 14 0⟩) rfl) (K6.out.G.fo.turn (i := 0) (j := 0) (u := 1) (v := 4) (x := ⟨1, 1, 0, 1 :: List.replicate 14 0⟩) rfl rfl (by decide) (by decide)) rfl ht7
    have hg0 : w.heap.size ≤ gt := Nat.le_trans K6.out.low.size hg7
    have T7 : TAt w7 ym y6 gt ((0 : Nat) : Int) 0 0 99 false 0 := by
      show Row _ _ _ _
      rw [k7.em]
      exact hr7
    have hH5 := whole_any k7.G (gt := gt) (i := 0) (j := 0) (cl := 0) (v := 4) (x := ⟨1, 1, 0, 4 :: List.replicate 14 0⟩) T7 (by have := HRL.out; omega) (by decide) rfl rfl (by decide) (by decide) (by decide) (fun l hl => by rw [List.eq_of_mem_replicate hl]; decide)
    rw [k7.em] at hH5
    have H5 := Lib.hid (show Calls Tryz.prog 32 #[.pointer (some ⟨gm, 0, none⟩), .pointer (some ⟨gt, 0, none⟩)] w7 (WholeP w7 ym (St.zero 48) y6 A5 gt 0 0 0 4 ⟨1, 1, 0, 4 :: List.replicate 14 0⟩) from hH5)
    clear hH5
    have K7 := Lib.hid k7
    have HG0 := Lib.hid hg0
    unfold fpt
    clear hr7 hg7 hm7 ht7 k7 hg0 T7 H4 K6
    go_wp2_with fail
    refine H5.out.mono ?_
    rintro e w8 ⟨rfl, ym8, y8, fs8, G8, T8, t8⟩
    have k8 := K7.out.turn HG0.out G8 t8
    rw [k6_H] at k8
    have H6 := is_any k8.G.mem k8.G.ho k8.G.rs.1 1088
    rw [k8.es] at H6
    have H6' : Calls Tryz.prog 14 #[.pointer (some ⟨gs, 0, none⟩), .int .u64 1088] w8 fun e w' => e = .returned (.int .i64 2) ∧ Below w8.heap.size w8 w' := H6.mono fun e w' ⟨⟨u, hu, he⟩, hb⟩ => by
      obtain rfl := isAt_one k8.G.ho k8.G.mem.most hu (.inl ⟨0, 0, ⟨1, 1, 1, 2 :: List.replicate 14 0⟩, rfl, by decide, rfl, rfl⟩ : isAt A6 1088 2)
      exact ⟨he, hb⟩
    have HI6 := Lib.hid H6'
    have K8 := Lib.hid k8
    clear G8 T8 t8 k8 H6 H6' H5 K7
    go_wp2_with fail
    refine HI6.out.mono ?_
    rintro e w9 ⟨rfl, hb9⟩
    have k9 := K8.out.below hb9
    have h7 := image_yes k9.G.pm k9.G.ok.las
    rw [k9.em] at h7
    have H7 := Lib.hid h7
    clear h7
    have K9 := Lib.hid k9
    clear hb9 k9 HI6 K8
    go_wp2_with fail
    refine H7.out.mono ?_
    rintro e wA ⟨⟨vA, rfl, hoA⟩, hbA⟩
    obtain ⟨gb, cb, rfl, hsb⟩ := bytes_out6 hoA (n := 3072) k6_las.1 (by decide)
    have B0 := sl_at6 hsb k6_las.2.1
    have B8 := sl_at6 hsb k6_las.2.2
    have HE := Lib.hid (K9.out.below hbA).low
    clear hoA hbA hsb H7 K9
    go_wp2
    go_ret
    exact ⟨rfl, HE.out⟩
  · exact absurd (okHeads_noughts _ rfl 2) hno
end Go.Proofs.YtahojhaeebmpoaaGreatDoor
