/- Texts of this claim, packed: LTurn, LPub, LStep. -/
import Derived.Test.YtahojhaeebmpoaaGreatDoorPk40
import Derived.Laws.EntriesVeiled
/- refused, turn: may there be a turn of a block, and one that begins. -/
namespace Go.Proofs.YtahojhaeebmpoaaGreatDoor
open Go.RowKit Go.Sort
set_option linter.unusedVariables false
theorem isAt_one {hs : List Hd} (ok : HsOk hs) (hm : hs.length ≤ 64) {a u v : Nat} (h : isAt hs a u) (h' : isAt hs a v) : u = v := by
  rcases h with ⟨i, j, x, hx, hj, ha, hb⟩ | ⟨hn, rfl⟩
  · rcases h' with ⟨i', j', x', hx', hj', ha', hb'⟩ | ⟨hn, _⟩
    · obtain ⟨rfl, rfl⟩ := found_one ok hm ⟨x, hx, hj, ha⟩ ⟨x', hx', hj', ha'⟩
      rw [hx] at hx'
      cases hx'
      rw [hb] at hb'
      exact Option.some.inj hb'
    · exact absurd ⟨x, hx, hj, ha⟩ (hn i j)
  · rcases h' with ⟨i', j', x', hx', hj', ha', hb'⟩ | ⟨_, rfl⟩
    · exact absurd ⟨x', hx', hj', ha'⟩ (hn i' j')
    · rfl
theorem refused_none {p : Option Addr} {w : World} (h : NoSlab w p) (q : Option Addr) (c a is : Int) : Calls Tryz.prog 71 #[.pointer p, .pointer q, .int .i64 c, .int .u64 a, .int .i64 is] w fun e w' => e = .returned (.int .i64 1) ∧ w = w' := by
  have H := Lib.hid (snone_none h)
  clear h
  go_enter Tryz.func71, Tryz.ntmps71
  go_wp2_with fail
  refine H.out.mono ?_
  rintro e w1 ⟨rfl, rfl⟩
  go_wp2
  go_ret
  exact ⟨rfl, rfl⟩
theorem refused_nomem {w : World} {y : SLay} {hs : List Hd} {fs : Nat → List Nat} (h : SlabMem w y hs fs) {q : Option Addr} (hq : NoMem w q) (c a is : Int) : Calls Tryz.prog 71 #[fpt y.gs, .pointer q, .int .i64 c, .int .u64 a, .int .i64 is] w fun e w' => e = .returned (.int .i64 1) ∧ w = w' := by
  have H := Lib.hid (snone_at h)
  have HZ := Lib.hid (size_no hq)
  unfold fpt at H ⊢
  clear h hq
  go_enter Tryz.func71, Tryz.ntmps71
  go_wp2_with fail
  refine H.out.mono ?_
  rintro e w1 ⟨rfl, rfl⟩
  go_wp2_with fail
  refine HZ.out.mono ?_
  rintro e w1 ⟨rfl, rfl⟩
  go_wp2
  go_ret
  exact ⟨rfl, rfl⟩
/-- Is a memory the arena's, a client one? -/
def fitsM (nl n : Nat) (c : Int) : Bool := decide (64 * nl = 1024 * (n + 1)) && inB c 0 64
set_option maxRecDepth 100000 in
theorem refused_arg2 {w : World} {y : SLay} {hs : List Hd} {fs : Nat → List Nat} (h : SlabMem w y hs fs) {ym : Lay} {s : St} (hm : MemAt w ym s) {c : Int} (hf : fitsM s.nl hs.length c = false) (a is : Int) : Calls Tryz.prog 71 #[fpt y.gs, fpt ym.g, .int .i64 c, .int .u64 a, .int .i64 is] w fun e w' => e = .returned (.int .i64 2) ∧ w = w' := by
  have H := Lib.hid (snone_at h)
  have HZ := Lib.hid (size_yes hm)
  have HN := Lib.hid (slabs_at h)
  have HG := Lib.hid (size_any (hs.length : Int) w)
  have hpos := h.pos
  have hmost := h.most
  have e1 : sizeN (hs.length : Int) = ((1024 * (hs.length + 1) : Nat) : Int) := by unfold sizeN; rw [if_pos (by omega)]; omega
  rw [e1] at HG
  have hz0 : (((64 * s.nl : Nat) : Int) == 0) = false := by rw [Bool.eq_false_iff]; intro k; have := beq_iff_eq.1 k; have := hm.pos; omega
  have hns := hm.most
  unfold fpt at H HN ⊢
  unfold fitsM at hf
  generalize hs.length = n at *
  obtain ⟨gs, hgs⟩ : ∃ g, g = y.gs := ⟨_, rfl⟩
  obtain ⟨gm, hgm⟩ : ∃ g, g = ym.g := ⟨_, rfl⟩
  rw [← hgs] at H HN ⊢
  rw [← hgm] at HZ ⊢
  clear h hm hgs hgm e1
  by_cases hs1 : 64 * s.nl = 1024 * (n + 1)
  · rw [decide_eq_true hs1, Bool.true_and] at hf
    have HC := Lib.hid (sClient_at hf w)
    rw [hs1] at HZ hz0
    have hne : (((1024 * (n + 1) : Nat) : Int) != ((1024 * (n + 1) : Nat) : Int)) = false := by simp
    obtain ⟨Z, hZ⟩ : ∃ Z, Z = 1024 * (n + 1) := ⟨_, rfl⟩
    rw [← hZ] at HZ hz0 HG hne
    clear hs1 hf hZ
    go_enter Tryz.func71, Tryz.ntmps71
    go_wp2_with fail
    refine H.out.mono ?_
    rintro e w1 ⟨rfl, rfl⟩
    go_wp2_with fail
    refine HZ.out.mono ?_
    rintro e w1 ⟨rfl, rfl⟩
    go_wp2_with fail
    refine HZ.out.mono ?_
    rintro e w1 ⟨rfl, rfl⟩
    go_wp2_with fail
    refine HN.out.mono ?_
    rintro e w1 ⟨rfl, rfl⟩
    go_wp2_with fail
    refine HG.out.mono ?_
    rintro e w1 ⟨rfl, rfl⟩
    go_wp2_with fail
    refine HC.out.mono ?_
    rintro e w1 ⟨rfl, rfl⟩
    go_wp2
    go_ret
    exact ⟨rfl, rfl⟩
  · have hne : (((64 * s.nl : Nat) : Int) != ((1024 * (n + 1) : Nat) : Int)) = true := by
      rw [bne_iff_ne]
      intro k
      exact hs1 (by omega)
    obtain ⟨Z, hZ⟩ : ∃ Z, Z = 1024 * (n + 1) := ⟨_, rfl⟩
    obtain ⟨Y, hY⟩ : ∃ Y, Y = 64 * s.nl := ⟨_, rfl⟩
    rw [← hZ] at HG hne
    rw [← hY] at HZ hz0 hne
    clear hs1 hf hZ hY
    go_enter Tryz.func71, Tryz.ntmps71
    go_wp2_with fail
    refine H.out.mono ?_
    rintro e w1 ⟨rfl, rfl⟩
    go_wp2_with fail
    refine HZ.out.mono ?_
    rintro e w1 ⟨rfl, rfl⟩
    go_wp2_with fail
    refine HZ.out.mono ?_
    rintro e w1 ⟨rfl, rfl⟩
    go_wp2_with fail
    refine HN.out.mono ?_
    rintro e w1 ⟨rfl, rfl⟩
    go_wp2_with fail
    refine HG.out.mono ?_
    rintro e w1 ⟨rfl, rfl⟩
    go_wp2
    go_ret
    exact ⟨rfl, rfl⟩
set_option maxRecDepth 100000 in
theorem refused_is {w : World} {y : SLay} {hs : List Hd} {fs : Nat → List Nat} (h : SlabMem w y hs fs) (ok : HsOk hs) (R : Rms w) {ym : Lay} {s : St} (hm : MemAt w ym s) {c : Int} (hf : fitsM s.nl hs.length c = true) {a v is : Nat} (hv : isAt hs a v) :
    Calls Tryz.prog 71 #[fpt y.gs, fpt ym.g, .int .i64 c, wv a, jv is] w fun e w' => e = .returned (.int .i64 (if v = is then 0 else 7)) ∧ Below w.heap.size w w' := by
  have H := Lib.hid (snone_at h)
  have HZ := Lib.hid (size_yes hm)
  have HN := Lib.hid (slabs_at h)
  have HG := Lib.hid (size_any (hs.length : Int) w)
  have hpos := h.pos
  have hmost := h.most
  have e1 : sizeN (hs.length : Int) = ((1024 * (hs.length + 1) : Nat) : Int) := by unfold sizeN; rw [if_pos (by omega)]; omega
  rw [e1] at HG
  have hz0 : (((64 * s.nl : Nat) : Int) == 0) = false := by rw [Bool.eq_false_iff]; intro k; have := beq_iff_eq.1 k; have := hm.pos; omega
  have hns := hm.most
  have hi0 := is_any h ok R a
  have hi1 : Calls Tryz.prog 14 #[fpt y.gs, wv a] w fun e w' => e = .returned (.int .i64 (v : Int)) ∧ Below w.heap.size w w' := hi0.mono fun e w' ⟨⟨u, hu, he⟩, hb⟩ => by
    obtain rfl := isAt_one ok hmost hu hv
    exact ⟨he, hb⟩
  have HI := Lib.hid hi1
  unfold fpt at H HN HI ⊢
  unfold wv at HI ⊢
  unfold jv
  unfold fitsM at hf
  simp only [Bool.and_eq_true, decide_eq_true_eq] at hf
  obtain ⟨hs1, hf⟩ := hf
  have HC := Lib.hid (sClient_at hf w)
  generalize hs.length = n at *
  obtain ⟨gs, hgs⟩ : ∃ g, g = y.gs := ⟨_, rfl⟩
  obtain ⟨gm, hgm⟩ : ∃ g, g = ym.g := ⟨_, rfl⟩
  rw [← hgs] at H HN HI ⊢
  rw [← hgm] at HZ ⊢
  rw [hs1] at HZ hz0
  have hne : (((1024 * (n + 1) : Nat) : Int) != ((1024 * (n + 1) : Nat) : Int)) = false := by simp
  obtain ⟨Z, hZ⟩ : ∃ Z, Z = 1024 * (n + 1) := ⟨_, rfl⟩
  rw [← hZ] at HZ hz0 HG hne
  clear h ok R hm hgs hgm e1 hi0 hi1 hs1 hf hZ hv
  by_cases hvi : v = is
  · rw [if_pos hvi]
    have hd : ((v : Int) != (is : Int)) = false := by rw [hvi]; simp
    clear hvi
    go_enter Tryz.func71, Tryz.ntmps71
    go_wp2_with fail
    refine H.out.mono ?_
    rintro e w1 ⟨rfl, rfl⟩
    go_wp2_with fail
    refine HZ.out.mono ?_
    rintro e w1 ⟨rfl, rfl⟩
    go_wp2_with fail
    refine HZ.out.mono ?_
    rintro e w1 ⟨rfl, rfl⟩
    go_wp2_with fail
    refine HN.out.mono ?_
    rintro e w1 ⟨rfl, rfl⟩
    go_wp2_with fail
    refine HG.out.mono ?_
    rintro e w1 ⟨rfl, rfl⟩
    go_wp2_with fail
    refine HC.out.mono ?_
    rintro e w1 ⟨rfl, rfl⟩
    go_wp2_with fail
    refine HI.out.mono ?_
    rintro e w1 ⟨rfl, hb⟩
    have HB := Lib.hid hb
    clear hb
    go_wp2
    go_ret
    exact ⟨rfl, HB.out⟩
  · rw [if_neg hvi]
    have hd : ((v : Int) != (is : Int)) = true := by rw [bne_iff_ne]; omega
    clear hvi
    go_enter Tryz.func71, Tryz.ntmps71
    go_wp2_with fail
    refine H.out.mono ?_
    rintro e w1 ⟨rfl, rfl⟩
    go_wp2_with fail
    refine HZ.out.mono ?_
    rintro e w1 ⟨rfl, rfl⟩
    go_wp2_with fail
    refine HZ.out.mono ?_
    rintro e w1 ⟨rfl, rfl⟩
    go_wp2_with fail
    refine HN.out.mono ?_
    rintro e w1 ⟨rfl, rfl⟩
    go_wp2_with fail
    refine HG.out.mono ?_
    rintro e w1 ⟨rfl, rfl⟩
    go_wp2_with fail
    refine HC.out.mono ?_
    rintro e w1 ⟨rfl, rfl⟩
    go_wp2_with fail
    refine HI.out.mono ?_
    rintro e w1 ⟨rfl, hb⟩
    have HB := Lib.hid hb
    clear hb
    go_wp2
    go_ret
    exact ⟨rfl, HB.out⟩
/-- A turn's struct, as it lies. -/
def tcells (gs gm : Nat) (c : Int) (gh i j : Nat) (pl : Value) (done : Bool) (code : Int) : Array Value :=
  #[fpt gs, fpt gm, .int .i64 c, .pointer (some ⟨gh, i * 4, none⟩), jv j, pl, .bool done, .int .i64 code]
def place (f : FuncId) (gt : Nat) : Value := .func (.func f) #[fpt gt] #[]
set_option maxRecDepth 100000 in
set_option maxHeartbeats 1600000 in
theorem turn_any {w : World} {y : SLay} {hs : List Hd} {fs : Nat → List Nat} (h : SlabMem w y hs fs) (ok : HsOk hs) (R : RS w y) {i j a : Nat} {x : Hd} (hx : hs[i]? = some x) (hj : j < x.bl.length) (ha : adr x.no x.cls j = a) (gm : Nat) (c : Int) (is : Nat) :
    Calls Tryz.prog 72 #[fpt y.gs, fpt gm, .int .i64 c, wv a, jv is] w fun e w' => ∃ gt, e = .returned (fpt gt) ∧ Row w' gt 165 (tcells y.gs gm c y.gh i j (place 99 gt) false 0) ∧ w.heap.size ≤ gt ∧ SlabMem w' y (hs.set i { x with bl := x.bl.set j is }) fs ∧ STurn w w' y y := by
  have hf0 : Found hs a i j := ⟨x, hx, hj, ha⟩
  have HF := Lib.hid (find_any h ok R.1 a)
  have HM := Lib.hid h
  have HO := Lib.hid ok
  have HX := Lib.hid hx
  have HJ := Lib.hid hj
  have HF0 := Lib.hid hf0
  obtain ⟨gs, hgs⟩ : ∃ g, g = y.gs := ⟨_, rfl⟩
  obtain ⟨gh, hgh⟩ : ∃ g, g = y.gh := ⟨_, rfl⟩
  unfold fpt at HF
  unfold wv at HF ⊢
  rw [← hgs] at HF ⊢
  rw [← hgh]
  have HGH := Lib.hid hgh
  clear h ok R hx hj ha hf0 hgs hgh
  unfold fpt jv
  go_enter Tryz.func72, Tryz.ntmps72
  go_wp2_with fail
  refine HF.out.mono ?_
  rintro e w1 ⟨hf, hb⟩
  have HB := Lib.hid hb
  rcases hf with ⟨i', j', hf', rfl⟩ | ⟨hn, rfl⟩
  · obtain ⟨rfl, rfl⟩ := found_one HO.out HM.out.most hf' HF0.out
    have hm1 := HM.out.below hb
    have hl15 := (HM.out.lens x (List.mem_of_getElem? HX.out)).1
    have hxl := HJ.out
    obtain ⟨g, hsh, hrow⟩ := (hm1.blk i' x HX.out).pos (by omega)
    have hown : (y.bv i').ownBlock = some g := by rw [hsh]; rfl
    have c3 := (hm1.head HX.out).2.2.2
    rw [hsh, ← HGH.out] at c3
    have cj := hrow.cell j'
    rw [List.getElem?_toArray, List.getElem?_map, List.getElem?_eq_getElem hxl, Option.map_some] at cj
    obtain ⟨u, cj'⟩ : ∃ u, w1.cell? ⟨g, j', none⟩ = some u := ⟨_, cj⟩
    have fj := hrow.free j'
    obtain ⟨hp, tp⟩ := hm1.put_bl (j := j') HX.out hown is
    have HP := Lib.hid hp
    have HT := Lib.hid ((STurn.of_below y hb).trans tp)
    rw [← HGH.out]
    clear hf' hb hm1 hsh hrow hown hp tp HF cj
    generalize x.bl.length = q at *
    unfold jv at HP HT ⊢
    go_upto_region 4 with (fail)
    obtain ⟨W2, hW2⟩ : ∃ W2, W2 = (w1.setCell ⟨g, j', none⟩ (.int .i64 (is : Int))).alloc (.cells #[.pointer (some ⟨gs, 0, none⟩), .pointer (some ⟨gm, 0, none⟩), .int .i64 c, .pointer (some ⟨gh, i' * 4, none⟩), .int .i64 (j' : Int), Value.nilFunc, .bool false, .int .i64 0] 165) := ⟨_, rfl⟩
    rw [← hW2]
    obtain ⟨gt, hgt⟩ : ∃ gt, gt = w1.heap.size := ⟨_, rfl⟩
    rw [← hgt]
    have hrt : Row W2 gt 165 #[.pointer (some ⟨gs, 0, none⟩), .pointer (some ⟨gm, 0, none⟩), .int .i64 c, .pointer (some ⟨gh, i' * 4, none⟩), .int .i64 (j' : Int), Value.nilFunc, .bool false, .int .i64 0] := by
      rw [hW2]
      exact rowAt (by rw [size_set]; exact hgt)
    have c5 := hrt.cell 5
    simp only [List.getElem?_toArray, List.getElem?_cons_succ, List.getElem?_cons_zero] at c5
    have f5 := hrt.free 5
    have hg2 : w.heap.size ≤ gt := by rw [hgt]; exact HB.out.size
    have HE := Lib.hid (show Row (W2.setCell ⟨gt, 5, none⟩ (.func (.func 99) #[.pointer (some ⟨gt, 0, none⟩)] #[])) gt 165 (tcells gs gm c gh i' j' (place 99 gt) false 0) ∧ w.heap.size ≤ gt ∧ SlabMem (W2.setCell ⟨gt, 5, none⟩ (.func (.func 99) #[.pointer (some ⟨gt, 0, none⟩)] #[])) y (hs.set i' { x with bl := x.bl.set j' is }) fs ∧ STurn w (W2.setCell ⟨gt, 5, none⟩ (.func (.func 99) #[.pointer (some ⟨gt, 0, none⟩)] #[])) y y from by
      have b2 : Below (w1.setCell ⟨g, j', none⟩ (.int .i64 (is : Int))).heap.size (w1.setCell ⟨g, j', none⟩ (.int .i64 (is : Int))) (W2.setCell ⟨gt, 5, none⟩ (.func (.func 99) #[.pointer (some ⟨gt, 0, none⟩)] #[])) := by
        rw [hW2]
        exact ((Below.refl _ _).alloc (Nat.le_refl _) _).setCell (p := ⟨gt, 5, none⟩) (by rw [size_set, hgt]; exact Nat.le_refl _) _
      exact ⟨hrt.set 5 _, hg2, HP.out.below b2, HT.out.trans (STurn.of_below y b2)⟩)
    clear hW2 hgt hrt hg2 cj' fj c3
    go_wp2

    go_ret
    exact ⟨gt, rfl, HE.out⟩
  · exact absurd HF0.out (hn i j)
end Go.Proofs.YtahojhaeebmpoaaGreatDoor
/- Publish, Free: a turn that begins, or why there is none. -/
namespace Go.Proofs.YtahojhaeebmpoaaGreatDoor
open Go.RowKit Go.Sort
set_option linter.unusedVariables false
/-- A turn that begins, of the block j of the slab i, which is b meanwhile. -/
def Began (w : World) (y : SLay) (hs : List Hd) (fs : Nat → List Nat) (i j : Nat) (x : Hd) (gm : Nat) (c : Int) (is : Nat) (e : Ending) (w' : World) : Prop :=
  ∃ gt, e = .returned (.tuple #[fpt gt, .int .i64 0]) ∧ Row w' gt 165 (tcells y.gs gm c y.gh i j (place 99 gt) false 0) ∧ w.heap.size ≤ gt ∧ SlabMem w' y (hs.set i { x with bl := x.bl.set j is }) fs ∧ STurn w w' y y

theorem publish_refused {p q : Option Addr} {w : World} {c a k : Int} (hk : k ≠ 0) (H : Hid (Calls Tryz.prog 71 #[.pointer p, .pointer q, .int .i64 c, .int .u64 a, .int .i64 1] w fun e w' => e = .returned (.int .i64 k) ∧ Below w.heap.size w w')) :
    Calls Tryz.prog 31 #[.pointer p, .pointer q, .int .i64 c, .int .u64 a] w fun e w' => e = .returned (.tuple #[.pointer none, .int .i64 k]) ∧ Below w.heap.size w w' := by
  have hz : (k != 0) = true := by rw [bne_iff_ne]; exact hk
  go_enter Tryz.func31, Tryz.ntmps31
  go_wp2_with fail
  refine H.out.mono ?_
  rintro e w1 ⟨rfl, hb⟩
  have HB := Lib.hid hb
  clear hb
  go_wp2
  go_ret2
  exact ⟨rfl, HB.out⟩
theorem publish_none {p : Option Addr} {w : World} (h : NoSlab w p) (q : Option Addr) (c a : Int) : Calls Tryz.prog 31 #[.pointer p, .pointer q, .int .i64 c, .int .u64 a] w fun e w' => e = .returned (.tuple #[.pointer none, .int .i64 1]) ∧ Below w.heap.size w w' :=
  publish_refused (by decide) (Lib.hid ((refused_none h q c a 1).mono fun e w' ⟨he, hw⟩ => ⟨he, by subst hw; exact Below.refl _ _⟩))
theorem publish_nomem {w : World} {y : SLay} {hs : List Hd} {fs : Nat → List Nat} (h : SlabMem w y hs fs) {q : Option Addr} (hq : NoMem w q) (c a : Int) : Calls Tryz.prog 31 #[fpt y.gs, .pointer q, .int .i64 c, .int .u64 a] w fun e w' => e = .returned (.tuple #[.pointer none, .int .i64 1]) ∧ Below w.heap.size w w' :=
  publish_refused (by decide) (Lib.hid ((refused_nomem h hq c a 1).mono fun e w' ⟨he, hw⟩ => ⟨he, by subst hw; exact Below.refl _ _⟩))
theorem publish_arg {w : World} {y : SLay} {hs : List Hd} {fs : Nat → List Nat} (h : SlabMem w y hs fs) {ym : Lay} {s : St} (hm : MemAt w ym s) {c : Int} (hf : fitsM s.nl hs.length c = false) (a : Int) : Calls Tryz.prog 31 #[fpt y.gs, fpt ym.g, .int .i64 c, .int .u64 a] w fun e w' => e = .returned (.tuple #[.pointer none, .int .i64 2]) ∧ Below w.heap.size w w' :=
  publish_refused (by decide) (Lib.hid ((refused_arg2 h hm hf a 1).mono fun e w' ⟨he, hw⟩ => ⟨he, by subst hw; exact Below.refl _ _⟩))
theorem publish_state {w : World} {y : SLay} {hs : List Hd} {fs : Nat → List Nat} (h : SlabMem w y hs fs) (ok : HsOk hs) (R : Rms w) {ym : Lay} {s : St} (hm : MemAt w ym s) {c : Int} (hf : fitsM s.nl hs.length c = true) {a v : Nat} (hv : isAt hs a v) (hn : v ≠ 1) :
    Calls Tryz.prog 31 #[fpt y.gs, fpt ym.g, .int .i64 c, wv a] w fun e w' => e = .returned (.tuple #[.pointer none, .int .i64 7]) ∧ Below w.heap.size w w' :=
  publish_refused (p := some ⟨y.gs, 0, none⟩) (q := some ⟨ym.g, 0, none⟩) (a := (a : Int)) (k := 7) (by decide) (Lib.hid (show Calls Tryz.prog 71 #[.pointer (some ⟨y.gs, 0, none⟩), .pointer (some ⟨ym.g, 0, none⟩), .int .i64 c, .int .u64 (a : Int), .int .i64 1] w fun e w' => e = .returned (.int .i64 7) ∧ Below w.heap.size w w' from by
    have h1 := refused_is h ok R hm hf (is := 1) hv
    rw [if_neg hn] at h1
    exact h1))
set_option maxRecDepth 100000 in
theorem publish_ok {w : World} {y : SLay} {hs : List Hd} {fs : Nat → List Nat} (h : SlabMem w y hs fs) (ok : HsOk hs) (R : RS w y) {ym : Lay} {s : St} (hm : MemAt w ym s) {c : Int} (hf : fitsM s.nl hs.length c = true) {i j a : Nat} {x : Hd} (hx : hs[i]? = some x) (hj : x.bl[j]? = some 1) (ha : adr x.no x.cls j = a) :
    Calls Tryz.prog 31 #[fpt y.gs, fpt ym.g, .int .i64 c, wv a] w (Began w y hs fs i j x ym.g c 4) := by
  have hjl := (List.getElem?_eq_some_iff.1 hj).1
  have hv : isAt hs a 1 := .inl ⟨i, j, x, hx, hjl, ha, hj⟩
  have HR0 := refused_is h ok R.1 hm hf (is := 1) hv
  rw [if_pos rfl] at HR0
  have HT := Lib.hid fun (W : World) (hb : Below w.heap.size w W) => turn_any (h.below hb) ok (R.below hb) hx hjl ha ym.g c 4
  have HK := Lib.hid (show ∀ (W W' : World) (gt : Nat), Below w.heap.size w W → (Row W' gt 165 (tcells y.gs ym.g c y.gh i j (place 99 gt) false 0) ∧ W.heap.size ≤ gt ∧ SlabMem W' y (hs.set i { x with bl := x.bl.set j 4 }) fs ∧ STurn W W' y y) → Began w y hs fs i j x ym.g c 4 (.returned (.tuple #[fpt gt, .int .i64 0])) W' from fun W W' gt hb ⟨h1, h2, h3, h4⟩ => ⟨gt, rfl, h1, Nat.le_trans hb.size h2, h3, (STurn.of_below y hb).trans h4⟩)
  have HR := Lib.hid HR0
  obtain ⟨gs, hgs⟩ : ∃ g, g = y.gs := ⟨_, rfl⟩
  obtain ⟨gm, hgm⟩ : ∃ g, g = ym.g := ⟨_, rfl⟩
  unfold fpt wv jv at HR
  rw [← hgs, ← hgm] at HR HT ⊢
  rw [← hgs, ← hgm] at HK
  unfold fpt wv jv at HT
  unfold fpt wv
  unfold fpt at HK
  rw [show (((1 : Nat)) : Int) = 1 from rfl] at HR
  rw [show (((4 : Nat)) : Int) = 4 from rfl] at HT
  clear h ok R hm hf hx hj ha hjl hv HR0 hgm hgs
  go_enter Tryz.func31, Tryz.ntmps31
  go_wp2_with fail
  refine HR.out.mono ?_
  rintro e w1 ⟨rfl, hb⟩
  have HB := Lib.hid hb
  have HT1 := Lib.hid (HT.out w1 hb)
  clear hb HR HT
  go_wp2_with fail
  refine HT1.out.mono ?_
  rintro e w2 ⟨gt, rfl, hrest⟩
  have HE := Lib.hid (HK.out w1 w2 gt HB.out hrest)
  clear hrest
  go_wp2
  go_ret2
  exact HE.out

theorem free_refused {p q : Option Addr} {w : World} {c a k : Int} (hk : k ≠ 0) (H : Hid (Calls Tryz.prog 71 #[.pointer p, .pointer q, .int .i64 c, .int .u64 a, .int .i64 2] w fun e w' => e = .returned (.int .i64 k) ∧ Below w.heap.size w w')) :
    Calls Tryz.prog 54 #[.pointer p, .pointer q, .int .i64 c, .int .u64 a] w fun e w' => e = .returned (.tuple #[.pointer none, .int .i64 k]) ∧ Below w.heap.size w w' := by
  have hz : (k != 0) = true := by rw [bne_iff_ne]; exact hk
  go_enter Tryz.func54, Tryz.ntmps54
  go_wp2_with fail
  refine H.out.mono ?_
  rintro e w1 ⟨rfl, hb⟩
  have HB := Lib.hid hb
  clear hb
  go_wp2
  go_ret2
  exact ⟨rfl, HB.out⟩
theorem free_none {p : Option Addr} {w : World} (h : NoSlab w p) (q : Option Addr) (c a : Int) : Calls Tryz.prog 54 #[.pointer p, .pointer q, .int .i64 c, .int .u64 a] w fun e w' => e = .returned (.tuple #[.pointer none, .int .i64 1]) ∧ Below w.heap.size w w' :=
  free_refused (by decide) (Lib.hid ((refused_none h q c a 2).mono fun e w' ⟨he, hw⟩ => ⟨he, by subst hw; exact Below.refl _ _⟩))
theorem free_nomem {w : World} {y : SLay} {hs : List Hd} {fs : Nat → List Nat} (h : SlabMem w y hs fs) {q : Option Addr} (hq : NoMem w q) (c a : Int) : Calls Tryz.prog 54 #[fpt y.gs, .pointer q, .int .i64 c, .int .u64 a] w fun e w' => e = .returned (.tuple #[.pointer none, .int .i64 1]) ∧ Below w.heap.size w w' :=
  free_refused (by decide) (Lib.hid ((refused_nomem h hq c a 2).mono fun e w' ⟨he, hw⟩ => ⟨he, by subst hw; exact Below.refl _ _⟩))
theorem free_arg {w : World} {y : SLay} {hs : List Hd} {fs : Nat → List Nat} (h : SlabMem w y hs fs) {ym : Lay} {s : St} (hm : MemAt w ym s) {c : Int} (hf : fitsM s.nl hs.length c = false) (a : Int) : Calls Tryz.prog 54 #[fpt y.gs, fpt ym.g, .int .i64 c, .int .u64 a] w fun e w' => e = .returned (.tuple #[.pointer none, .int .i64 2]) ∧ Below w.heap.size w w' :=
  free_refused (by decide) (Lib.hid ((refused_arg2 h hm hf a 2).mono fun e w' ⟨he, hw⟩ => ⟨he, by subst hw; exact Below.refl _ _⟩))
theorem free_state {w : World} {y : SLay} {hs : List Hd} {fs : Nat → List Nat} (h : SlabMem w y hs fs) (ok : HsOk hs) (R : Rms w) {ym : Lay} {s : St} (hm : MemAt w ym s) {c : Int} (hf : fitsM s.nl hs.length c = true) {a v : Nat} (hv : isAt hs a v) (hn : v ≠ 2) :
    Calls Tryz.prog 54 #[fpt y.gs, fpt ym.g, .int .i64 c, wv a] w fun e w' => e = .returned (.tuple #[.pointer none, .int .i64 7]) ∧ Below w.heap.size w w' :=
  free_refused (p := some ⟨y.gs, 0, none⟩) (q := some ⟨ym.g, 0, none⟩) (a := (a : Int)) (k := 7) (by decide) (Lib.hid (show Calls Tryz.prog 71 #[.pointer (some ⟨y.gs, 0, none⟩), .pointer (some ⟨ym.g, 0, none⟩), .int .i64 c, .int .u64 (a : Int), .int .i64 2] w fun e w' => e = .returned (.int .i64 7) ∧ Below w.heap.size w w' from by
    have h1 := refused_is h ok R hm hf (is := 2) hv
    rw [if_neg hn] at h1
    exact h1))
set_option maxRecDepth 100000 in
theorem free_ok {w : World} {y : SLay} {hs : List Hd} {fs : Nat → List Nat} (h : SlabMem w y hs fs) (ok : HsOk hs) (R : RS w y) {ym : Lay} {s : St} (hm : MemAt w ym s) {c : Int} (hf : fitsM s.nl hs.length c = true) {i j a : Nat} {x : Hd} (hx : hs[i]? = some x) (hj : x.bl[j]? = some 2) (ha : adr x.no x.cls j = a) :
    Calls Tryz.prog 54 #[fpt y.gs, fpt ym.g, .int .i64 c, wv a] w (Began w y hs fs i j x ym.g c 3) := by
  have hjl := (List.getElem?_eq_some_iff.1 hj).1
  have hv : isAt hs a 2 := .inl ⟨i, j, x, hx, hjl, ha, hj⟩
  have HR0 := refused_is h ok R.1 hm hf (is := 2) hv
  rw [if_pos rfl] at HR0
  have HT := Lib.hid fun (W : World) (hb : Below w.heap.size w W) => turn_any (h.below hb) ok (R.below hb) hx hjl ha ym.g c 3
  have HK := Lib.hid (show ∀ (W W' : World) (gt : Nat), Below w.heap.size w W → (Row W' gt 165 (tcells y.gs ym.g c y.gh i j (place 99 gt) false 0) ∧ W.heap.size ≤ gt ∧ SlabMem W' y (hs.set i { x with bl := x.bl.set j 3 }) fs ∧ STurn W W' y y) → Began w y hs fs i j x ym.g c 3 (.returned (.tuple #[fpt gt, .int .i64 0])) W' from fun W W' gt hb ⟨h1, h2, h3, h4⟩ => ⟨gt, rfl, h1, Nat.le_trans hb.size h2, h3, (STurn.of_below y hb).trans h4⟩)
  have HR := Lib.hid HR0
  obtain ⟨gs, hgs⟩ : ∃ g, g = y.gs := ⟨_, rfl⟩
  obtain ⟨gm, hgm⟩ : ∃ g, g = ym.g := ⟨_, rfl⟩
  unfold fpt wv jv at HR
  rw [← hgs, ← hgm] at HR HT ⊢
  rw [← hgs, ← hgm] at HK
  unfold fpt wv jv at HT
  unfold fpt wv
  unfold fpt at HK
  rw [show (((2 : Nat)) : Int) = 2 from rfl] at HR
  rw [show (((3 : Nat)) : Int) = 3 from rfl] at HT
  clear h ok R hm hf hx hj ha hjl hv HR0 hgm hgs
  go_enter Tryz.func54, Tryz.ntmps54
  go_wp2_with fail
  refine HR.out.mono ?_
  rintro e w1 ⟨rfl, hb⟩
  have HB := Lib.hid hb
  have HT1 := Lib.hid (HT.out w1 hb)
  clear hb HR HT
  go_wp2_with fail
  refine HT1.out.mono ?_
  rintro e w2 ⟨gt, rfl, hrest⟩
  have HE := Lib.hid (HK.out w1 w2 gt HB.out hrest)
  clear hrest
  go_wp2
  go_ret2
  exact HE.out
end Go.Proofs.YtahojhaeebmpoaaGreatDoor
/- A turn's step, of whatever its place does; of no turn, a zero one, one that is done. -/
namespace Go.Proofs.YtahojhaeebmpoaaGreatDoor
open Go.RowKit Go.Sort
set_option linter.unusedVariables false
attribute [local go_sem] Oper.semAt_some
theorem eqFn6 (w : World) (g : Nat) (fi lb : Array Value) : (binOp .eql 163 (.func (.func g) fi lb) .nilFunc).run Tryz.prog w = .ok (.bool false) w := by kernel_rfl
theorem guardFn6 (w : World) (g : Nat) (fi lb : Array Value) (x : Operand) : (eqGuard .eql 163 x (.const .nilFunc) (.func (.func g) fi lb) .nilFunc).run Tryz.prog w = .ok () w := by kernel_rfl
theorem step_nil (w : World) : Calls Tryz.prog 101 #[.pointer none] w fun e w' => e = .returned (.tuple #[.bool true, .int .i64 1]) ∧ w = w' := by
  go_enter Tryz.func101, Tryz.ntmps101
  go_wp2
  go_ret2
  exact ⟨rfl, rfl⟩
theorem eqNil6 (w : World) : (binOp .eql 163 .nilFunc .nilFunc).run Tryz.prog w = .ok (.bool true) w := by kernel_rfl
theorem guardNil6 (w : World) (x : Operand) : (eqGuard .eql 163 x (.const .nilFunc) .nilFunc .nilFunc).run Tryz.prog w = .ok () w := by kernel_rfl
theorem step_zero {w : World} {g : Nat} {cs : Array Value} (hr : Row w g 165 cs) (h5 : cs[5]? = some .nilFunc) : Calls Tryz.prog 101 #[fpt g] w fun e w' => e = .returned (.tuple #[.bool true, .int .i64 1]) ∧ w = w' := by
  have c5 := hr.cell 5
  rw [h5] at c5
  have q1 := fun w => eqNil6 w
  have q2 := fun w => guardNil6 w (.tmp 11)
  clear hr h5
  unfold fpt
  go_enter Tryz.func101, Tryz.ntmps101
  go_wp2
  go_ret2
  exact ⟨rfl, rfl⟩
set_option maxRecDepth 100000 in
set_option maxHeartbeats 1600000 in
theorem step_done {w : World} {gs gm gh i j gt : Nat} {c code : Int} {f : Nat} (hr : Row w gt 165 (tcells gs gm c gh i j (place f gt) true code)) :
    Calls Tryz.prog 101 #[fpt gt] w fun e w' => e = .returned (.tuple #[.bool true, .int .i64 code]) ∧ Below w.heap.size w w' := by
  have mixed : Tryz.prog.follows .mixedOrders = true := by kernel_rfl
  have c5 := hr.cell 5
  have c6 := hr.cell 6
  have c7 := hr.cell 7
  simp only [tcells, List.getElem?_toArray, List.getElem?_cons_succ, List.getElem?_cons_zero] at c5 c6 c7
  unfold place fpt at c5
  have q1 := fun w => eqFn6 w f #[.pointer (some ⟨gt, 0, none⟩)] #[]
  have q2 := fun w => guardFn6 w f #[.pointer (some ⟨gt, 0, none⟩)] #[] (.tmp 11)
  have ca := fun p : LowBy w => p.cell c7
  clear hr
  unfold fpt
  go_enter Tryz.func101, Tryz.ntmps101
  go_wp2_with fail
  refine wp_region_quiet_low (by assumption) (by kernel_rfl) ?_
  repeat (go_big_quiet_step (fail))
  refine wpQuiet_nil ?_
  intro _ hw'
  obtain ⟨p, hw''⟩ := hw'
  subst hw''
  have hp := Lib.hid p.low
  clear ca
  go_wp2
  go_ret2
  exact ⟨rfl, hp.out⟩
/-- What a step makes of the world behind its place's call. -/
def stepW (w1 : World) (gt : Nat) (d : Bool) (k : Int) : World := (w1.setCell ⟨gt, 7, none⟩ (.int .i64 k)).setCell ⟨gt, 6, none⟩ (.bool d)
def StepPost (P : World → Prop) (gt : Nat) (d : Bool) (k : Int) (e : Ending) (w' : World) : Prop := e = .returned (.tuple #[.bool d, .int .i64 k]) ∧ ∃ w1, P w1 ∧ Below (stepW w1 gt d k).heap.size (stepW w1 gt d k) w'
set_option maxRecDepth 100000 in
set_option maxHeartbeats 1600000 in
theorem step_of {w : World} {gs gm gh i j gt : Nat} {c code code' : Int} {f f' : Nat} {d' : Bool} {P : World → Prop} (hcall : ∀ (w : World) (v : Value), (callFunc f #[v]).run Tryz.prog w = .ok (.enter f #[v]) w) (hr : Row w gt 165 (tcells gs gm c gh i j (place f gt) false code))
    (H : Calls Tryz.prog f #[fpt gt] w fun e w' => e = .returned (.int .i64 0) ∧ Row w' gt 165 (tcells gs gm c gh i j (place f' gt) d' code') ∧ P w') :
    Calls Tryz.prog 101 #[fpt gt] w (StepPost P gt d' 0) := by
  have mixed : Tryz.prog.follows .mixedOrders = true := by kernel_rfl
  have c5 := hr.cell 5
  have c6 := hr.cell 6
  simp only [tcells, List.getElem?_toArray, List.getElem?_cons_succ, List.getElem?_cons_zero] at c5 c6
  unfold place fpt at c5
  have q1 := fun w => eqFn6 w f #[.pointer (some ⟨gt, 0, none⟩)] #[]
  have q2 := fun w => guardFn6 w f #[.pointer (some ⟨gt, 0, none⟩)] #[] (.tmp 11)
  have H := Lib.hid H
  unfold fpt at H ⊢
  clear hr
  go_enter Tryz.func101, Tryz.ntmps101
  go_wp2_with fail
  refine H.out.mono ?_
  rintro e w1 ⟨rfl, hr1, hp⟩
  have d6 := hr1.cell 6
  have d7 := hr1.cell 7
  simp only [tcells, List.getElem?_toArray, List.getElem?_cons_succ, List.getElem?_cons_zero] at d6 d7
  have g6 := hr1.free 6
  have g7 := hr1.free 7
  have HP := Lib.hid hp
  have HR := Lib.hid hr1
  clear hp hr1 c5 c6 q1 q2 H
  cases d' with
  | true =>
    go_wp2_with fail
    obtain ⟨W2, hW2⟩ : ∃ W2, W2 = (w1.setCell ⟨gt, 7, none⟩ (.int .i64 0)).setCell ⟨gt, 6, none⟩ (.bool true) := ⟨_, rfl⟩
    rw [← hW2]
    have hrw : Row W2 gt 165 ((tcells gs gm c gh i j (place f' gt) true code').setIfInBounds 7 (.int .i64 0) |>.setIfInBounds 6 (.bool true)) := by rw [hW2]; exact (HR.out.set 7 _).set 6 _
    have k6 := hrw.cell 6
    have k7 := hrw.cell 7
    simp only [tcells, List.setIfInBounds_toArray, List.set_cons_succ, List.set_cons_zero, List.getElem?_toArray, List.getElem?_cons_succ, List.getElem?_cons_zero] at k6 k7
    have ca := fun p : LowBy W2 => p.cell k6
    have cb := fun p : LowBy W2 => p.cell k7
    have HW := Lib.hid hW2
    clear hrw k6 k7 hW2 d6 d7 g6 g7
    refine wp_region_quiet_low (by assumption) (by kernel_rfl) ?_
    repeat (go_big_quiet_step (fail))
    refine wpQuiet_nil ?_
    intro _ hw'
    obtain ⟨p, hw''⟩ := hw'
    subst hw''
    have hp := Lib.hid p.low
    clear ca cb
    go_wp2
    go_ret2
    exact ⟨rfl, w1, HP.out, by unfold stepW; rw [← HW.out]; exact hp.out⟩
  | false =>
    go_wp2_with fail
    obtain ⟨W2, hW2⟩ : ∃ W2, W2 = (w1.setCell ⟨gt, 7, none⟩ (.int .i64 0)).setCell ⟨gt, 6, none⟩ (.bool false) := ⟨_, rfl⟩
    rw [← hW2]
    have hrw : Row W2 gt 165 ((tcells gs gm c gh i j (place f' gt) false code').setIfInBounds 7 (.int .i64 0) |>.setIfInBounds 6 (.bool false)) := by rw [hW2]; exact (HR.out.set 7 _).set 6 _
    have k6 := hrw.cell 6
    have k7 := hrw.cell 7
    simp only [tcells, List.setIfInBounds_toArray, List.set_cons_succ, List.set_cons_zero, List.getElem?_toArray, List.getElem?_cons_succ, List.getElem?_cons_zero] at k6 k7
    have ca := fun p : LowBy W2 => p.cell k6
    have cb := fun p : LowBy W2 => p.cell k7
    have HW := Lib.hid hW2
    clear hrw k6 k7 hW2 d6 d7 g6 g7
    refine wp_region_quiet_low (by assumption) (by kernel_rfl) ?_
    repeat (go_big_quiet_step (fail))
    refine wpQuiet_nil ?_
    intro _ hw'
    obtain ⟨p, hw''⟩ := hw'
    subst hw''
    have hp := Lib.hid p.low
    clear ca cb
    go_wp2
    go_ret2
    exact ⟨rfl, w1, HP.out, by unfold stepW; rw [← HW.out]; exact hp.out⟩
end Go.Proofs.YtahojhaeebmpoaaGreatDoor
