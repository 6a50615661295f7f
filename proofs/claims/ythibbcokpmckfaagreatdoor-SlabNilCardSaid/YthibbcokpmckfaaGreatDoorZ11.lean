/- Texts of this claim, packed: LMem, LLeave, BMath, BWord, LGive. -/
import Derived.Test.YthibbcokpmckfaaGreatDoorZ10
import Derived.Test.YthibbcokpmckfaaGreatDoorZ02
import Derived.Test.YthibbcokpmckfaaGreatDoorRows
import Derived.Outline
import Derived.Deep.Cut
/- What stores, and a set's calls, make of the blocks' memory; plain facts. -/
namespace Go.Proofs.YthibbcokpmckfaaGreatDoor
open Go.RowKit Go.Sort
set_option linter.unusedVariables false
def updF {α : Type} (f : Nat → α) (c : Nat) (v : α) : Nat → α := fun d => if d = c then v else f d
theorem updF_at {α : Type} (f : Nat → α) (c : Nat) (v : α) : updF f c v c = v := if_pos rfl
theorem updF_ne {α : Type} (f : Nat → α) {c d : Nat} (v : α) (h : d ≠ c) : updF f c v d = f d := if_neg h
theorem updF_same {α : Type} (f : Nat → α) (c : Nat) : updF f c (f c) = f := by
  funext d
  unfold updF
  split
  · rename_i h; rw [h]
  · rfl
theorem tagNe {w : World} {a b : Nat} {t u : TypeId} (h : Tag w a t) (h2 : Tag w b u) (hn : t ≠ u) : a ≠ b := by
  intro e
  subst e
  exact hn (h.same h2)
section
variable {w w' : World} {y : SLay} {hs : List Hd} {fs : Nat → List Nat}
theorem HCells.same {bv : Nat → Value} {cs : Array Value} (h : HCells bv hs cs) {i : Nat} {x x' : Hd} (hx : hs[i]? = some x) (h1 : x'.no = x.no) (h2 : x'.cls = x.cls) (h3 : x'.bits = x.bits) : HCells bv (hs.set i x') cs := by
  refine ⟨by rw [List.length_set]; exact h.1, fun k z hz => ?_⟩
  rw [List.getElem?_set] at hz
  by_cases e : i = k
  · subst e
    have hl := (List.getElem?_eq_some_iff.1 hx).1
    rw [if_pos rfl, if_pos hl] at hz
    cases hz
    rw [h1, h2, h3]
    exact h.2 _ _ hx
  · rw [if_neg e] at hz
    exact h.2 _ _ hz
theorem mem_set {i : Nat} {x' z : Hd} (hz : z ∈ hs.set i x') : z ∈ hs ∨ z = x' := List.mem_or_eq_of_mem_set hz
theorem map_set (l : List Nat) (j v : Nat) : (l.map jv).toArray.setIfInBounds j (jv v) = ((l.set j v).map jv).toArray := by
  rw [List.setIfInBounds_toArray, List.map_set]
/-- A store to what one block is. -/
theorem SlabMem.put_bl (h : SlabMem w y hs fs) {i j : Nat} {x : Hd} (hx : hs[i]? = some x) {g : Nat} (hg : (y.bv i).ownBlock = some g) (v : Nat) :
    SlabMem (w.setCell ⟨g, j, none⟩ (jv v)) y (hs.set i { x with bl := x.bl.set j v }) fs ∧ STurn w (w.setCell ⟨g, j, none⟩ (jv v)) y y := by
  have hil := (List.getElem?_eq_some_iff.1 hx).1
  have hgr := (h.blk i x hx).row hg
  have hfp : y.fp g := .inr (.inr (.inr ⟨i, by rw [h.len]; exact hil, hg⟩))
  have hbut : But w (w.setCell ⟨g, j, none⟩ (jv v)) (fun k => k = g) := (But.refl w (fun k => k = g)).set (p := ⟨g, j, none⟩) (by rfl) _
  obtain ⟨cs, hr, hc⟩ := h.hdr
  refine ⟨{ h with
    row := by rw [List.length_set]; exact hbut.row h.row (tagNe h.row.tag hgr.tag (by decide))
    hdr := ⟨cs, hbut.row hr (tagNe hr.tag hgr.tag (by decide)), hc.same hx rfl rfl rfl⟩
    blk := fun k z hz => ?_
    bne := by rw [List.length_set]; exact h.bne
    fre := fun c hc => (h.fre c hc).keep hbut fun k hk e => ?_
    len := by rw [List.length_set]; exact h.len
    pos := by rw [List.length_set]; exact h.pos
    most := by rw [List.length_set]; exact h.most
    lens := fun z hz => ?_ }, ⟨rfl, rfl, rfl, hbut.mono fun k e => e ▸ hfp, fun _ h => .inl h⟩⟩
  · rw [List.getElem?_set] at hz
    by_cases e : i = k
    · subst e
      rw [if_pos rfl, if_pos hil] at hz
      cases hz
      rcases h.blk i x hx with ⟨h0, _⟩ | ⟨g', h0, hr'⟩
      · rw [h0] at hg; cases hg
      · rw [h0] at hg
        cases hg
        refine .inr ⟨g', by rw [h0, List.length_set], ?_⟩
        rw [← map_set]
        exact hr'.set j (jv v)
    · rw [if_neg e] at hz
      refine (h.blk k z hz).keep hbut fun q hq eq => ?_
      subst eq
      exact h.bne i k hil (List.getElem?_eq_some_iff.1 hz).1 e q hg hq
  · subst e
    rcases hk with rfl | hk
    · exact tagNe (h.fre c hc).tags.1 hgr.tag (by decide) rfl
    · exact tagNe ((h.fre c hc).tags.2 _ hk) hgr.tag (by decide) rfl
  · rcases mem_set hz with h1 | rfl
    · exact h.lens z h1
    · have := h.lens x (List.mem_of_getElem? hx)
      exact ⟨by rw [List.length_set]; exact this.1, this.2⟩
/-- A store of a slab's bits. -/
theorem SlabMem.put_bits (h : SlabMem w y hs fs) {i : Nat} {x : Hd} (hx : hs[i]? = some x) (b : Nat) :
    SlabMem (w.setCell ⟨y.gh, i * 4 + 2, none⟩ (wv b)) y (hs.set i { x with bits := b }) fs ∧ STurn w (w.setCell ⟨y.gh, i * 4 + 2, none⟩ (wv b)) y y := by
  have hil := (List.getElem?_eq_some_iff.1 hx).1
  obtain ⟨cs, hr, hc⟩ := h.hdr
  have hbut : But w (w.setCell ⟨y.gh, i * 4 + 2, none⟩ (wv b)) (fun k => k = y.gh) := (But.refl w (fun k => k = y.gh)).set (p := ⟨y.gh, i * 4 + 2, none⟩) (by rfl) _
  refine ⟨{ h with
    row := by rw [List.length_set]; exact hbut.row h.row h.gs_gh
    hdr := ⟨_, hr.set (i * 4 + 2) (wv b), by rw [Array.size_setIfInBounds, List.length_set]; exact hc.1, fun k z hz => ?_⟩
    blk := fun k z hz => ?_
    bne := by rw [List.length_set]; exact h.bne
    fre := fun c hc => (h.fre c hc).keep hbut fun k hk e => ?_
    len := by rw [List.length_set]; exact h.len
    pos := by rw [List.length_set]; exact h.pos
    most := by rw [List.length_set]; exact h.most
    lens := fun z hz => ?_ }, ⟨rfl, rfl, rfl, hbut.mono fun k e => .inr (.inl e), fun _ h => .inl h⟩⟩
  · rw [List.getElem?_set] at hz
    have hsz := hc.1
    by_cases e : i = k
    · subst e
      rw [if_pos rfl, if_pos hil] at hz
      cases hz
      obtain ⟨h0, h1, h2, h3⟩ := hc.2 i x hx
      refine ⟨?_, ?_, ?_, ?_⟩ <;> rw [Array.getElem?_setIfInBounds]
      · rw [if_neg (by omega)]; exact h0
      · rw [if_neg (by omega)]; exact h1
      · rw [if_pos rfl, if_pos (by omega)]
      · rw [if_neg (by omega)]; exact h3
    · rw [if_neg e] at hz
      obtain ⟨h0, h1, h2, h3⟩ := hc.2 k z hz
      refine ⟨?_, ?_, ?_, ?_⟩ <;> rw [Array.getElem?_setIfInBounds, if_neg (by omega)]
      · exact h0
      · exact h1
      · exact h2
      · exact h3
  · rw [List.getElem?_set] at hz
    by_cases e : i = k
    · subst e
      rw [if_pos rfl, if_pos hil] at hz
      cases hz
      exact (h.blk i x hx).keep hbut fun q hq eq => tagNe ((h.blk i x hx).row hq).tag hr.tag (by decide) eq
    · rw [if_neg e] at hz
      exact (h.blk k z hz).keep hbut fun q hq eq => tagNe ((h.blk k z hz).row hq).tag hr.tag (by decide) eq
  · subst e
    rcases hk with e | hk
    · exact tagNe (h.fre c hc).tags.1 hr.tag (by decide) e.symm
    · exact tagNe ((h.fre c hc).tags.2 _ hk) hr.tag (by decide) rfl
  · rcases mem_set hz with h1 | rfl
    · exact h.lens z h1
    · exact h.lens x (List.mem_of_getElem? hx)
/-- What a set's call leaves. -/
theorem SlabMem.left (h : SlabMem w y hs fs) {c : Nat} (hc : c < 4) {s : List Nat} (hl : LeftSet w (y.gf c) (y.fv c) s w') (hs' : s.length ≤ 100000) :
    ∃ y', SlabMem w' y' hs (updF fs c s) ∧ STurn w w' y y' := by
  obtain ⟨v', hS, hT⟩ := hl
  obtain ⟨cs, hr, hcs⟩ := h.hdr
  have tf := (h.fre c hc).tags
  have hn : ∀ {k : Nat} {t : TypeId}, Tag w k t → t ≠ 153 → t ≠ 24 → ¬ ffp (y.gf c) (y.fv c) k := fun {k t} ht h1 h2 hk => by
    rcases hk with rfl | hk
    · exact tagNe ht tf.1 h1 rfl
    · exact tagNe ht (tf.2 k hk) h2 rfl
  refine ⟨{ y with fv := updF y.fv c v' }, { h with
    row := hT.1.row h.row (hn h.row.tag (by decide) (by decide))
    hdr := ⟨cs, hT.1.row hr (hn hr.tag (by decide) (by decide)), hcs⟩
    blk := fun k z hz => (h.blk k z hz).keep hT.1 fun q hq => hn ((h.blk k z hz).row hq).tag (by decide) (by decide)
    fre := fun d hd => ?_
    vne := fun d d' hd hd' hne g hg hg' => ?_
    few := fun d hd => ?_ }, ⟨rfl, rfl, rfl, hT.1.mono fun k hk => .inr (.inr (.inl ⟨c, hc, hk⟩)), fun k hk => ?_⟩⟩
  · by_cases e : d = c
    · subst e
      show SetAt w' (y.gf d) (updF fs d s d) (updF y.fv d v' d)
      rw [updF_at, updF_at]
      exact hS
    · show SetAt w' (y.gf d) (updF fs c s d) (updF y.fv c v' d)
      rw [updF_ne _ _ e, updF_ne _ _ e]
      refine (h.fre d hd).keep hT.1 fun k hk hk2 => ?_
      have td := (h.fre d hd).tags
      rcases hk with rfl | hk
      · rcases hk2 with e2 | hk2
        · exact h.gne d c hd hc e e2
        · exact tagNe td.1 (tf.2 _ hk2) (by decide) rfl
      · rcases hk2 with rfl | hk2
        · exact tagNe (td.2 _ hk) tf.1 (by decide) rfl
        · exact h.vne d c hd hc e k hk hk2
  · have hlt : ∀ d, d < 4 → ∀ g, (y.fv d).ownBlock = some g → g < w.heap.size := fun d hd g hg => (h.fre d hd).fp (.inr hg)
    have hg1 : (updF y.fv c v' d).ownBlock = some g := hg
    have hg2 : (updF y.fv c v' d').ownBlock = some g := hg'
    by_cases e : d = c
    · subst e
      rw [updF_at] at hg1
      rw [updF_ne _ _ (Ne.symm hne)] at hg2
      rcases hT.2 g hg1 with h1 | h1
      · exact h.vne d d' hd hd' hne g h1 hg2
      · have := hlt d' hd' g hg2; omega
    · rw [updF_ne _ _ e] at hg1
      by_cases e' : d' = c
      · subst e'
        rw [updF_at] at hg2
        rcases hT.2 g hg2 with h1 | h1
        · exact h.vne d d' hd hd' hne g hg1 h1
        · have := hlt d hd g hg1; omega
      · rw [updF_ne _ _ e'] at hg2
        exact h.vne d d' hd hd' hne g hg1 hg2
  · by_cases e : d = c
    · subst e; rw [updF_at]; exact hs'
    · rw [updF_ne _ _ e]; exact h.few d hd
  · rcases hk with rfl | rfl | ⟨d, hd, hk⟩ | hk
    · exact .inl (.inl rfl)
    · exact .inl (.inr (.inl rfl))
    · by_cases e : d = c
      · subst e
        rcases hk with rfl | hk
        · exact .inl (.inr (.inr (.inl ⟨d, hd, .inl rfl⟩)))
        · have hk' : (updF y.fv d v' d).ownBlock = some k := hk
          rw [updF_at] at hk'
          rcases hT.2 k hk' with h1 | h1
          · exact .inl (.inr (.inr (.inl ⟨d, hd, .inr h1⟩)))
          · exact .inr h1
      · refine .inl (.inr (.inr (.inl ⟨d, hd, ?_⟩)))
        have hk' : ffp (y.gf d) (updF y.fv c v' d) k := hk
        rwa [updF_ne _ _ e] at hk'
    · exact .inl (.inr (.inr (.inr hk)))
end
end Go.Proofs.YthibbcokpmckfaaGreatDoor
/- Is, Class, leave: what each answers, and which blocks it leaves. -/
namespace Go.Proofs.YthibbcokpmckfaaGreatDoor
open Go.RowKit Go.Sort
set_option linter.unusedVariables false
/-- What a block is, of what is no block 0. -/
def isAt (hs : List Hd) (a : Nat) (v : Nat) : Prop := (∃ (i j : Nat) (x : Hd), hs[i]? = some x ∧ j < x.bl.length ∧ adr x.no x.cls j = a ∧ x.bl[j]? = some v) ∨ ((∀ i j, ¬ Found hs a i j) ∧ v = 0)
def IsPost (w : World) (hs : List Hd) (a : Nat) (e : Ending) (w' : World) : Prop := (∃ v, isAt hs a v ∧ e = .returned (jv v)) ∧ Below w.heap.size w w'
theorem is_none {p : Option Addr} {w : World} (h : NoSlab w p) (a : Int) : Calls Tryz.prog 16 #[.pointer p, .int .u64 a] w fun e w' => e = .returned (.int .i64 0) ∧ w = w' := by
  have H := Lib.hid (find_none h a)
  clear h
  go_enter Tryz.func16, Tryz.ntmps16
  go_wp2_with fail
  refine H.out.mono ?_
  rintro e w1 ⟨rfl, rfl⟩
  go_wp2
  go_ret
  exact ⟨rfl, rfl⟩
set_option maxRecDepth 100000 in
theorem is_any {w : World} {y : SLay} {hs : List Hd} {fs : Nat → List Nat} (h : SlabMem w y hs fs) (ok : HsOk hs) (R : Rms w) (a : Nat) :
    Calls Tryz.prog 16 #[fpt y.gs, wv a] w (IsPost w hs a) := by
  have HF := Lib.hid (find_any h ok R a)
  have HH := Lib.hid (fun (W : World) (hb : Below w.heap.size w W) (i : Nat) (x : Hd) (hx : hs[i]? = some x) => (h.below hb).head hx)
  have HI := Lib.hid (fun (W : World) (hb : Below w.heap.size w W) (i : Nat) (x : Hd) (hx : hs[i]? = some x) => (h.below hb).blk i x hx)
  have HL := Lib.hid h.lens
  clear h R ok
  unfold fpt wv at HF ⊢
  go_enter Tryz.func16, Tryz.ntmps16
  go_wp2_with fail
  refine HF.out.mono ?_
  rintro e w1 ⟨hf, hb⟩
  rcases hf with ⟨i, j, ⟨x, hx, hj, ha⟩, rfl⟩ | ⟨hn, rfl⟩
  · have c3 := (HH.out w1 hb i x hx).2.2.2
    obtain ⟨g, hsh, hr⟩ := (HI.out w1 hb i x hx).pos (by omega)
    rw [hsh] at c3
    have cj := hr.cell j
    have hl := (HL.out x (List.mem_of_getElem? hx)).1
    have hg : x.bl[j]? = some (x.bl[j]) := List.getElem?_eq_getElem hj
    obtain ⟨v, hv⟩ : ∃ v, v = x.bl[j] := ⟨_, rfl⟩
    rw [← hv] at hg
    rw [List.getElem?_toArray, List.getElem?_map, hg] at cj
    simp only [Option.map_some] at cj
    have HE := Lib.hid (show IsPost w hs a (.returned (jv v)) w1 from ⟨⟨v, .inl ⟨i, j, x, hx, hj, ha, hg⟩, rfl⟩, hb⟩)
    clear hb hx hr hsh hg hv ha HF HH HI HL
    generalize x.bl.length = m at *
    unfold jv at cj HE
    unfold jv
    go_wp2
    go_ret
    exact HE.out
  · have HE := Lib.hid (show IsPost w hs a (.returned (jv 0)) w1 from ⟨⟨0, .inr ⟨hn, rfl⟩, rfl⟩, hb⟩)
    clear hb hn HF
    unfold jv at HE
    go_wp2
    go_ret
    exact HE.out
theorem class_none {p : Option Addr} {w : World} (h : NoSlab w p) (n : Int) : Calls Tryz.prog 14 #[.pointer p, .int .i64 n] w fun e w' => e = .returned (.int .i64 0) ∧ w = w' := by
  have H := Lib.hid (slabs_none h)
  clear h
  by_cases h1 : n < 1
  · go_enter Tryz.func14, Tryz.ntmps14
    go_wp2
    go_ret
    exact ⟨rfl, rfl⟩
  · have d : decide (n < 1) = false := by simp; omega
    have d2 : 0 < n := by omega
    have d3 : decide (0 < n) = true := by simpa using d2
    go_enter Tryz.func14, Tryz.ntmps14
    go_wp2_with fail
    refine H.out.mono ?_
    rintro e w1 ⟨rfl, rfl⟩
    go_wp2
    go_ret
    exact ⟨rfl, rfl⟩
/-- An address put into a list that has each once. -/
def ins (a : Nat) (s : List Nat) : List Nat := if a ∈ s then s else a :: s
theorem ins_len (a : Nat) (s : List Nat) : (ins a s).length ≤ s.length + 1 := by unfold ins; split <;> simp
def SPost (w : World) (y : SLay) (hs : List Hd) (fs : Nat → List Nat) (v : Value) (e : Ending) (w' : World) : Prop := e = .returned v ∧ ∃ y', SlabMem w' y' hs fs ∧ STurn w w' y y'
/-- geo.rooms is there, and none of the blocks' own. -/
def RS (w : World) (y : SLay) : Prop := Rms w ∧ ¬ y.fp 0
theorem Rms.but {w w' : World} {p : Nat → Prop} (R : Rms w) (h : But w w' p) (hn : ¬ p 0) : Rms w' := by
  obtain ⟨t, hR⟩ := R
  exact ⟨t, (h.block _ (heap_lt hR) hn).trans hR⟩
theorem RS.turn {w w' : World} {y y' : SLay} (R : RS w y) (t : STurn w w' y y') : RS w' y' := by
  refine ⟨R.1.but t.but R.2, fun h => ?_⟩
  obtain ⟨tt, hR⟩ := R.1
  rcases t.fp _ h with h1 | h1
  · exact R.2 h1
  · have := heap_lt hR; omega
theorem RS.below {w w' : World} {y : SLay} (R : RS w y) (h : Below w.heap.size w w') : RS w' y := R.turn (STurn.of_below y h)
theorem LowBy.rms {w : World} (R : Rms w) (p : LowBy w) : Rms p.W := R.below p.low
set_option maxRecDepth 100000 in
set_option maxHeartbeats 1600000 in
theorem leave_any {w : World} {y : SLay} {hs : List Hd} {fs : Nat → List Nat} (h : SlabMem w y hs fs) (R : RS w y) {i j : Nat} {x : Hd} (hx : hs[i]? = some x) (hno : 1 ≤ x.no ∧ x.no ≤ 64) (hj : j < x.bl.length) (hjb : j < blN x.cls) (hfew : (fs x.cls).length + 1 ≤ 100000) :
    Calls Tryz.prog 76 #[fpt y.gs, .pointer (some ⟨y.gh, i * 4, none⟩), jv j] w (SPost w y (hs.set i { x with bl := x.bl.set j 0 }) (updF fs x.cls (ins (adr x.no x.cls j) (fs x.cls))) (.tuple #[])) := by
  have mixed : Tryz.prog.follows .mixedOrders = true := by kernel_rfl
  have hil := (List.getElem?_eq_some_iff.1 hx).1
  have hcl := blN_pos hjb
  have hbl := (h.lens x (List.mem_of_getElem? hx)).1
  obtain ⟨g, hsh, hr⟩ := (h.blk i x hx).pos (by omega)
  have hg : (y.bv i).ownBlock = some g := by rw [hsh]; rfl
  obtain ⟨h1, t1⟩ := h.put_bl (j := j) hx hg 0
  have R1 := R.turn t1
  have c3 := (h.head hx).2.2.2
  rw [hsh] at c3
  have f3 := hr.free j
  have cj := hr.cell j
  rw [List.getElem?_toArray, List.getElem?_map, List.getElem?_eq_getElem hj, Option.map_some] at cj
  obtain ⟨u, hu⟩ : ∃ u, u = jv x.bl[j] := ⟨_, rfl⟩
  rw [← hu] at cj
  clear hu
  obtain ⟨W0, hW0⟩ : ∃ W0, W0 = w.setCell ⟨g, j, none⟩ (.int .i64 0) := ⟨_, rfl⟩
  rw [show jv 0 = .int .i64 0 from rfl, ← hW0] at h1 t1 R1
  have hx1 : (hs.set i { x with bl := x.bl.set j 0 })[i]? = some { x with bl := x.bl.set j 0 } := by rw [List.getElem?_set, if_pos rfl, if_pos hil]
  have hd := h1.head hx1
  have d1 := h1.set4 (c := x.cls) (by omega)
  have ca := fun p : LowBy W0 => p.cell hd.2.1
  have cb := fun p : LowBy W0 => p.cell d1
  have ba := adr_blk hno.1 hno.2 hjb
  have HA := Lib.hid fun (p : LowBy W0) => Calls.low_of (at_any (p.cell hd.1) (p.cell hd.2.1) (LowBy.rms R1.1 p) (j : Int))
  rw [ba] at HA
  have hap : adr x.no x.cls j ≠ 0 := by unfold adr; omega
  have HP := Lib.hid fun (p : LowBy W0) => put_any ((h1.below p.low).fre x.cls (by omega)) (by have := h.few x.cls (by omega); omega) hap
  have HE := Lib.hid (show ∀ (p : LowBy W0) (w' : World), LeftSet p.W (y.gf x.cls) (y.fv x.cls) (ins (adr x.no x.cls j) (fs x.cls)) w' → ∃ y', SlabMem w' y' (hs.set i { x with bl := x.bl.set j 0 }) (updF fs x.cls (ins (adr x.no x.cls j) (fs x.cls))) ∧ STurn w w' y y' from fun p w' hl => by
    obtain ⟨y', h2, t2⟩ := (h1.below p.low).left (c := x.cls) (by omega) hl (by have := ins_len (adr x.no x.cls j) (fs x.cls); omega)
    exact ⟨y', h2, (t1.trans (STurn.of_below y p.low)).trans t2⟩)
  obtain ⟨A, hA⟩ : ∃ A, A = adr x.no x.cls j := ⟨_, rfl⟩
  rw [← hA] at HA HP HE ⊢
  obtain ⟨gf, hgf⟩ : ∃ gf, gf = y.gf x.cls := ⟨_, rfl⟩
  rw [← hgf] at HP HE cb
  obtain ⟨gs, hgs⟩ : ∃ gs, gs = y.gs := ⟨_, rfl⟩
  obtain ⟨gh, hgh⟩ : ∃ gh, gh = y.gh := ⟨_, rfl⟩
  rw [← hgs] at cb ⊢
  rw [← hgh] at ca HA c3 ⊢
  have hcl3 := hcl.2
  unfold jv fpt wv at *
  clear h h1 t1 R R1 hx hx1 hd d1 hr hg hsh hap hA hgf hgs hgh ba hno hjb
  generalize x.bl.length = m at *
  go_enter Tryz.func76, Tryz.ntmps76
  go_wp2_with fail
  rw [← hW0]
  clear hW0
  refine wp_region_low_tail 12 (by assumption) (by kernel_rfl) ?_
  simp only [List.take_succ_cons, List.take_zero, List.drop_succ_cons, List.drop_zero]
  repeat (go_big_quiet_step ((go_at_call 77; with_reducible exact HA.out _)))
  refine wpQuiet_nil ?_
  intro _ hw'
  obtain ⟨p, hw''⟩ := hw'
  subst hw''
  go_wp2_with fail
  refine (HP.out p).mono ?_
  rintro e w2 ⟨rfl, hl⟩
  have HZ := Lib.hid (HE.out p w2 hl)
  clear hl
  go_wp2
  refine bodyPost_ret (results_none rfl _ _ _) rfl ?_
  exact ⟨rfl, HZ.out⟩
end Go.Proofs.YthibbcokpmckfaaGreatDoor
/- Bits of words, in plain numbers: a bit that is set, laid, taken off; which are set, rising. Words below 2^64. -/
namespace Go.Proofs.YthibbcokpmckfaaGreatDoor
set_option linter.unusedVariables false
def hasB (b : Nat) (j : Int) : Bool := decide (0 ≤ j ∧ j ≤ 63) && b.testBit j.toNat
def mk (j : Int) : Nat := if 0 ≤ j ∧ j ≤ 63 then 2 ^ j.toNat else 0
def setB (b : Nat) (j : Int) : Nat := if hasB b j then b else b + mk j
def clrB (b : Nat) (j : Int) : Nat := if hasB b j then b - mk j else b
theorem hasB_in {b : Nat} {j : Int} (h : 0 ≤ j ∧ j ≤ 63) : hasB b j = b.testBit j.toNat := by unfold hasB; rw [decide_eq_true h]; rfl
theorem hasB_out {b : Nat} {j : Int} (h : ¬ (0 ≤ j ∧ j ≤ 63)) : hasB b j = false := by unfold hasB; rw [decide_eq_false h]; rfl
theorem mk_in {j : Int} (h : 0 ≤ j ∧ j ≤ 63) : mk j = 2 ^ j.toNat := if_pos h
theorem mk_out {j : Int} (h : ¬ (0 ≤ j ∧ j ≤ 63)) : mk j = 0 := if_neg h
theorem mk_lt (j : Int) : mk j < 18446744073709551616 := by
  unfold mk; split
  · exact Nat.lt_of_lt_of_le (Nat.pow_lt_pow_right (by decide) (by omega : j.toNat < 64)) (by decide)
  · decide
theorem add_or {b i : Nat} (h : b.testBit i = false) (hb : b < 2 ^ 64) (hi : i < 64) : b + 2 ^ i = b ||| 2 ^ i := by
  have hp : 2 ^ i < 2 ^ 64 := Nat.pow_lt_pow_right (by decide) hi
  have h65 : (2 : Nat) ^ 65 = 2 ^ 64 + 2 ^ 64 := by decide
  have hz : (BitVec.ofNat 65 b) &&& (BitVec.ofNat 65 (2 ^ i)) = 0#65 := by
    apply BitVec.eq_of_toNat_eq
    simp only [BitVec.toNat_and, BitVec.toNat_ofNat]
    rw [Nat.mod_eq_of_lt (by omega), Nat.mod_eq_of_lt (by omega)]
    apply Nat.eq_of_testBit_eq
    intro k
    rw [Nat.testBit_and, Nat.testBit_two_pow]
    by_cases e : i = k
    · subst e; simp [h]
    · simp [e]
  have h1 := congrArg BitVec.toNat (BitVec.add_eq_or_of_and_eq_zero _ _ hz)
  simp only [BitVec.toNat_add, BitVec.toNat_or, BitVec.toNat_ofNat] at h1
  rw [Nat.mod_eq_of_lt (show b < 2 ^ 65 by omega), Nat.mod_eq_of_lt (show 2 ^ i < 2 ^ 65 by omega), Nat.mod_eq_of_lt (by omega)] at h1
  exact h1
theorem or_self {b i : Nat} (h : b.testBit i = true) : b ||| 2 ^ i = b := by
  apply Nat.eq_of_testBit_eq
  intro k
  rw [Nat.testBit_or, Nat.testBit_two_pow]
  by_cases e : i = k
  · subst e; simp [h]
  · simp [e]
theorem or_mk {b : Nat} (hb : b < 18446744073709551616) (j : Int) : b ||| mk j = setB b j := by
  by_cases h : 0 ≤ j ∧ j ≤ 63
  · unfold setB
    rw [mk_in h, hasB_in h]
    by_cases ht : b.testBit j.toNat = true
    · rw [if_pos ht, or_self ht]
    · rw [if_neg ht, add_or (by simpa using ht) hb (by omega)]
  · unfold setB
    rw [mk_out h, hasB_out h]
    simp
theorem setB_lt {b : Nat} (hb : b < 18446744073709551616) (j : Int) : setB b j < 18446744073709551616 := by
  rw [← or_mk hb]
  exact Nat.or_lt_two_pow (n := 64) hb (mk_lt j)
theorem not_bit {i : Nat} (hi : i < 64) (k : Nat) : (18446744073709551615 - 2 ^ i).testBit k = (decide (k < 64) && !decide (i = k)) := by
  have hp : 2 ^ i < 2 ^ 64 := Nat.pow_lt_pow_right (by decide) hi
  rw [show 18446744073709551615 - 2 ^ i = 2 ^ 64 - (2 ^ i + 1) by omega, Nat.testBit_two_pow_sub_succ hp, Nat.testBit_two_pow]
theorem bit_lt {b k : Nat} (hb : b < 18446744073709551616) (h : b.testBit k = true) : k < 64 := by
  by_cases hk : k < 64
  · exact hk
  · have := Nat.testBit_lt_two_pow (Nat.lt_of_lt_of_le hb (show 18446744073709551616 ≤ 2 ^ k from Nat.le_trans (by decide : 18446744073709551616 ≤ 2 ^ 64) (Nat.pow_le_pow_right (by decide) (by omega))))
    rw [this] at h; cases h
theorem andn_mk {b : Nat} (hb : b < 18446744073709551616) (j : Int) : b &&& (18446744073709551615 - mk j) = clrB b j := by
  by_cases h : 0 ≤ j ∧ j ≤ 63
  · unfold clrB
    rw [mk_in h, hasB_in h]
    have hi : j.toNat < 64 := by omega
    have hc : (b &&& (18446744073709551615 - 2 ^ j.toNat)).testBit j.toNat = false := by rw [Nat.testBit_and, not_bit hi]; simp
    by_cases ht : b.testBit j.toNat = true
    · rw [if_pos ht]
      have hlt : b &&& (18446744073709551615 - 2 ^ j.toNat) < 2 ^ 64 := Nat.and_lt_two_pow _ (Nat.lt_of_le_of_lt (Nat.sub_le _ _) (by decide))
      have h1 := add_or hc hlt hi
      have h2 : (b &&& (18446744073709551615 - 2 ^ j.toNat)) ||| 2 ^ j.toNat = b := by
        apply Nat.eq_of_testBit_eq
        intro k
        rw [Nat.testBit_or, Nat.testBit_and, not_bit hi, Nat.testBit_two_pow]
        by_cases e : j.toNat = k
        · subst e; simp [ht]
        · by_cases hk : b.testBit k = true
          · simp [e, hk, bit_lt hb hk]
          · simp [e, Bool.not_eq_true _ ▸ hk]
      omega
    · rw [if_neg ht]
      apply Nat.eq_of_testBit_eq
      intro k
      rw [Nat.testBit_and, not_bit hi]
      by_cases e : j.toNat = k
      · subst e; simp [Bool.not_eq_true _ ▸ ht]
      · by_cases hk : b.testBit k = true
        · simp [e, hk, bit_lt hb hk]
        · simp [e, Bool.not_eq_true _ ▸ hk]
  · unfold clrB
    rw [mk_out h, hasB_out h, if_neg (by decide), Nat.sub_zero]
    exact Nat.and_two_pow_sub_one_of_lt_two_pow (n := 64) hb
theorem clrB_le (b : Nat) (j : Int) : clrB b j ≤ b := by unfold clrB; split <;> omega
theorem and_mk (b : Nat) (j : Int) : (b &&& mk j != 0) = hasB b j := by
  by_cases h : 0 ≤ j ∧ j ≤ 63
  · rw [mk_in h, hasB_in h]
    by_cases ht : b.testBit j.toNat = true
    · have e : b &&& 2 ^ j.toNat = 2 ^ j.toNat := by
        apply Nat.eq_of_testBit_eq
        intro k
        rw [Nat.testBit_and, Nat.testBit_two_pow]
        by_cases e : j.toNat = k
        · subst e; simp [ht]
        · simp [e]
      rw [ht, e]
      have := Nat.one_le_two_pow (n := j.toNat)
      simp only [bne_iff_ne, ne_eq]; omega
    · have e : b &&& 2 ^ j.toNat = 0 := by
        apply Nat.eq_of_testBit_eq
        intro k
        rw [Nat.testBit_and, Nat.testBit_two_pow]
        by_cases e : j.toNat = k
        · subst e; simp [Bool.not_eq_true _ ▸ ht]
        · simp [e]
      have hf : b.testBit j.toNat = false := by simpa using ht
      rw [hf, e]; rfl
  · rw [mk_out h, hasB_out h]; simp
theorem hasB_set (b : Nat) (hb : b < 18446744073709551616) (j : Int) : hasB (setB b j) j = decide (0 ≤ j ∧ j ≤ 63) := by
  rw [← or_mk hb]
  by_cases h : 0 ≤ j ∧ j ≤ 63
  · rw [hasB_in h, mk_in h, Nat.testBit_or, Nat.testBit_two_pow, decide_eq_true h]; simp
  · rw [hasB_out h, decide_eq_false h]
theorem hasB_clr (b : Nat) (hb : b < 18446744073709551616) (j : Int) : hasB (clrB b j) j = false := by
  rw [← andn_mk hb]
  by_cases h : 0 ≤ j ∧ j ≤ 63
  · rw [hasB_in h, mk_in h, Nat.testBit_and, not_bit (by omega)]; simp
  · rw [hasB_out h]
theorem clr_set (b : Nat) (hb : b < 18446744073709551616) (j : Int) : clrB (setB b j) j = clrB b j := by
  by_cases h : 0 ≤ j ∧ j ≤ 63
  · have h1 : hasB (setB b j) j = true := by rw [hasB_set b hb, decide_eq_true h]
    unfold clrB
    rw [h1, if_pos rfl]
    unfold setB
    by_cases hh : hasB b j = true
    · rw [if_pos hh, if_pos hh]
    · rw [if_neg hh, if_neg hh]; omega
  · have h1 : setB b j = b := by unfold setB; rw [hasB_out h, mk_out h]; simp
    rw [h1]
theorem set_clr (b : Nat) (hb : b < 18446744073709551616) (j : Int) : setB (clrB b j) j = setB b j := by
  unfold setB
  rw [hasB_clr b hb]
  unfold clrB
  by_cases hh : hasB b j = true
  · have hge : mk j ≤ b := by
      have h : 0 ≤ j ∧ j ≤ 63 := by
        refine Classical.byContradiction fun h => ?_
        rw [hasB_out h] at hh; cases hh
      rw [mk_in h]
      rw [hasB_in h] at hh
      exact Nat.ge_two_pow_of_testBit hh
    rw [if_pos hh, if_pos hh, if_neg (by decide)]; omega
  · rw [if_neg hh, if_neg hh, if_neg (by decide)]
/-- The places of the bits that are set, below k. -/
def upB (b k : Nat) : List Nat := (List.range k).filter b.testBit
theorem upB_succ (b k : Nat) : upB b (k + 1) = if b.testBit k then upB b k ++ [k] else upB b k := by
  unfold upB
  rw [List.range_succ, List.filter_append]
  by_cases h : b.testBit k = true
  · simp [h]
  · simp [h]
theorem upB_len (b k : Nat) : (upB b k).length ≤ k := by
  unfold upB
  exact Nat.le_trans (List.length_filter_le _ _) (by simp)
theorem upB_pre (b : Nat) {i j : Nat} (h : i ≤ j) : upB b i <+: upB b j := by
  induction j with
  | zero => obtain rfl : i = 0 := by omega
            exact List.prefix_refl _
  | succ j ih =>
    by_cases e : i = j + 1
    · rw [e]; exact List.prefix_refl _
    · rw [upB_succ]
      split
      · exact (ih (by omega)).trans (List.prefix_append _ _)
      · exact ih (by omega)
theorem mem_upB {b k x : Nat} : x ∈ upB b k ↔ x < k ∧ b.testBit x = true := by simp [upB]
theorem upB_sorted (b k : Nat) : (upB b k).Pairwise (· < ·) := List.Pairwise.filter _ List.pairwise_lt_range
end Go.Proofs.YthibbcokpmckfaaGreatDoor
/- A bit set, cleared, asked for: the program's functions and the document's, of any word and any place; without conditions. -/
namespace Go.Proofs.YthibbcokpmckfaaGreatDoor
open Go.RowKit
set_option linter.unusedVariables false
theorem ret_u64 {a b : Int} (h : a = b) : Ending.returned (.int .u64 a) = .returned (.int .u64 b) := by rw [h]
theorem shift_mk {j : Int} (h0 : 0 ≤ j) : Op.shift .shl .u64 1 .i64 j = pure (.int .u64 (mk j : Int)) := by
  unfold Op.shift
  rw [if_neg (by omega)]
  simp only [Int.one_mul, IntKind.wrap_u64]
  by_cases h : j ≤ 63
  · have hm : min j.toNat IntKind.u64.bits = j.toNat := Nat.min_eq_left (by show j.toNat ≤ 64; omega)
    have hp : (2 : Nat) ^ j.toNat < 2 ^ 64 := Nat.pow_lt_pow_right (by decide) (by omega)
    rw [hm, mk_in ⟨h0, h⟩]
    have e : (2 : Int) ^ j.toNat = ((2 ^ j.toNat : Nat) : Int) := by simp
    rw [e]
    generalize (2 : Nat) ^ j.toNat = p at hp
    congr 2
    omega
  · have hm : min j.toNat IntKind.u64.bits = 64 := Nat.min_eq_right (by show 64 ≤ j.toNat; omega)
    rw [hm, mk_out (fun hh => h hh.2)]
    rfl
theorem mask_any {j : Int} (hj0 : -9223372036854775808 ≤ j) (hj1 : j ≤ 9223372036854775807) (w : World) : Calls Tryz.prog 109 #[.int .i64 j] w fun e w' => e = .returned (.int .u64 (mk j : Int)) ∧ w = w' := by
  by_cases h : 0 ≤ j
  · have hs := shift_mk h
    obtain ⟨m, hm⟩ : ∃ m, m = mk j := ⟨_, rfl⟩
    rw [← hm] at hs ⊢
    clear hm
    go_enter Tryz.func109, Tryz.ntmps109
    go_wp2
    go_ret
    exact ⟨rfl, rfl⟩
  · rw [mk_out (fun hh => h hh.1)]
    go_enter Tryz.func109, Tryz.ntmps109
    go_wp2
    go_ret
    exact ⟨rfl, rfl⟩
section
variable {b : Nat} (hb : b < 18446744073709551616) {j : Int} (hj0 : -9223372036854775808 ≤ j) (hj1 : j ≤ 9223372036854775807) (w : World)
include hb hj0 hj1
theorem bHas_any : Calls Tryz.prog 87 #[wv b, .int .i64 j] w fun e w' => e = .returned (.bool (hasB b j)) ∧ w = w' := by
  have HM := Lib.hid (mask_any hj0 hj1 w)
  have hm := mk_lt j
  have hq := and_mk b j
  rw [← hq]
  have hz : (((b &&& mk j : Nat) : Int) != 0) = (b &&& mk j != 0) := by rw [Bool.eq_iff_iff]; simp
  rw [← hz, ← u64_and_nat b (mk j) hb hm]
  generalize mk j = m at *
  clear hq hz
  unfold wv
  go_enter Tryz.func87, Tryz.ntmps87
  go_wp2_with fail
  refine HM.out.mono ?_
  rintro e w1 ⟨rfl, rfl⟩
  go_wp2
  go_ret
  exact ⟨rfl, rfl⟩
theorem bSet_any : Calls Tryz.prog 139 #[wv b, .int .i64 j] w fun e w' => e = .returned (wv (setB b j)) ∧ w = w' := by
  have HM := Lib.hid (mask_any hj0 hj1 w)
  have hm := mk_lt j
  rw [← or_mk hb j]
  unfold wv
  rw [← u64_or_nat b (mk j) hb hm]
  generalize mk j = m at *
  go_enter Tryz.func139, Tryz.ntmps139
  go_wp2_with fail
  refine HM.out.mono ?_
  rintro e w1 ⟨rfl, rfl⟩
  go_wp2
  go_ret
  exact ⟨rfl, rfl⟩
theorem bClear_any : Calls Tryz.prog 140 #[wv b, .int .i64 j] w fun e w' => e = .returned (wv (clrB b j)) ∧ w = w' := by
  have HM := Lib.hid (mask_any hj0 hj1 w)
  have hm := mk_lt j
  rw [← andn_mk hb j]
  unfold wv
  rw [← u64_andNot_nat b (mk j) hb hm]
  generalize mk j = m at *
  go_enter Tryz.func140, Tryz.ntmps140
  go_wp2_with fail
  refine HM.out.mono ?_
  rintro e w1 ⟨rfl, rfl⟩
  go_wp2
  go_ret
  exact ⟨rfl, rfl⟩
end
end Go.Proofs.YthibbcokpmckfaaGreatDoor
/- give: a slab has a class, and blocks that are free, or published. -/
namespace Go.Proofs.YthibbcokpmckfaaGreatDoor
open Go.RowKit Go.Sort
set_option linter.unusedVariables false
/-- What a slab's blocks are, of which the first k are known. -/
def blK (n b k : Nat) : List Nat := (List.range n).map fun j => if j < k ∧ b.testBit j = true then 2 else 0
theorem blK_len (n b k : Nat) : (blK n b k).length = n := by simp [blK]
theorem blK_set {n b k v : Nat} (hv : v = if b.testBit k = true then 2 else 0) : (blK n b k).set k v = blK n b (k + 1) := by
  apply List.ext_getElem?
  intro q
  rw [List.getElem?_set, blK_len]
  unfold blK
  rw [List.getElem?_map, List.getElem?_map]
  by_cases hq : q < n
  · rw [List.getElem?_range hq, Option.map_some, Option.map_some]
    by_cases e : k = q
    · subst e
      rw [if_pos rfl, if_pos hq, hv]
      by_cases hb : b.testBit k = true
      · rw [if_pos hb, if_pos ⟨by omega, hb⟩]
      · rw [if_neg hb, if_neg (fun h => hb h.2)]
    · rw [if_neg e]
      by_cases h1 : q < k ∧ b.testBit q = true
      · rw [if_pos h1, if_pos ⟨by omega, h1.2⟩]
      · rw [if_neg h1, if_neg (fun h => h1 ⟨by omega, h.2⟩)]
  · rw [List.getElem?_eq_none (l := List.range n) (by simpa using hq)]
    by_cases e : k = q
    · subst e; rw [if_pos rfl, if_neg hq]; rfl
    · rw [if_neg e]; rfl
theorem blK_zero (n b : Nat) : blK n b 0 = List.replicate n 0 := by
  apply List.ext_getElem?
  intro q
  unfold blK
  rw [List.getElem?_map, List.getElem?_replicate]
  by_cases hq : q < n
  · rw [List.getElem?_range hq, if_pos hq, Option.map_some, if_neg (by omega)]
  · rw [List.getElem?_eq_none (l := List.range n) (by simpa using hq), if_neg hq]; rfl
/-- A class's set behind the first k blocks of a new slab. -/
def grown (no c b : Nat) (s : List Nat) : Nat → List Nat
  | 0 => s
  | k + 1 => if b.testBit k = true then grown no c b s k else ins (adr no c k) (grown no c b s k)
theorem grown_len (no c b : Nat) (s : List Nat) (k : Nat) : (grown no c b s k).length ≤ s.length + k := by
  induction k with
  | zero => exact Nat.le_refl _
  | succ k ih =>
    unfold grown
    split
    · omega
    · have := ins_len (adr no c k) (grown no c b s k); omega
theorem infoI2 : (Tryz.prog.info? 3).map (fun i => (i.zero, i.size, i.bytes)) = some (some (.int .i64 0), 1, 8) := by kernel_rfl
theorem SlabMem.give0 {w W : World} {y : SLay} {hs : List Hd} {fs : Nat → List Nat} (h : SlabMem w y hs fs) {i : Nat} {x : Hd} (hx : hs[i]? = some x) {c b n g : Nat} {cs : Array Value} (hc : HCells y.bv hs cs) (hn : n ≤ 15) (hc3 : c ≤ 3)
    (hbut : But w W (fun k => k = y.gh)) (hr : Row W y.gh 99 (((cs.setIfInBounds (i * 4 + 1) (jv c)).setIfInBounds (i * 4 + 2) (wv b)).setIfInBounds (i * 4 + 3) (.slice (some ⟨g, 0, none⟩) n n)))
    (hI : Row W g 3 ((List.replicate n 0).map jv).toArray) (hg : w.heap.size ≤ g) :
    SlabMem W { y with bv := updF y.bv i (.slice (some ⟨g, 0, none⟩) n n) } (hs.set i ⟨x.no, c, b, List.replicate n 0⟩) fs ∧ STurn w W y { y with bv := updF y.bv i (.slice (some ⟨g, 0, none⟩) n n) } := by
  have hil := (List.getElem?_eq_some_iff.1 hx).1
  obtain ⟨cs0, hr0, _⟩ := h.hdr
  have hsz := hc.1
  have hlt : ∀ k z, hs[k]? = some z → ∀ q, (y.bv k).ownBlock = some q → q < w.heap.size := fun k z hz q hq => ((h.blk k z hz).row hq).lt
  refine ⟨{ h with
    row := by rw [List.length_set]; exact hbut.row h.row h.gs_gh
    hdr := ⟨_, hr, by simp only [Array.size_setIfInBounds, List.length_set]; exact hsz, fun k z hz => ?_⟩
    blk := fun k z hz => ?_
    bne := fun a d ha hd hne q hq hq' => ?_
    fre := fun d hd => (h.fre d hd).keep hbut fun k hk e => ?_
    len := by rw [List.length_set]; exact h.len
    pos := by rw [List.length_set]; exact h.pos
    most := by rw [List.length_set]; exact h.most
    lens := fun z hz => ?_ }, ⟨rfl, rfl, rfl, hbut.mono fun k e => .inr (.inl e), fun k hk => ?_⟩⟩
  · rw [List.getElem?_set] at hz
    by_cases e : i = k
    · subst e
      rw [if_pos rfl, if_pos hil] at hz
      cases hz
      obtain ⟨h0, h1, h2, h3⟩ := hc.2 i x hx
      refine ⟨?_, ?_, ?_, ?_⟩
      · rw [Array.getElem?_setIfInBounds, if_neg (by omega), Array.getElem?_setIfInBounds, if_neg (by omega), Array.getElem?_setIfInBounds, if_neg (by omega)]; exact h0
      · rw [Array.getElem?_setIfInBounds, if_neg (by omega), Array.getElem?_setIfInBounds, if_neg (by omega), Array.getElem?_setIfInBounds, if_pos rfl, if_pos (by omega)]
      · rw [Array.getElem?_setIfInBounds, if_neg (by omega), Array.getElem?_setIfInBounds, if_pos rfl, if_pos (by simp only [Array.size_setIfInBounds]; omega)]
      · rw [Array.getElem?_setIfInBounds, if_pos rfl, if_pos (by simp only [Array.size_setIfInBounds]; omega)]
        show _ = some (updF y.bv i _ i)
        rw [updF_at]
    · rw [if_neg e] at hz
      obtain ⟨h0, h1, h2, h3⟩ := hc.2 k z hz
      refine ⟨?_, ?_, ?_, ?_⟩ <;> rw [Array.getElem?_setIfInBounds, if_neg (by omega), Array.getElem?_setIfInBounds, if_neg (by omega), Array.getElem?_setIfInBounds, if_neg (by omega)]
      · exact h0
      · exact h1
      · exact h2
      · show _ = some (updF y.bv i _ k)
        rw [updF_ne _ _ (Ne.symm e)]
        exact h3
  · rw [List.getElem?_set] at hz
    by_cases e : i = k
    · subst e
      rw [if_pos rfl, if_pos hil] at hz
      cases hz
      show Ints W (updF y.bv i _ i) _
      rw [updF_at]
      exact .inr ⟨g, by rw [List.length_replicate], hI⟩
    · rw [if_neg e] at hz
      show Ints W (updF y.bv i _ k) _
      rw [updF_ne _ _ (Ne.symm e)]
      exact (h.blk k z hz).keep hbut fun q hq eq => tagNe ((h.blk k z hz).row hq).tag hr0.tag (by decide) eq
  · rw [List.length_set] at ha hd
    have hq1 : (updF y.bv i (.slice (some ⟨g, 0, none⟩) n n) a).ownBlock = some q := hq
    have hq2 : (updF y.bv i (.slice (some ⟨g, 0, none⟩) n n) d).ownBlock = some q := hq'
    by_cases e : a = i
    · subst e
      rw [updF_at] at hq1
      rw [updF_ne _ _ (Ne.symm hne)] at hq2
      have eg : g = q := Option.some.inj hq1
      have := hlt d _ (List.getElem?_eq_getElem hd) _ hq2
      omega
    · rw [updF_ne _ _ e] at hq1
      by_cases e2 : d = i
      · subst e2
        rw [updF_at] at hq2
        have eg : g = q := Option.some.inj hq2
        have := hlt a _ (List.getElem?_eq_getElem ha) _ hq1
        omega
      · rw [updF_ne _ _ e2] at hq2
        exact h.bne a d ha hd hne q hq1 hq2
  · subst e
    rcases hk with e | hk
    · exact tagNe (h.fre d hd).tags.1 hr0.tag (by decide) e.symm
    · exact tagNe ((h.fre d hd).tags.2 _ hk) hr0.tag (by decide) rfl
  · rcases mem_set hz with h1 | rfl
    · exact h.lens z h1
    · exact ⟨by rw [List.length_replicate]; exact hn, hc3⟩
  · rcases hk with rfl | rfl | hk | ⟨q, hq, hk⟩
    · exact .inl (.inl rfl)
    · exact .inl (.inr (.inl rfl))
    · exact .inl (.inr (.inr (.inl hk)))
    · have hk' : (updF y.bv i (.slice (some ⟨g, 0, none⟩) n n) q).ownBlock = some k := hk
      by_cases e : q = i
      · subst e
        rw [updF_at] at hk'
        cases hk'
        exact .inr hg
      · rw [updF_ne _ _ e] at hk'
        exact .inl (.inr (.inr (.inr ⟨q, hq, hk'⟩)))
def GiveR (w : World) (y : SLay) (hs : List Hd) (fs : Nat → List Nat) (i no c b : Nat) (v : Value) (wr : World) : Prop :=
  ∃ k : Nat, k ≤ blN c ∧ v = .int .i64 (k : Int) ∧ ∃ y', SlabMem wr y' (hs.set i ⟨no, c, b, blK (blN c) b k⟩) (updF fs c (grown no c b (fs c) k)) ∧ STurn w wr y y'
set_option maxRecDepth 100000 in
set_option maxHeartbeats 1600000 in
theorem give_any {w : World} {y : SLay} {hs : List Hd} {fs : Nat → List Nat} (h : SlabMem w y hs fs) (R : RS w y) {i : Nat} {x : Hd} (hx : hs[i]? = some x) (hno : 1 ≤ x.no ∧ x.no ≤ 64) {c b : Nat} (hc3 : c ≤ 3) (hb : b < 18446744073709551616) (hfew : (fs c).length + 15 ≤ 100000) :
    Calls Tryz.prog 45 #[fpt y.gs, .pointer (some ⟨y.gh, i * 4, none⟩), jv c, wv b] w (SPost w y (hs.set i ⟨x.no, c, b, blK (blN c) b (blN c)⟩) (updF fs c (grown x.no c b (fs c) (blN c))) (.tuple #[])) := by
  have hil := (List.getElem?_eq_some_iff.1 hx).1
  have hn15 := blN_le c
  obtain ⟨cs, hr, hcs⟩ := h.hdr
  have hsz := hcs.1
  have hcx := hcs.2 i x hx
  have f1 := hr.free (i * 4 + 1)
  have f2 := hr.free (i * 4 + 2)
  have c1 := (h.head hx).2.1
  have c2 := (h.head hx).2.2.1
  obtain ⟨W1, hW1⟩ : ∃ W1, W1 = (w.setCell ⟨y.gh, i * 4 + 1, none⟩ (.int .i64 (c : Int))).setCell ⟨y.gh, i * 4 + 2, none⟩ (.int .u64 (b : Int)) := ⟨_, rfl⟩
  have hr1 : Row W1 y.gh 99 ((cs.setIfInBounds (i * 4 + 1) (jv c)).setIfInBounds (i * 4 + 2) (wv b)) := by rw [hW1]; exact (hr.set (i * 4 + 1) (jv c)).set (i * 4 + 2) (wv b)
  have hb1 : But w W1 (fun k => k = y.gh) := by rw [hW1]; exact ((But.refl w (fun k => k = y.gh)).set (p := ⟨y.gh, i * 4 + 1, none⟩) (by rfl) _).set (p := ⟨y.gh, i * 4 + 2, none⟩) (by rfl) _
  have hsz1 : W1.heap.size = w.heap.size := by rw [hW1]; simp
  have R1 : Rms W1 := R.1.but hb1 (fun e => R.2 (.inr (.inl e)))
  have HG := Lib.hid (blocks_any (c : Int) W1 R1)
  rw [blN_C] at HG
  obtain ⟨i0, hi, hz0, hz1, hz2⟩ := info_parts infoI2
  obtain ⟨n, hn⟩ : ∃ n, n = blN c := ⟨_, rfl⟩
  rw [← hn] at HG hn15
  have hm1 := fun W : World => run_make (P := Tryz.prog) W 47 3 i0 _ Tryz.underlying47 hi hz0 .i64 .i64 ((n : Nat) : Int) ((n : Nat) : Int) (by omega) (by omega) (by rw [hz2]; omega) (by omega)
  simp only [Int.toNat_natCast, hz1] at hm1
  have HM := Lib.hid h
  have HRS := Lib.hid R
  have HX := Lib.hid hx
  have HNN := Lib.hid hn
  have HCS := Lib.hid hcs
  have HB1 := Lib.hid hb1
  have HR1 := Lib.hid hr1
  have HHB := Lib.hid fun (j : Int) (h0 : -9223372036854775808 ≤ j) (h1 : j ≤ 9223372036854775807) (W : World) => bHas_any hb h0 h1 W
  have HSZ := Lib.hid hsz1
  obtain ⟨gs, hgs⟩ : ∃ gs, gs = y.gs := ⟨_, rfl⟩
  obtain ⟨gh, hgh⟩ : ∃ gh, gh = y.gh := ⟨_, rfl⟩
  rw [← hgh] at f1 f2 c1 c2 hW1
  rw [← hgs, ← hgh]
  have HGS := Lib.hid hgs
  have HGH := Lib.hid hgh
  obtain ⟨no, hnoe⟩ : ∃ no, no = x.no := ⟨_, rfl⟩
  rw [← hnoe] at hno ⊢
  have HNO := Lib.hid hnoe
  have hbl := Lib.hid hb
  unfold jv at c1
  unfold wv at c2
  unfold jv fpt wv
  clear h R hx hcs hr hcx hb1 hr1 R1 hn hgs hgh hnoe hsz hsz1 hb
  go_enter Tryz.func45, Tryz.ntmps45
  go_wp2_with fail
  rw [← hW1]
  clear hW1 c1 c2 f1 f2
  refine HG.out.mono ?_
  rintro e w2 ⟨rfl, hg2⟩
  have hr2 := HR1.out.below hg2.all HR1.out.lt
  rw [← HGH.out] at hr2
  have c3 := hr2.cell (i * 4 + 3)
  rw [Array.getElem?_setIfInBounds, if_neg (by omega), Array.getElem?_setIfInBounds, if_neg (by omega), (HCS.out.2 i x HX.out).2.2.2] at c3
  have f3 := hr2.free (i * 4 + 3)
  have HR2 := Lib.hid hr2
  have HG2 := Lib.hid hg2
  clear hr2 hg2
  obtain ⟨u3, hu3⟩ : ∃ u, u = y.bv i := ⟨_, rfl⟩
  rw [← hu3] at c3
  clear hu3
  have hr3 := HR2.out.alloc (.cells (madeCells #[.int .i64 0] n) 3)
  have c4 : (w2.alloc (.cells (madeCells #[.int .i64 0] n) 3)).cell? ⟨gh, i * 4 + 3, none⟩ = some u3 := by rw [hr3.cell, ← HR2.out.cell]; exact c3
  have f4 := hr3.free (i * 4 + 3)
  have HR3 := Lib.hid hr3
  clear hr3 c3 f3
  go_upto_region 2 with (fail)
  obtain ⟨W3, hW3⟩ : ∃ W3, W3 = (w2.alloc (.cells (madeCells #[.int .i64 0] n) 3)).setCell ⟨gh, i * 4 + 3, none⟩ (.slice (some ⟨w2.heap.size, 0, none⟩) n n) := ⟨_, rfl⟩
  rw [← hW3]
  have hgsz : w.heap.size ≤ w2.heap.size := by have := HG2.out.all.size; have := HSZ.out; omega
  have HST := Lib.hid (show ∃ y1, SlabMem W3 y1 (hs.set i ⟨no, c, b, List.replicate n 0⟩) fs ∧ STurn w W3 y y1 from by
    have hne : gh ≠ w2.heap.size := by have := HR2.out.lt; omega
    have hbb : But w W3 (fun k => k = y.gh) := by
      rw [hW3, HGH.out]
      exact ((HB1.out.trans (But.of_below HG2.out.all (fun k => k = y.gh)) (fun k hk => .inl hk)).alloc _).set (p := ⟨y.gh, i * 4 + 3, none⟩) (by rfl) _
    rw [HNO.out]
    refine ⟨_, HM.out.give0 (W := W3) (b := b) (g := w2.heap.size) HX.out HCS.out hn15 hc3 hbb ?_ ?_ hgsz⟩
    · rw [← HGH.out, hW3]
      exact HR3.out.set (i * 4 + 3) _
    · rw [hW3]
      refine Row.other (p := ⟨gh, i * 4 + 3, none⟩) ?_ (Ne.symm hne) _
      have e : (List.replicate n 0).map jv = List.replicate n (.int .i64 0) := by rw [List.map_replicate]; rfl
      rw [e, ← madeCells_one]
      exact Row.new _ _ _)
  obtain ⟨y1, hm1, ht1⟩ := HST.out
  have hil' : ∀ z : Hd, (hs.set i z)[i]? = some z := fun z => by rw [List.getElem?_set, if_pos rfl, if_pos hil]
  have HIL := Lib.hid hil'
  have c5 := (hm1.head (hil' _)).2.2.2
  rw [ht1.gh, ← HGH.out] at c5
  obtain ⟨ad, hsh⟩ := (hm1.blk i _ (hil' _)).shape
  rw [hsh, List.length_replicate] at c5
  have HM1 := Lib.hid hm1
  have HT1 := Lib.hid ht1
  clear hW3 hgsz hm1 ht1 hsh hil' c4 f4 HST
  go_wp2
  go_loopw [28] (fun v wr => GiveR w y hs fs i no c b v wr) (fun v _ => n - (intOf v).toNat)
  case atStart => exact ⟨0, Nat.zero_le _, rfl, y1, by rw [blK_zero, ← HNN.out]; show SlabMem W3 y1 _ (updF fs c (fs c)); rw [updF_same]; exact HM1.out, HT1.out⟩
  case round =>
    obtain ⟨k, hk, rfl, y', hm, ht⟩ := hrel
    rename World => wr
    clear c5 HM1 HT1
    have HT := Lib.hid ht
    have hk : k ≤ n := by rw [HNN.out]; exact hk
    by_cases hlt : k < n
    · have hx' := HIL.out ⟨no, c, b, blK (blN c) b k⟩
      have hg := (hm.head hx').2.2.2
      rw [ht.gh, ← HGH.out] at hg
      obtain ⟨g, hsh, hr⟩ := (hm.blk i _ hx').pos (by rw [blK_len, ← HNN.out]; omega)
      rw [hsh, blK_len, ← HNN.out] at hg
      have hown : (y'.bv i).ownBlock = some g := by rw [hsh]; rfl
      have hkb : k < (blK (blN c) b k).length := by rw [blK_len, ← HNN.out]; exact hlt
      have hj0 : (-9223372036854775808 : Int) ≤ (k : Int) := by omega
      have hj1 : (k : Int) ≤ 9223372036854775807 := by omega
      have HA := Lib.hid (HHB.out (k : Int) hj0 hj1 wr)
      rw [hasB_in ⟨by omega, by omega⟩, Int.toNat_natCast] at HA
      have HM' := Lib.hid hm
      have HX' := Lib.hid hx'
      have HOW := Lib.hid hown
      have HKB := Lib.hid hkb
      have cj := hr.cell k
      rw [List.getElem?_toArray, List.getElem?_map, List.getElem?_eq_getElem hkb, Option.map_some] at cj
      obtain ⟨u, cj'⟩ : ∃ u, wr.cell? ⟨g, k, none⟩ = some u := ⟨_, cj⟩
      clear cj
      have fj := hr.free k
      unfold wv at HA
      cases hbit : b.testBit k with
      | true =>
        rw [hbit] at HA
        have HBT := Lib.hid hbit
        clear hm ht hx' hsh hr hown hkb hj0 hj1 hk hbit
        go_wp2_with fail
        refine HA.out.mono ?_
        rintro e w3 ⟨rfl, rfl⟩
        go_wp2
        go_roundw
        case rel =>
          have hp := HM'.out.put_bl (j := k) HX'.out HOW.out 2
          rw [List.set_set] at hp
          refine ⟨k + 1, by rw [← HNN.out]; exact hlt, by go_num, y', ?_, HT.out.trans hp.2⟩
          have e1 : (blK (blN c) b k).set k 2 = blK (blN c) b (k + 1) := blK_set (by rw [if_pos HBT.out])
          have e2 : grown no c b (fs c) (k + 1) = grown no c b (fs c) k := by show (if _ then _ else _) = _; rw [if_pos HBT.out]
          rw [e2, ← e1]
          exact hp.1
        case measure => simp [intOf]; omega
      | false =>
        rw [hbit] at HA
        have HBT := Lib.hid hbit
        have HL := Lib.hid (leave_any hm (HRS.out.turn ht) hx' (by show 1 ≤ no ∧ no ≤ 64; exact hno) hkb (by show k < blN c; rw [← HNN.out]; exact hlt) (by show (updF fs c _ c).length + 1 ≤ 100000; rw [updF_at]; have := grown_len no c b (fs c) k; omega))
        unfold fpt jv at HL
        rw [ht.gs, ht.gh, ← HGS.out, ← HGH.out] at HL
        clear hm ht hx' hsh hr hown hkb hj0 hj1 hk hbit hg cj' fj
        go_wp2_with fail
        refine HA.out.mono ?_
        rintro e w3 ⟨rfl, rfl⟩
        go_wp2_with fail
        refine HL.out.mono ?_
        rintro e w4 ⟨rfl, y4, hm4, ht4⟩
        have HM4 := Lib.hid hm4
        have HT4 := Lib.hid ht4
        clear hm4 ht4
        go_wp2
        go_roundw
        case rel =>
          have hm4 := HM4.out
          rw [List.set_set] at hm4
          refine ⟨k + 1, by rw [← HNN.out]; exact hlt, by go_num, y4, ?_, HT.out.trans HT4.out⟩
          have e1 : (blK (blN c) b k).set k 0 = blK (blN c) b (k + 1) := blK_set (by rw [if_neg (by rw [HBT.out]; decide)])
          have e2 : grown no c b (fs c) (k + 1) = ins (adr no c k) (grown no c b (fs c) k) := by show (if _ then _ else _) = _; rw [if_neg (by rw [HBT.out]; decide)]
          have e3 : updF (updF fs c (grown no c b (fs c) k)) c (ins (adr no c k) (updF fs c (grown no c b (fs c) k) c)) = updF fs c (ins (adr no c k) (grown no c b (fs c) k)) := by
            rw [updF_at]
            funext d
            unfold updF
            split <;> rfl
          rw [e2, ← e1, ← e3]
          exact hm4
        case measure => simp [intOf]; omega
    · have hkn : k = n := by omega
      have HE := Lib.hid (show SPost w y (hs.set i ⟨no, c, b, blK (blN c) b (blN c)⟩) (updF fs c (grown no c b (fs c) (blN c))) (.tuple #[]) (.returned (.tuple #[])) wr from ⟨rfl, y', by rw [hkn, HNN.out] at hm; exact hm, ht⟩)
      clear hm ht hk hkn
      go_wp2
      refine bodyPost_ret (results_none rfl _ _ _) rfl ?_
      exact HE.out
end Go.Proofs.YthibbcokpmckfaaGreatDoor
