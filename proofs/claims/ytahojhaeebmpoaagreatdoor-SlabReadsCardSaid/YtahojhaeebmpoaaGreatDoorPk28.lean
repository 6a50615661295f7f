/- Texts of this claim, packed: LSt, LAt, LFind, LCls. -/
import Derived.Test.YtahojhaeebmpoaaGreatDoorPk01
import Derived.Test.YtahojhaeebmpoaaGreatDoorPk03
import Derived.Test.YtahojhaeebmpoaaGreatDoorPk04
import Derived.Test.YtahojhaeebmpoaaGreatDoorPk13
import Derived.Test.YtahojhaeebmpoaaGreatDoorPk27
import Derived.WalkMore
/- The blocks of an arena: their abstract state, and what memory that reads as it must hold; plain facts, without conditions. -/
namespace Go.Proofs.YtahojhaeebmpoaaGreatDoor
open Go.RowKit Go.Sort
set_option linter.unusedVariables false

/-- What is known of a slab: its number, its class, its bits, what each block is. -/
structure Hd where
  no : Nat
  cls : Nat
  bits : Nat
  bl : List Nat
def blN (c : Nat) : Nat := if c = 1 then 15 else if c = 2 then 7 else if c = 3 then 5 else 0
theorem blN_le (c : Nat) : blN c ≤ 15 := by unfold blN; split <;> (try split) <;> (try split) <;> omega
theorem blN_C (c : Nat) : blC (c : Int) = (blN c : Int) := by
  unfold blN blC
  by_cases h1 : c = 1
  · subst h1; rfl
  · by_cases h2 : c = 2
    · subst h2; rfl
    · by_cases h3 : c = 3
      · subst h3; rfl
      · rw [if_neg (by omega), if_neg (by omega), if_neg (by omega), if_neg h1, if_neg h2, if_neg h3]; rfl
/-- Where the block j of a slab (its number, its class) begins. -/
def adr (no c j : Nat) : Nat := 1024 * no + 64 + 64 * c * j
theorem adr_blk {no c j : Nat} (h0 : 1 ≤ no) (h1 : no ≤ 64) (hj : j < blN c) : blkA (no : Int) (c : Int) (j : Int) = (adr no c j : Int) := by
  have hb := blN_C c
  rw [blkA_yes ⟨by omega, by omega, by omega, by omega⟩]
  unfold adr
  have hc : c = 1 ∨ c = 2 ∨ c = 3 := by
    unfold blN at hj
    by_cases h1 : c = 1
    · exact .inl h1
    · by_cases h2 : c = 2
      · exact .inr (.inl h2)
      · by_cases h3 : c = 3
        · exact .inr (.inr h3)
        · rw [if_neg h1, if_neg h2, if_neg h3] at hj; omega
  rcases hc with rfl | rfl | rfl
  · show _ + 64 + (j : Int) * 64 = _; omega
  · show _ + 64 + (j : Int) * 128 = _; omega
  · show _ + 64 + (j : Int) * 192 = _; omega
theorem adr_le {no c j : Nat} (h1 : no ≤ 64) (hj : j < blN c) : adr no c j + 64 * c ≤ 1024 * no + 1024 := by
  unfold adr
  unfold blN at hj
  by_cases h1 : c = 1
  · subst h1; rw [if_pos rfl] at hj; omega
  · by_cases h2 : c = 2
    · subst h2; rw [if_neg h1, if_pos rfl] at hj; omega
    · by_cases h3 : c = 3
      · subst h3; rw [if_neg h1, if_neg h2, if_pos rfl] at hj; omega
      · rw [if_neg h1, if_neg h2, if_neg h3] at hj; omega
theorem blN_pos {c j : Nat} (hj : j < blN c) : 1 ≤ c ∧ c ≤ 3 := by
  unfold blN at hj
  by_cases h1 : c = 1
  · omega
  · by_cases h2 : c = 2
    · omega
    · by_cases h3 : c = 3
      · omega
      · rw [if_neg h1, if_neg h2, if_neg h3] at hj; omega

def jv (n : Nat) : Value := .int .i64 (n : Int)
/-- A slice of integers: nil, or a block of its own. -/
def Ints (w : World) (v : Value) (l : List Nat) : Prop := (v = .slice none 0 0 ∧ l = []) ∨ ∃ g, v = .slice (some ⟨g, 0, none⟩) l.length l.length ∧ Row w g 3 (l.map jv).toArray
theorem Ints.keep {w w' : World} {v : Value} {l : List Nat} {fp : Nat → Prop} (h : Ints w v l) (hb : But w w' fp) (hn : ∀ k, v.ownBlock = some k → ¬ fp k) : Ints w' v l := by
  rcases h with h | ⟨g, rfl, hr⟩
  · exact .inl h
  · exact .inr ⟨g, rfl, hb.row hr (hn g rfl)⟩
theorem Ints.row {w : World} {v : Value} {l : List Nat} (h : Ints w v l) {g : Nat} (hg : v.ownBlock = some g) : Row w g 3 (l.map jv).toArray := by
  rcases h with ⟨rfl, _⟩ | ⟨g', rfl, hr⟩
  · cases hg
  · cases hg; exact hr
theorem Ints.pos {w : World} {v : Value} {l : List Nat} (h : Ints w v l) (h0 : 0 < l.length) : ∃ g, v = .slice (some ⟨g, 0, none⟩) l.length l.length ∧ Row w g 3 (l.map jv).toArray := by
  rcases h with ⟨_, rfl⟩ | h
  · cases h0
  · exact h
theorem Ints.shape {w : World} {v : Value} {l : List Nat} (h : Ints w v l) : ∃ a, v = .slice a l.length l.length := by
  rcases h with ⟨rfl, rfl⟩ | ⟨g, rfl, _⟩
  · exact ⟨_, rfl⟩
  · exact ⟨_, rfl⟩

/-- Where it lies: the struct, the headers, the blocks' slices by slab, the sets by class, and their lists. -/
structure SLay where
  gs : Nat
  gh : Nat
  n : Nat
  bv : Nat → Value
  gf : Nat → Nat
  fv : Nat → Value
def fpt (g : Nat) : Value := .pointer (some ⟨g, 0, none⟩)
def SLay.fp (y : SLay) (k : Nat) : Prop := k = y.gs ∨ k = y.gh ∨ (∃ c, c < 4 ∧ ffp (y.gf c) (y.fv c) k) ∨ ∃ i, i < y.n ∧ (y.bv i).ownBlock = some k

/-- The headers' cells. -/
def HCells (bv : Nat → Value) (hs : List Hd) (cs : Array Value) : Prop :=
  cs.size = 4 * hs.length ∧ ∀ i h, hs[i]? = some h → cs[i * 4]? = some (jv h.no) ∧ cs[i * 4 + 1]? = some (jv h.cls) ∧ cs[i * 4 + 2]? = some (wv h.bits) ∧ cs[i * 4 + 3]? = some (bv i)
/-- What must lie in memory; fs: which addresses each class's set has. -/
structure SlabMem (w : World) (y : SLay) (hs : List Hd) (fs : Nat → List Nat) : Prop where
  row : Row w y.gs 87 #[.slice (some ⟨y.gh, 0, none⟩) hs.length hs.length, fpt (y.gf 0), fpt (y.gf 1), fpt (y.gf 2), fpt (y.gf 3)]
  hdr : ∃ cs, Row w y.gh 91 cs ∧ HCells y.bv hs cs
  blk : ∀ i h, hs[i]? = some h → Ints w (y.bv i) h.bl
  bne : ∀ i j, i < hs.length → j < hs.length → i ≠ j → ∀ g, (y.bv i).ownBlock = some g → (y.bv j).ownBlock ≠ some g
  fre : ∀ c, c < 4 → SetAt w (y.gf c) (fs c) (y.fv c)
  gne : ∀ c d, c < 4 → d < 4 → c ≠ d → y.gf c ≠ y.gf d
  vne : ∀ c d, c < 4 → d < 4 → c ≠ d → ∀ g, (y.fv c).ownBlock = some g → (y.fv d).ownBlock ≠ some g
  len : y.n = hs.length
  pos : 0 < hs.length
  most : hs.length ≤ 64
  few : ∀ c, c < 4 → (fs c).length ≤ 100000
  lens : ∀ h, h ∈ hs → h.bl.length ≤ 15 ∧ h.cls ≤ 3
/-- What a call makes of it: the same struct, headers, sets; its blocks or new ones. -/
structure STurn (w w' : World) (y y' : SLay) : Prop where
  gs : y'.gs = y.gs
  gh : y'.gh = y.gh
  gf : y'.gf = y.gf
  but : But w w' y.fp
  fp : ∀ k, y'.fp k → y.fp k ∨ w.heap.size ≤ k
theorem STurn.refl (w : World) (y : SLay) : STurn w w y y := ⟨rfl, rfl, rfl, But.refl w _, fun _ h => .inl h⟩
theorem STurn.trans {w w1 w2 : World} {y y1 y2 : SLay} (h : STurn w w1 y y1) (h2 : STurn w1 w2 y1 y2) : STurn w w2 y y2 :=
  ⟨h2.gs.trans h.gs, h2.gh.trans h.gh, h2.gf.trans h.gf, h.but.trans h2.but h.fp, fun k hk => by
    rcases h2.fp k hk with h3 | h3
    · exact h.fp k h3
    · exact .inr (Nat.le_trans h.but.size h3)⟩
theorem STurn.of_below {w w' : World} (y : SLay) (h : Below w.heap.size w w') : STurn w w' y y := ⟨rfl, rfl, rfl, But.of_below h _, fun _ h => .inl h⟩
/-- A block's type. -/
def Tag (w : World) (k : Nat) (t : TypeId) : Prop := ∃ cs f, w.heap[k]? = some (.cells cs t f)
theorem Row.tag {w : World} {g : Nat} {t : TypeId} {cs : Array Value} (h : Row w g t cs) : Tag w g t := ⟨cs, _, h⟩
theorem Tag.same {w : World} {k : Nat} {t u : TypeId} (h : Tag w k t) (h2 : Tag w k u) : t = u := by
  obtain ⟨cs, f, h⟩ := h
  obtain ⟨cs2, f2, h2⟩ := h2
  rw [h] at h2
  cases h2
  rfl
theorem Adr.tag {w : World} {v : Value} {l : List Nat} (h : Adr w v l) {k : Nat} (hk : v.ownBlock = some k) : Tag w k 24 := by
  rcases h with ⟨rfl, _⟩ | ⟨b, off, cap, cur, rfl, hr, _⟩
  · cases hk
  · cases hk; exact hr.tag
theorem SetAt.tags {w : World} {g : Nat} {v : Value} {s : List Nat} (h : SetAt w g s v) : Tag w g 145 ∧ ∀ k, v.ownBlock = some k → Tag w k 24 := by
  obtain ⟨l, hF, _⟩ := h
  exact ⟨hF.1.tag, fun k hk => hF.2.1.tag hk⟩
section
variable {w w' : World} {y y' : SLay} {hs : List Hd} {fs : Nat → List Nat}
theorem SlabMem.tag (h : SlabMem w y hs fs) {k : Nat} (hk : y.fp k) : Tag w k 87 ∨ Tag w k 91 ∨ Tag w k 145 ∨ Tag w k 24 ∨ Tag w k 3 := by
  rcases hk with rfl | rfl | ⟨c, hc, hk⟩ | ⟨i, hi, hk⟩
  · exact .inl h.row.tag
  · obtain ⟨cs, hr, _⟩ := h.hdr
    exact .inr (.inl hr.tag)
  · rcases hk with rfl | hk
    · exact .inr (.inr (.inl (h.fre c hc).tags.1))
    · exact .inr (.inr (.inr (.inl ((h.fre c hc).tags.2 k hk))))
  · rw [h.len] at hi
    exact .inr (.inr (.inr (.inr ((h.blk i _ (List.getElem?_eq_getElem hi)).row hk).tag)))
theorem SlabMem.lt (h : SlabMem w y hs fs) {k : Nat} (hk : y.fp k) : k < w.heap.size := by
  rcases h.tag hk with ⟨_, _, h⟩ | ⟨_, _, h⟩ | ⟨_, _, h⟩ | ⟨_, _, h⟩ | ⟨_, _, h⟩ <;> exact heap_lt h
theorem SlabMem.keep {p : Nat → Prop} (h : SlabMem w y hs fs) (hb : But w w' p) (hn : ∀ k, y.fp k → ¬ p k) : SlabMem w' y hs fs := by
  obtain ⟨cs, hr, hc⟩ := h.hdr
  exact { h with
    row := hb.row h.row (hn _ (.inl rfl))
    hdr := ⟨cs, hb.row hr (hn _ (.inr (.inl rfl))), hc⟩
    blk := fun i x hx => (h.blk i x hx).keep hb fun k hk => hn k (.inr (.inr (.inr ⟨i, by rw [h.len]; exact (List.getElem?_eq_some_iff.1 hx).1, hk⟩)))
    fre := fun c hc => (h.fre c hc).keep hb fun k hk => hn k (.inr (.inr (.inl ⟨c, hc, hk⟩))) }
theorem SlabMem.below (h : SlabMem w y hs fs) (hb : Below w.heap.size w w') : SlabMem w' y hs fs := h.keep (But.of_below hb (fun _ => False)) (fun _ _ h => h)
theorem SlabMem.gs_gh (h : SlabMem w y hs fs) : y.gs ≠ y.gh := by
  obtain ⟨cs, hr, _⟩ := h.hdr
  intro e
  have := h.row.tag.same (e ▸ hr.tag)
  revert this; decide
theorem SlabMem.field (h : SlabMem w y hs fs) : w.cell? ⟨y.gs, 0, none⟩ = some (.slice (some ⟨y.gh, 0, none⟩) hs.length hs.length) := h.row.cell 0
theorem SlabMem.set4 (h : SlabMem w y hs fs) {c : Nat} (hc : c < 4) : w.cell? ⟨y.gs, 1 + c, none⟩ = some (fpt (y.gf c)) := by
  rw [h.row.cell]
  match c, hc with
  | 0, _ => rfl
  | 1, _ => rfl
  | 2, _ => rfl
  | 3, _ => rfl
theorem SlabMem.head (h : SlabMem w y hs fs) {i : Nat} {x : Hd} (hx : hs[i]? = some x) :
    w.cell? ⟨y.gh, i * 4, none⟩ = some (jv x.no) ∧ w.cell? ⟨y.gh, i * 4 + 1, none⟩ = some (jv x.cls) ∧ w.cell? ⟨y.gh, i * 4 + 2, none⟩ = some (wv x.bits) ∧ w.cell? ⟨y.gh, i * 4 + 3, none⟩ = some (y.bv i) := by
  obtain ⟨cs, hr, hc⟩ := h.hdr
  have := hc.2 i x hx
  refine ⟨?_, ?_, ?_, ?_⟩ <;> rw [hr.cell]
  · exact this.1
  · exact this.2.1
  · exact this.2.2.1
  · exact this.2.2.2
theorem SlabMem.hfree (h : SlabMem w y hs fs) (k : Nat) : w.frozen? ⟨y.gh, k, none⟩ = false := by
  obtain ⟨cs, hr, _⟩ := h.hdr
  exact hr.free k
end
end Go.Proofs.YtahojhaeebmpoaaGreatDoor
/- The blocks' small functions: Slabs, none, isClass, isClient, at: what each answers. -/
namespace Go.Proofs.YtahojhaeebmpoaaGreatDoor
open Go.RowKit Go.Sort
set_option linter.unusedVariables false
/-- A pointer to no blocks: nil, or zero ones. -/
def NoSlab (w : World) (p : Option Addr) : Prop := p = none ∨ ∃ g, p = some ⟨g, 0, none⟩ ∧ Row w g 87 #[.slice none 0 0, .pointer none, .pointer none, .pointer none, .pointer none]
theorem NoSlab.below {w w' : World} {p : Option Addr} (h : NoSlab w p) (hb : Below w.heap.size w w') : NoSlab w' p := by
  rcases h with h | ⟨g, h, hr⟩
  · exact .inl h
  · exact .inr ⟨g, h, hr.below hb hr.lt⟩
theorem slabs_none {p : Option Addr} {w : World} (h : NoSlab w p) : Calls Tryz.prog 43 #[.pointer p] w fun e w' => e = .returned (.int .i64 0) ∧ w = w' := by
  rcases h with rfl | ⟨g, rfl, hr⟩
  · go_enter Tryz.func43, Tryz.ntmps43
    go_wp2
    go_ret
    exact ⟨rfl, rfl⟩
  · have c0 := hr.cell 0
    simp only [List.getElem?_toArray, List.getElem?_cons_zero] at c0
    clear hr
    go_enter Tryz.func43, Tryz.ntmps43
    go_wp2
    go_ret
    exact ⟨rfl, rfl⟩
theorem slabs_at {w : World} {y : SLay} {hs : List Hd} {fs : Nat → List Nat} (h : SlabMem w y hs fs) : Calls Tryz.prog 43 #[fpt y.gs] w fun e w' => e = .returned (.int .i64 (hs.length : Int)) ∧ w = w' := by
  have c0 := h.field
  have hm := h.most
  obtain ⟨g, hg⟩ : ∃ g, g = y.gs := ⟨_, rfl⟩
  unfold fpt
  rw [← hg] at c0 ⊢
  generalize hs.length = n at *
  clear h hg
  go_enter Tryz.func43, Tryz.ntmps43
  go_wp2
  go_ret
  exact ⟨rfl, rfl⟩
theorem snone_none {p : Option Addr} {w : World} (h : NoSlab w p) : Calls Tryz.prog 46 #[.pointer p] w fun e w' => e = .returned (.bool true) ∧ w = w' := by
  have H := Lib.hid (slabs_none h)
  clear h
  go_enter Tryz.func46, Tryz.ntmps46
  go_wp2_with fail
  refine H.out.mono ?_
  rintro e w1 ⟨rfl, rfl⟩
  go_wp2
  go_ret
  exact ⟨rfl, rfl⟩
theorem snone_at {w : World} {y : SLay} {hs : List Hd} {fs : Nat → List Nat} (h : SlabMem w y hs fs) : Calls Tryz.prog 46 #[fpt y.gs] w fun e w' => e = .returned (.bool false) ∧ w = w' := by
  have H := Lib.hid (slabs_at h)
  have hp := h.pos
  have hz : ((hs.length : Int) == 0) = false := by rw [Bool.eq_false_iff]; intro k; have := beq_iff_eq.1 k; omega
  generalize hs.length = n at *
  clear h hp
  unfold fpt at H ⊢
  go_enter Tryz.func46, Tryz.ntmps46
  go_wp2_with fail
  refine H.out.mono ?_
  rintro e w1 ⟨rfl, rfl⟩
  go_wp2
  go_ret
  exact ⟨rfl, rfl⟩
theorem sClass_at {n : Int} {b : Bool} (hb : inB n 1 3 = b) (w : World) : Calls Tryz.prog 47 #[.int .i64 n] w fun e w' => e = .returned (.bool b) ∧ w = w' := by
  subst hb
  by_cases h0 : 1 ≤ n
  · have d1 : decide (1 ≤ n) = true := by simpa using h0
    by_cases h1 : n ≤ 3
    · rw [inB_yes ⟨h0, h1⟩]
      go_enter Tryz.func47, Tryz.ntmps47
      go_wp2
      go_ret
      exact ⟨rfl, rfl⟩
    · rw [inB_no (by omega)]
      have d2 : decide (n ≤ 3) = false := by simp; omega
      go_enter Tryz.func47, Tryz.ntmps47
      go_wp2
      go_ret
      exact ⟨rfl, rfl⟩
  · rw [inB_no (by omega)]
    have d2 : decide (1 ≤ n) = false := by simp; omega
    go_enter Tryz.func47, Tryz.ntmps47
    go_wp2
    go_ret
    exact ⟨rfl, rfl⟩
theorem sClient_at {n : Int} {b : Bool} (hb : inB n 0 64 = b) (w : World) : Calls Tryz.prog 98 #[.int .i64 n] w fun e w' => e = .returned (.bool b) ∧ w = w' := by
  subst hb
  by_cases h0 : 0 ≤ n
  · by_cases h1 : n ≤ 64
    · rw [inB_yes ⟨h0, h1⟩]
      go_enter Tryz.func98, Tryz.ntmps98
      go_wp2
      go_ret
      exact ⟨rfl, rfl⟩
    · rw [inB_no (by omega)]
      have d2 : decide (n ≤ 64) = false := by simp; omega
      go_enter Tryz.func98, Tryz.ntmps98
      go_wp2
      go_ret
      exact ⟨rfl, rfl⟩
  · rw [inB_no (by omega)]
    have d2 : decide (0 ≤ n) = false := by simp; omega
    go_enter Tryz.func98, Tryz.ntmps98
    go_wp2
    go_ret
    exact ⟨rfl, rfl⟩
/-- Where the block j of the slab begins whose header lies at g, from o on. -/
theorem at_any {w : World} {g o : Nat} {no c : Int} (h0 : w.cell? ⟨g, o, none⟩ = some (.int .i64 no)) (h1 : w.cell? ⟨g, o + 1, none⟩ = some (.int .i64 c)) (R : Rms w) (j : Int) :
    Calls Tryz.prog 85 #[.pointer (some ⟨g, o, none⟩), .int .i64 j] w fun e w' => e = .returned (.int .u64 (blkA no c j)) ∧ Below w.heap.size w w' := by
  have mixed : Tryz.prog.follows .mixedOrders = true := by kernel_rfl
  have HB := Lib.hid fun (p : LowBy w) => Calls.low_of_gr (block_any no c j p.W (by obtain ⟨t, h⟩ := R; exact ⟨t, p.heap h⟩))
  have ca := fun p : LowBy w => p.cell h0
  have cb := fun p : LowBy w => p.cell h1
  clear h0 h1 R
  go_enter Tryz.func85, Tryz.ntmps85
  go_wp2_with fail
  refine wp_region_quiet_low (by assumption) (by kernel_rfl) ?_
  repeat (go_big_quiet_step ((go_at_call 107; with_reducible exact HB.out _)))
  refine wpQuiet_nil ?_
  intro _ hw'
  obtain ⟨p, hw''⟩ := hw'
  subst hw''
  have hp := Lib.hid p.low
  go_wp2
  go_ret
  exact ⟨rfl, hp.out⟩
end Go.Proofs.YtahojhaeebmpoaaGreatDoor
/- find: the slab in which a block begins at an address, and which block it is; Is. -/
namespace Go.Proofs.YtahojhaeebmpoaaGreatDoor
open Go.RowKit Go.Sort
set_option linter.unusedVariables false
/-- Slabs are numbered as they lie, and have as many blocks as their class says. -/
def HsOk (hs : List Hd) : Prop := ∀ i x, hs[i]? = some x → x.no = i + 1 ∧ x.bl.length = blN x.cls
def Found (hs : List Hd) (a i j : Nat) : Prop := ∃ x, hs[i]? = some x ∧ j < x.bl.length ∧ adr x.no x.cls j = a
theorem found_lt {hs : List Hd} (ok : HsOk hs) (hm : hs.length ≤ 64) {a b i j i' j' : Nat} (h : Found hs a i j) (h' : Found hs b i' j') (hl : i < i' ∨ i = i' ∧ j < j') : a < b := by
  obtain ⟨x, hx, hj, rfl⟩ := h
  obtain ⟨x', hx', hj', rfl⟩ := h'
  have o := ok i x hx
  have o' := ok i' x' hx'
  have hi := (List.getElem?_eq_some_iff.1 hx).1
  rw [o.2] at hj
  rw [o'.2] at hj'
  rcases hl with hl | ⟨rfl, hl⟩
  · have := adr_le (no := x.no) (by omega) hj
    have h1 := blN_pos hj
    have h2 : 1024 * x'.no ≤ adr x'.no x'.cls j' := by unfold adr; omega
    omega
  · have : x = x' := Option.some.inj (hx.symm.trans hx')
    subst this
    have h1 := blN_pos hj
    unfold adr
    have : 64 * x.cls * j < 64 * x.cls * j' := Nat.mul_lt_mul_of_pos_left hl (by omega)
    omega
theorem found_one {hs : List Hd} (ok : HsOk hs) (hm : hs.length ≤ 64) {a i j i' j' : Nat} (h : Found hs a i j) (h' : Found hs a i' j') : i = i' ∧ j = j' := by
  by_cases h1 : i < i' ∨ i = i' ∧ j < j'
  · have := found_lt ok hm h h' h1; omega
  · by_cases h2 : i' < i ∨ i' = i ∧ j' < j
    · have := found_lt ok hm h' h h2; omega
    · omega
theorem found_range {hs : List Hd} (ok : HsOk hs) (hm : hs.length ≤ 64) {a i j : Nat} (h : Found hs a i j) : 1088 ≤ a ∧ a ≤ 66560 ∧ a % 64 = 0 := by
  obtain ⟨x, hx, hj, rfl⟩ := h
  have o := ok i x hx
  have hi := (List.getElem?_eq_some_iff.1 hx).1
  rw [o.2] at hj
  have := adr_le (no := x.no) (by omega) hj
  refine ⟨by unfold adr; omega, by omega, ?_⟩
  unfold adr
  rw [Nat.mul_assoc]
  omega
def FindPost (w : World) (y : SLay) (hs : List Hd) (a : Nat) (e : Ending) (w' : World) : Prop :=
  ((∃ i j, Found hs a i j ∧ e = .returned (.tuple #[.pointer (some ⟨y.gh, i * 4, none⟩), jv j])) ∨ ((∀ i j, ¬ Found hs a i j) ∧ e = .returned (.tuple #[.pointer none, .int .i64 0]))) ∧ Below w.heap.size w w'
def FindO (w : World) (hs : List Hd) (a n : Nat) (v : Value) (wr : World) : Prop := ∃ i : Nat, i ≤ n ∧ v = .int .i64 (i : Int) ∧ Below w.heap.size w wr ∧ ∀ i' j, i' < i → ¬ Found hs a i' j
def FindI (w : World) (hs : List Hd) (a i m : Nat) (v : Value) (wr : World) : Prop := ∃ j : Nat, j ≤ m ∧ v = .int .i64 (j : Int) ∧ Below w.heap.size w wr ∧ ∀ j', j' < j → ¬ Found hs a i j'
theorem find_none {p : Option Addr} {w : World} (h : NoSlab w p) (a : Int) : Calls Tryz.prog 45 #[.pointer p, .int .u64 a] w fun e w' => e = .returned (.tuple #[.pointer none, .int .i64 0]) ∧ w = w' := by
  have H := Lib.hid (slabs_none h)
  clear h
  go_enter Tryz.func45, Tryz.ntmps45
  go_wp2_with fail
  go_step3
  go_wp2_with fail
  go_step3
  go_wp2_with fail
  refine H.out.mono ?_
  rintro e w1 ⟨rfl, rfl⟩
  go_wp2
  go_loopw [12] (fun v wr => v = .int .i64 0 ∧ w = wr) (fun _ _ => 0)
  case atStart => exact ⟨rfl, rfl⟩
  case round =>
    obtain ⟨rfl, rfl⟩ := hrel
    go_wp2
    rw [Exit.noGoto_ret]
    go_ret2
    exact ⟨rfl, rfl⟩
set_option maxRecDepth 100000 in
set_option maxHeartbeats 1600000 in
theorem find_any {w : World} {y : SLay} {hs : List Hd} {fs : Nat → List Nat} (h : SlabMem w y hs fs) (ok : HsOk hs) (R : Rms w) (a : Nat) :
    Calls Tryz.prog 45 #[fpt y.gs, wv a] w (FindPost w y hs a) := by
  have HM := Lib.hid h
  have HR := Lib.hid R
  have HO := Lib.hid ok
  have hmost := h.most
  have HS := Lib.hid (slabs_at h)
  obtain ⟨n, hn⟩ : ∃ n, n = hs.length := ⟨_, rfl⟩
  rw [← hn] at HS hmost
  have HN := Lib.hid hn
  obtain ⟨gs, hgs⟩ : ∃ g, g = y.gs := ⟨_, rfl⟩
  obtain ⟨gh, hgh⟩ : ∃ g, g = y.gh := ⟨_, rfl⟩
  have HP := Lib.hid (show ∀ e w', ((∃ i j, Found hs a i j ∧ e = .returned (.tuple #[.pointer (some ⟨gh, i * 4, none⟩), jv j])) ∨ ((∀ i j, ¬ Found hs a i j) ∧ e = .returned (.tuple #[.pointer none, .int .i64 0]))) ∧ Below w.heap.size w w' → FindPost w y hs a e w' from fun e w' k => by rw [hgh] at k; exact k)
  have HC := Lib.hid (fun (W : World) (hb : Below w.heap.size w W) => (h.below hb).field)
  have HH := Lib.hid (fun (W : World) (hb : Below w.heap.size w W) (i : Nat) (x : Hd) (hx : hs[i]? = some x) => (h.below hb).head hx)
  unfold fpt at HS ⊢
  unfold wv
  rw [← hgs] at HS HC ⊢
  rw [← hgh] at HC HH
  rw [← hn] at HC
  clear h ok R hn hgs hgh
  go_enter Tryz.func45, Tryz.ntmps45
  go_wp2_with fail
  go_step3
  go_wp2_with fail
  go_step3
  go_wp2_with fail
  refine HS.out.mono ?_
  rintro e w1 ⟨rfl, rfl⟩
  go_wp2
  go_loopw [12] (fun v wr => FindO w hs a n v wr) (fun v _ => n - (intOf v).toNat)
  case atStart => exact ⟨0, by omega, rfl, Below.refl _ _, fun _ _ h => by omega⟩
  case round =>
    obtain ⟨i, hi, rfl, hb, hno⟩ := hrel
    rename World => wr
    have HB := Lib.hid hb
    have HNO := Lib.hid hno
    by_cases hlt : i < n
    · have hxe := List.getElem?_eq_getElem (l := hs) (i := i) (by rw [← HN.out]; exact hlt)
      obtain ⟨x, hx⟩ : ∃ x, hs[i]? = some x := ⟨_, hxe⟩
      have c0 := HC.out wr hb
      have c3 := (HH.out wr hb i x hx).2.2.2
      obtain ⟨ad, hsh⟩ := (HM.out.blk i x hx).shape
      rw [hsh] at c3
      have hl := (HM.out.lens x (List.mem_of_getElem? hx)).1
      have HX := Lib.hid hx
      have hno' := (HO.out i x hx).1
      have hbl := (HO.out i x hx).2
      obtain ⟨m, hm⟩ : ∃ m, m = x.bl.length := ⟨_, rfl⟩
      rw [← hm] at c3 hl hbl
      have HMM := Lib.hid hm
      have HNOX := Lib.hid hno'
      have HBL := Lib.hid hbl
      clear hb hno hxe hx hsh hm hno' hbl
      go_wp2
      go_loopw [26] (fun v wr2 => FindI w hs a i m v wr2) (fun v _ => m - (intOf v).toNat)
      case atStart => exact ⟨0, by omega, rfl, HB.out, fun _ h => by omega⟩
      case round =>
        obtain ⟨j, hj, rfl, hb2, hno2⟩ := hrel
        rename World => wr2
        clear c0 c3
        have HB2 := Lib.hid hb2
        have HNO2 := Lib.hid hno2
        by_cases hjt : j < m
        · have hf : Found hs (adr x.no x.cls j) i j := ⟨x, HX.out, by rw [← HMM.out]; exact hjt, rfl⟩
          have hr := found_range HO.out (by rw [← HN.out]; exact hmost) hf
          have HA := Lib.hid (at_any (HH.out wr2 hb2 i x HX.out).1 (HH.out wr2 hb2 i x HX.out).2.1 (HR.out.below hb2) (j : Int))
          rw [adr_blk (by rw [HNOX.out]; omega) (by rw [HNOX.out]; omega) (by rw [← HBL.out]; exact hjt)] at HA
          have HF := Lib.hid hf
          obtain ⟨A, hA⟩ : ∃ A, A = adr x.no x.cls j := ⟨_, rfl⟩
          rw [← hA] at HA HF hr
          clear hb2 hno2 hf hA
          by_cases he : A = a
          · subst he
            go_wp2_with fail
            refine HA.out.mono ?_
            rintro e w3 ⟨rfl, hb3⟩
            have HE := Lib.hid (Below.and HB2.out (hb3.mono (Nat.le_refl _)))
            clear hb3
            go_wp2
            rw [Exit.noGoto_ret]
            go_ret2
            refine HP.out _ _ ⟨.inl ⟨i, j, HF.out, rfl⟩, HE.out⟩
          · have hne : ((A : Int) == (a : Int)) = false := by rw [Bool.eq_false_iff]; intro k; have := beq_iff_eq.1 k; omega
            have hne2 : (A == a) = false := by simpa using he
            by_cases hgt : a < A
            · have hd : decide ((a : Int) < (A : Int)) = true := by simp; omega
              go_wp2_with fail
              refine HA.out.mono ?_
              rintro e w3 ⟨rfl, hb3⟩
              have HE := Lib.hid (Below.and HB2.out (hb3.mono (Nat.le_refl _)))
              have HZ := Lib.hid (show ∀ i' j', ¬ Found hs a i' j' from fun i' j' hf' => by
                by_cases h1 : i' < i
                · exact HNO.out i' j' h1 hf'
                · by_cases h2 : i' = i
                  · subst h2
                    by_cases h3 : j' < j
                    · exact HNO2.out j' h3 hf'
                    · by_cases h4 : j' = j
                      · subst h4
                        obtain ⟨x1, hx1, _, ha1⟩ := hf'
                        obtain ⟨x2, hx2, _, ha2⟩ := HF.out
                        rw [hx1] at hx2
                        cases hx2
                        omega
                      · have := found_lt HO.out (by rw [← HN.out]; exact hmost) HF.out hf' (.inr ⟨rfl, by omega⟩)
                        omega
                  · have := found_lt HO.out (by rw [← HN.out]; exact hmost) HF.out hf' (.inl (by omega))
                    omega)
              clear hb3
              go_wp2
              rw [Exit.noGoto_ret]
              go_ret2
              exact HP.out _ _ ⟨.inr ⟨HZ.out, rfl⟩, HE.out⟩
            · have hd : decide ((a : Int) < (A : Int)) = false := by simp; omega
              go_wp2_with fail
              refine HA.out.mono ?_
              rintro e w3 ⟨rfl, hb3⟩
              have HE := Lib.hid (Below.and HB2.out (hb3.mono (Nat.le_refl _)))
              clear hb3
              go_wp2
              go_roundw
              case rel => exact ⟨j + 1, by omega, by go_num, HE.out, fun j' hj' hf' => by
                by_cases h1 : j' < j
                · exact HNO2.out j' h1 hf'
                · obtain rfl : j' = j := by omega
                  obtain ⟨x1, hx1, _, ha1⟩ := hf'
                  obtain ⟨x2, hx2, _, ha2⟩ := HF.out
                  rw [hx1] at hx2
                  cases hx2
                  omega⟩
              case measure => simp [intOf]; omega
        · have hjm : j = m := by omega
          have HE := Lib.hid (show ∀ i' j', i' < i + 1 → ¬ Found hs a i' j' from fun i' j' h1 hf' => by
            by_cases h2 : i' < i
            · exact HNO.out i' j' h2 hf'
            · obtain rfl : i' = i := by omega
              refine HNO2.out j' ?_ hf'
              obtain ⟨x1, hx1, hj1, _⟩ := hf'
              rw [HX.out] at hx1
              cases hx1
              rw [hjm, HMM.out]
              exact hj1)
          clear hb2 hno2 hjm
          go_wp2
          go_roundw
          case rel => exact ⟨i + 1, by omega, by go_num, HB2.out, HE.out⟩
          case measure => simp [intOf]; omega
    · have hin : i = n := by omega
      have HZ := Lib.hid (show ∀ i' j', ¬ Found hs a i' j' from fun i' j' hf' => by
        refine HNO.out i' j' ?_ hf'
        obtain ⟨x1, hx1, _⟩ := hf'
        have := (List.getElem?_eq_some_iff.1 hx1).1
        rw [hin, HN.out]
        exact this)
      clear hb hno hin
      go_wp2
      rw [Exit.noGoto_ret]
      go_ret2
      exact HP.out _ _ ⟨.inr ⟨HZ.out, rfl⟩, HB.out⟩
end Go.Proofs.YtahojhaeebmpoaaGreatDoor
/- Class of a slab, of whatever number. -/
namespace Go.Proofs.YtahojhaeebmpoaaGreatDoor
open Go.RowKit
set_option linter.unusedVariables false
set_option maxRecDepth 100000 in
set_option maxHeartbeats 1600000 in
theorem class_at {w : World} {y : SLay} {hs : List Hd} {fs : Nat → List Nat} (h : SlabMem w y hs fs) {i : Nat} {x : Hd} (hx : hs[i]? = some x) :
    Calls Tryz.prog 12 #[fpt y.gs, .int .i64 ((i : Int) + 1)] w fun e w' => e = .returned (jv x.cls) ∧ w = w' := by
  have HS := Lib.hid (slabs_at h)
  have c0 := h.field
  obtain ⟨_, q1, _, _⟩ := h.head hx
  have hi := (List.getElem?_eq_some_iff.1 hx).1
  have hm := h.most
  obtain ⟨n, hn⟩ : ∃ n, n = hs.length := ⟨_, rfl⟩
  rw [← hn] at HS c0 hi hm
  obtain ⟨c, hc⟩ : ∃ c, c = x.cls := ⟨_, rfl⟩
  rw [← hc] at q1 ⊢
  obtain ⟨k, hk⟩ : ∃ k, k = i + 1 := ⟨_, rfl⟩
  have hkI : ((i : Int) + 1) = (k : Int) := by omega
  rw [hkI]
  have d0 : decide ((k : Int) < 1) = false := by simp; omega
  have d1 : decide ((n : Int) < (k : Int)) = false := by simp; omega
  have d1n : ¬ n < k := by omega
  have d0n : ¬ k < 1 := by omega
  have hs1 : (k : Int) - 1 = (i : Int) := by omega
  clear h hx hn hc hk hkI
  unfold jv at *
  unfold fpt at *
  go_enter Tryz.func12, Tryz.ntmps12
  go_wp2_with fail
  refine HS.out.mono ?_
  rintro e w1 ⟨rfl, rfl⟩
  go_wp2
  go_ret
  exact ⟨rfl, rfl⟩
set_option maxRecDepth 100000 in
set_option maxHeartbeats 1600000 in
theorem class_out {w : World} {y : SLay} {hs : List Hd} {fs : Nat → List Nat} (h : SlabMem w y hs fs) (n : Int) (hn : ¬ (1 ≤ n ∧ n ≤ (hs.length : Int))) :
    Calls Tryz.prog 12 #[fpt y.gs, .int .i64 n] w fun e w' => e = .returned (.int .i64 0) ∧ w = w' := by
  have HS := Lib.hid (slabs_at h)
  obtain ⟨k, hk⟩ : ∃ k, k = hs.length := ⟨_, rfl⟩
  rw [← hk] at HS hn
  clear h hk
  unfold fpt at *
  by_cases h1 : n < 1
  · have d0 : decide (n < 1) = true := by simpa using h1
    go_enter Tryz.func12, Tryz.ntmps12
    go_wp2
    go_ret
    exact ⟨rfl, rfl⟩
  · have d0 : decide (n < 1) = false := by simpa using h1
    have d1 : decide ((k : Int) < n) = true := by simp; omega
    go_enter Tryz.func12, Tryz.ntmps12
    go_wp2_with fail
    refine HS.out.mono ?_
    rintro e w1 ⟨rfl, rfl⟩
    go_wp2
    go_ret
    exact ⟨rfl, rfl⟩
end Go.Proofs.YtahojhaeebmpoaaGreatDoor
