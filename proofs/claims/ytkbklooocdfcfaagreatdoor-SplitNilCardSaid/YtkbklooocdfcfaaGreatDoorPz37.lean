/- Texts of this claim, packed: LSt, LAt, LFind, LMem, LLeave. -/
import Derived.Test.YtkbklooocdfcfaaGreatDoorPz02
import Derived.Test.YtkbklooocdfcfaaGreatDoorPz03
import Derived.Test.YtkbklooocdfcfaaGreatDoorPz28
import Derived.Test.YtkbklooocdfcfaaGreatDoorPz36
import Derived.Test.YtkbklooocdfcfaaGreatDoorPz17
import Derived.WalkMore
set_option linter.unusedVariables false
set_option maxRecDepth 100000
set_option maxHeartbeats 6400000
namespace Go.Proofs.YtkbklooocdfcfaaGreatDoor
open Go.RowKit Go.Sort
structure Hd where
 no : Nat
 cls : Nat
 bits : Nat
 bl : List Nat
def blN (c : Nat) : Nat := if c = 1 then 15 else if c = 2 then 7 else if c = 3 then 5 else 0
theorem blN_le (c : Nat) : blN c <= 15 := by unfold blN; split <;> (try split) <;> (try split) <;> omega
theorem blN_C (c : Nat) : blC (c : Int) = (blN c : Int) := by
 unfold blN blC
 by_cases h1 : c = 1
 ·subst h1; rfl
 ·by_cases h2 : c = 2
  ·subst h2; rfl
  ·by_cases h3 : c = 3
   ·subst h3; rfl
   ·rw [if_neg (by omega), if_neg (by omega), if_neg (by omega), if_neg h1, if_neg h2, if_neg h3]; rfl
def adr (no c j : Nat) : Nat := 1024 * no + 64 + 64 * c * j
theorem adr_blk {no c j : Nat} (h0 : 1 <= no) (h1 : no <= 64) (hj : j < blN c) : blkA (no : Int) (c : Int) (j : Int) = (adr no c j : Int) := by
 have hb := blN_C c
 rw [blkA_yes ⟨by omega, by omega, by omega, by omega⟩]
 unfold adr
 have hc : c = 1 \/ c = 2 \/ c = 3 := by
  unfold blN at hj
  by_cases h1 : c = 1
  ·exact .inl h1
  ·by_cases h2 : c = 2
   ·exact .inr (.inl h2)
   ·by_cases h3 : c = 3
    ·exact .inr (.inr h3)
    ·rw [if_neg h1, if_neg h2, if_neg h3] at hj; omega
 rcases hc with rfl | rfl | rfl
 ·show _ + 64 + (j : Int) * 64 = _; omega
 ·show _ + 64 + (j : Int) * 128 = _; omega
 ·show _ + 64 + (j : Int) * 192 = _; omega
theorem adr_le {no c j : Nat} (h1 : no <= 64) (hj : j < blN c) : adr no c j + 64 * c <= 1024 * no + 1024 := by
 unfold adr
 unfold blN at hj
 by_cases h1 : c = 1
 ·subst h1; rw [if_pos rfl] at hj; omega
 ·by_cases h2 : c = 2
  ·subst h2; rw [if_neg h1, if_pos rfl] at hj; omega
  ·by_cases h3 : c = 3
   ·subst h3; rw [if_neg h1, if_neg h2, if_pos rfl] at hj; omega
   ·rw [if_neg h1, if_neg h2, if_neg h3] at hj; omega
theorem blN_pos {c j : Nat} (hj : j < blN c) : 1 <= c /\ c <= 3 := by
 unfold blN at hj
 by_cases h1 : c = 1
 ·omega
 ·by_cases h2 : c = 2
  ·omega
  ·by_cases h3 : c = 3
   ·omega
   ·rw [if_neg h1, if_neg h2, if_neg h3] at hj; omega
def jv (n : Nat) : Value := .int .i64 (n : Int)
def Ints (w : World) (v : Value) (l : List Nat) : Prop := (v = .slice none 0 0 /\ l = []) \/ ∃ g, v = .slice (some ⟨g, 0, none⟩) l.length l.length /\ Row w g 3 (l.map jv).toArray
theorem Ints.keep {w w' : World} {v : Value} {l : List Nat} {fp : Nat -> Prop} (h : Ints w v l) (hb : But w w' fp) (hn : ∀ k, v.ownBlock = some k -> ¬ fp k) : Ints w' v l := by
 rcases h with h | ⟨g, rfl, hr⟩
 ·exact .inl h
 ·exact .inr ⟨g, rfl, hb.row hr (hn g rfl)⟩
theorem Ints.row {w : World} {v : Value} {l : List Nat} (h : Ints w v l) {g : Nat} (hg : v.ownBlock = some g) : Row w g 3 (l.map jv).toArray := by
 rcases h with ⟨rfl, _⟩ | ⟨g', rfl, hr⟩
 ·cases hg
 ·cases hg; exact hr
theorem Ints.pos {w : World} {v : Value} {l : List Nat} (h : Ints w v l) (h0 : 0 < l.length) : ∃ g, v = .slice (some ⟨g, 0, none⟩) l.length l.length /\ Row w g 3 (l.map jv).toArray := by
 rcases h with ⟨_, rfl⟩ | h
 ·cases h0
 ·exact h
theorem Ints.shape {w : World} {v : Value} {l : List Nat} (h : Ints w v l) : ∃ a, v = .slice a l.length l.length := by
 rcases h with ⟨rfl, rfl⟩ | ⟨g, rfl, _⟩
 ·exact ⟨_, rfl⟩
 ·exact ⟨_, rfl⟩
structure SLay where
 gs : Nat
 gh : Nat
 n : Nat
 bv : Nat -> Value
 gf : Nat -> Nat
 fv : Nat -> Value
def fpt (g : Nat) : Value := .pointer (some ⟨g, 0, none⟩)
def SLay.fp (y : SLay) (k : Nat) : Prop := k = y.gs \/ k = y.gh \/ (∃ c, c < 4 /\ ffp (y.gf c) (y.fv c) k) \/ ∃ i, i < y.n /\ (y.bv i).ownBlock = some k
def HCells (bv : Nat -> Value) (hs : List Hd) (cs : Array Value) : Prop :=
 cs.size = 4 * hs.length /\ ∀ i h, hs[i]? = some h -> cs[i * 4]? = some (jv h.no) /\ cs[i * 4 + 1]? = some (jv h.cls) /\ cs[i * 4 + 2]? = some (wv h.bits) /\ cs[i * 4 + 3]? = some (bv i)
structure SlabMem (w : World) (y : SLay) (hs : List Hd) (fs : Nat -> List Nat) : Prop where
 row : Row w y.gs 125 #[.slice (some ⟨y.gh, 0, none⟩) hs.length hs.length, fpt (y.gf 0), fpt (y.gf 1), fpt (y.gf 2), fpt (y.gf 3)]
 hdr : ∃ cs, Row w y.gh 129 cs /\ HCells y.bv hs cs
 blk : ∀ i h, hs[i]? = some h -> Ints w (y.bv i) h.bl
 bne : ∀ i j, i < hs.length -> j < hs.length -> i ≠ j -> ∀ g, (y.bv i).ownBlock = some g -> (y.bv j).ownBlock ≠ some g
 fre : ∀ c, c < 4 -> SetAt w (y.gf c) (fs c) (y.fv c)
 gne : ∀ c d, c < 4 -> d < 4 -> c ≠ d -> y.gf c ≠ y.gf d
 vne : ∀ c d, c < 4 -> d < 4 -> c ≠ d -> ∀ g, (y.fv c).ownBlock = some g -> (y.fv d).ownBlock ≠ some g
 len : y.n = hs.length
 pos : 0 < hs.length
 most : hs.length <= 64
 few : ∀ c, c < 4 -> (fs c).length <= 100000
 lens : ∀ h, h ∈ hs -> h.bl.length <= 15 /\ h.cls <= 3
structure STurn (w w' : World) (y y' : SLay) : Prop where
 gs : y'.gs = y.gs
 gh : y'.gh = y.gh
 gf : y'.gf = y.gf
 but : But w w' y.fp
 fp : ∀ k, y'.fp k -> y.fp k \/ w.heap.size <= k
theorem STurn.refl (w : World) (y : SLay) : STurn w w y y := ⟨rfl, rfl, rfl, But.refl w _, fun _ h => .inl h⟩
theorem STurn.trans {w w1 w2 : World} {y y1 y2 : SLay} (h : STurn w w1 y y1) (h2 : STurn w1 w2 y1 y2) : STurn w w2 y y2 :=
 ⟨h2.gs.trans h.gs, h2.gh.trans h.gh, h2.gf.trans h.gf, h.but.trans h2.but h.fp, fun k hk => by
  rcases h2.fp k hk with h3 | h3
  ·exact h.fp k h3
  ·exact .inr (Nat.le_trans h.but.size h3)⟩
theorem STurn.of_below {w w' : World} (y : SLay) (h : Below w.heap.size w w') : STurn w w' y y := ⟨rfl, rfl, rfl, But.of_below h _, fun _ h => .inl h⟩
def Tag (w : World) (k : Nat) (t : TypeId) : Prop := ∃ cs f, w.heap[k]? = some (.cells cs t f)
theorem Row.tag {w : World} {g : Nat} {t : TypeId} {cs : Array Value} (h : Row w g t cs) : Tag w g t := ⟨cs, _, h⟩
theorem Tag.same {w : World} {k : Nat} {t u : TypeId} (h : Tag w k t) (h2 : Tag w k u) : t = u := by
 obtain ⟨cs, f, h⟩ := h
 obtain ⟨cs2, f2, h2⟩ := h2
 rw [h] at h2
 cases h2
 rfl
theorem Adr.tag {w : World} {v : Value} {l : List Nat} (h : Adr w v l) {k : Nat} (hk : v.ownBlock = some k) : Tag w k 30 := by
 rcases h with ⟨rfl, _⟩ | ⟨b, off, cap, cur, rfl, hr, _⟩
 ·cases hk
 ·cases hk; exact hr.tag
theorem SetAt.tags {w : World} {g : Nat} {v : Value} {s : List Nat} (h : SetAt w g s v) : Tag w g 179 /\ ∀ k, v.ownBlock = some k -> Tag w k 30 := by
 obtain ⟨l, hF, _⟩ := h
 exact ⟨hF.1.tag, fun k hk => hF.2.1.tag hk⟩
section
variable {w w' : World} {y y' : SLay} {hs : List Hd} {fs : Nat -> List Nat}
theorem SlabMem.tag (h : SlabMem w y hs fs) {k : Nat} (hk : y.fp k) : Tag w k 125 \/ Tag w k 129 \/ Tag w k 179 \/ Tag w k 30 \/ Tag w k 3 := by
 rcases hk with rfl | rfl | ⟨c, hc, hk⟩ | ⟨i, hi, hk⟩
 ·exact .inl h.row.tag
 ·obtain ⟨cs, hr, _⟩ := h.hdr
  exact .inr (.inl hr.tag)
 ·rcases hk with rfl | hk
  ·exact .inr (.inr (.inl (h.fre c hc).tags.1))
  ·exact .inr (.inr (.inr (.inl ((h.fre c hc).tags.2 k hk))))
 ·rw [h.len] at hi
  exact .inr (.inr (.inr (.inr ((h.blk i _ (List.getElem?_eq_getElem hi)).row hk).tag)))
theorem SlabMem.lt (h : SlabMem w y hs fs) {k : Nat} (hk : y.fp k) : k < w.heap.size := by
 rcases h.tag hk with ⟨_, _, h⟩ | ⟨_, _, h⟩ | ⟨_, _, h⟩ | ⟨_, _, h⟩ | ⟨_, _, h⟩ <;> exact heap_lt h
theorem SlabMem.keep {p : Nat -> Prop} (h : SlabMem w y hs fs) (hb : But w w' p) (hn : ∀ k, y.fp k -> ¬ p k) : SlabMem w' y hs fs := by
 obtain ⟨cs, hr, hc⟩ := h.hdr
 exact { h with
  row := hb.row h.row (hn _ (.inl rfl))
  hdr := ⟨cs, hb.row hr (hn _ (.inr (.inl rfl))), hc⟩
  blk := fun i x hx => (h.blk i x hx).keep hb fun k hk => hn k (.inr (.inr (.inr ⟨i, by rw [h.len]; exact (List.getElem?_eq_some_iff.1 hx).1, hk⟩)))
  fre := fun c hc => (h.fre c hc).keep hb fun k hk => hn k (.inr (.inr (.inl ⟨c, hc, hk⟩))) }
theorem SlabMem.below (h : SlabMem w y hs fs) (hb : Below w.heap.size w w') : SlabMem w' y hs fs := h.keep (But.of_below hb (fun _ => False)) (fun _ _ h => h)
theorem SlabMem.gs_gh (h : SlabMem w y hs fs) : y.gs ≠ y.gh := by
 obtain ⟨cs, hr, _⟩ := h.hdr
 intro e
 have := h.row.tag.same (e ▸ hr.tag)
 revert this; decide
theorem SlabMem.field (h : SlabMem w y hs fs) : w.cell? ⟨y.gs, 0, none⟩ = some (.slice (some ⟨y.gh, 0, none⟩) hs.length hs.length) := h.row.cell 0
theorem SlabMem.set4 (h : SlabMem w y hs fs) {c : Nat} (hc : c < 4) : w.cell? ⟨y.gs, 1 + c, none⟩ = some (fpt (y.gf c)) := by
 rw [h.row.cell]
 match c, hc with
 | 0, _ => rfl
 | 1, _ => rfl
 | 2, _ => rfl
 | 3, _ => rfl
theorem SlabMem.head (h : SlabMem w y hs fs) {i : Nat} {x : Hd} (hx : hs[i]? = some x) :
  w.cell? ⟨y.gh, i * 4, none⟩ = some (jv x.no) /\ w.cell? ⟨y.gh, i * 4 + 1, none⟩ = some (jv x.cls) /\ w.cell? ⟨y.gh, i * 4 + 2, none⟩ = some (wv x.bits) /\ w.cell? ⟨y.gh, i * 4 + 3, none⟩ = some (y.bv i) := by
 obtain ⟨cs, hr, hc⟩ := h.hdr
 have := hc.2 i x hx
 refine ⟨?_, ?_, ?_, ?_⟩ <;> rw [hr.cell]
 ·exact this.1
 ·exact this.2.1
 ·exact this.2.2.1
 ·exact this.2.2.2
theorem SlabMem.hfree (h : SlabMem w y hs fs) (k : Nat) : w.frozen? ⟨y.gh, k, none⟩ = false := by
 obtain ⟨cs, hr, _⟩ := h.hdr
 exact hr.free k
end
def NoSlab (w : World) (p : Option Addr) : Prop := p = none \/ ∃ g, p = some ⟨g, 0, none⟩ /\ Row w g 125 #[.slice none 0 0, .pointer none, .pointer none, .pointer none, .pointer none]
theorem slabs_none {p : Option Addr} {w : World} (h : NoSlab w p) : Calls Tryz.prog 55 #[.pointer p] w fun e w' => e = .returned (.int .i64 0) /\ w = w' := by
 rcases h with rfl | ⟨g, rfl, hr⟩
 ·go_enter Tryz.func55, Tryz.ntmps55
  go_wp2
  go_ret
  exact ⟨rfl, rfl⟩
 ·have c0 := hr.cell 0
  simp only [List.getElem?_toArray, List.getElem?_cons_zero] at c0
  clear hr
  go_enter Tryz.func55, Tryz.ntmps55
  go_wp2
  go_ret
  exact ⟨rfl, rfl⟩
theorem slabs_at {w : World} {y : SLay} {hs : List Hd} {fs : Nat -> List Nat} (h : SlabMem w y hs fs) : Calls Tryz.prog 55 #[fpt y.gs] w fun e w' => e = .returned (.int .i64 (hs.length : Int)) /\ w = w' := by
 have c0 := h.field
 have hm := h.most
 obtain ⟨g, hg⟩ : ∃ g, g = y.gs := ⟨_, rfl⟩
 unfold fpt
 rw [<- hg] at c0 ⊢
 generalize hs.length = n at *
 clear h hg
 go_enter Tryz.func55, Tryz.ntmps55
 go_wp2
 go_ret
 exact ⟨rfl, rfl⟩
theorem snone_none {p : Option Addr} {w : World} (h : NoSlab w p) : Calls Tryz.prog 32 #[.pointer p] w fun e w' => e = .returned (.bool true) /\ w = w' := by
 have H := Lib.hid (slabs_none h)
 clear h
 go_enter Tryz.func32, Tryz.ntmps32
 go_wp2_with fail
 refine H.out.mono ?_
 rintro e w1 ⟨rfl, rfl⟩
 go_wp2
 go_ret
 exact ⟨rfl, rfl⟩
theorem snone_at {w : World} {y : SLay} {hs : List Hd} {fs : Nat -> List Nat} (h : SlabMem w y hs fs) : Calls Tryz.prog 32 #[fpt y.gs] w fun e w' => e = .returned (.bool false) /\ w = w' := by
 have H := Lib.hid (slabs_at h)
 have hp := h.pos
 have hz : ((hs.length : Int) == 0) = false := by rw [Bool.eq_false_iff]; intro k; have := beq_iff_eq.1 k; omega
 generalize hs.length = n at *
 clear h hp
 unfold fpt at H ⊢
 go_enter Tryz.func32, Tryz.ntmps32
 go_wp2_with fail
 refine H.out.mono ?_
 rintro e w1 ⟨rfl, rfl⟩
 go_wp2
 go_ret
 exact ⟨rfl, rfl⟩
theorem sClass_at {n : Int} {b : Bool} (hb : inB n 1 3 = b) (w : World) : Calls Tryz.prog 69 #[.int .i64 n] w fun e w' => e = .returned (.bool b) /\ w = w' := by
 subst hb
 by_cases h0 : 1 <= n
 ·have d1 : decide (1 <= n) = true := by simpa using h0
  by_cases h1 : n <= 3
  ·rw [inB_yes ⟨h0, h1⟩]
   go_enter Tryz.func69, Tryz.ntmps69
   go_wp2
   go_ret
   exact ⟨rfl, rfl⟩
  ·rw [inB_no (by omega)]
   have d2 : decide (n <= 3) = false := by simp; omega
   go_enter Tryz.func69, Tryz.ntmps69
   go_wp2
   go_ret
   exact ⟨rfl, rfl⟩
 ·rw [inB_no (by omega)]
  have d2 : decide (1 <= n) = false := by simp; omega
  go_enter Tryz.func69, Tryz.ntmps69
  go_wp2
  go_ret
  exact ⟨rfl, rfl⟩
theorem sClient_at {n : Int} {b : Bool} (hb : inB n 0 64 = b) (w : World) : Calls Tryz.prog 120 #[.int .i64 n] w fun e w' => e = .returned (.bool b) /\ w = w' := by
 subst hb
 by_cases h0 : 0 <= n
 ·by_cases h1 : n <= 64
  ·rw [inB_yes ⟨h0, h1⟩]
   go_enter Tryz.func120, Tryz.ntmps120
   go_wp2
   go_ret
   exact ⟨rfl, rfl⟩
  ·rw [inB_no (by omega)]
   have d2 : decide (n <= 64) = false := by simp; omega
   go_enter Tryz.func120, Tryz.ntmps120
   go_wp2
   go_ret
   exact ⟨rfl, rfl⟩
 ·rw [inB_no (by omega)]
  have d2 : decide (0 <= n) = false := by simp; omega
  go_enter Tryz.func120, Tryz.ntmps120
  go_wp2
  go_ret
  exact ⟨rfl, rfl⟩
theorem at_any {w : World} {g o : Nat} {no c : Int} (h0 : w.cell? ⟨g, o, none⟩ = some (.int .i64 no)) (h1 : w.cell? ⟨g, o + 1, none⟩ = some (.int .i64 c)) (R : Rms w) (j : Int) :
  Calls Tryz.prog 66 #[.pointer (some ⟨g, o, none⟩), .int .i64 j] w fun e w' => e = .returned (.int .u64 (blkA no c j)) /\ Below w.heap.size w w' := by
 have mixed : Tryz.prog.follows .mixedOrders = true := by kernel_rfl
 have HB := Lib.hid fun (p : LowBy w) => Calls.low_of_gr (block_any no c j p.W (by obtain ⟨t, h⟩ := R; exact ⟨t, p.heap h⟩))
 have ca := fun p : LowBy w => p.cell h0
 have cb := fun p : LowBy w => p.cell h1
 clear h0 h1 R
 go_enter Tryz.func66, Tryz.ntmps66
 go_wp2_with fail
 refine wp_region_quiet_low (by assumption) (by kernel_rfl) ?_
 repeat (go_big_quiet_step ((go_at_call 105; with_reducible exact HB.out _)))
 refine wpQuiet_nil ?_
 intro _ hw'
 obtain ⟨p, hw''⟩ := hw'
 subst hw''
 have hp := Lib.hid p.low
 go_wp2
 go_ret
 exact ⟨rfl, hp.out⟩
def HsOk (hs : List Hd) : Prop := ∀ i x, hs[i]? = some x -> x.no = i + 1 /\ x.bl.length = blN x.cls
def Found (hs : List Hd) (a i j : Nat) : Prop := ∃ x, hs[i]? = some x /\ j < x.bl.length /\ adr x.no x.cls j = a
theorem found_lt {hs : List Hd} (ok : HsOk hs) (hm : hs.length <= 64) {a b i j i' j' : Nat} (h : Found hs a i j) (h' : Found hs b i' j') (hl : i < i' \/ i = i' /\ j < j') : a < b := by
 obtain ⟨x, hx, hj, rfl⟩ := h
 obtain ⟨x', hx', hj', rfl⟩ := h'
 have o := ok i x hx
 have o' := ok i' x' hx'
 have hi := (List.getElem?_eq_some_iff.1 hx).1
 rw [o.2] at hj
 rw [o'.2] at hj'
 rcases hl with hl | ⟨rfl, hl⟩
 ·have := adr_le (no := x.no) (by omega) hj
  have h1 := blN_pos hj
  have h2 : 1024 * x'.no <= adr x'.no x'.cls j' := by unfold adr; omega
  omega
 ·have : x = x' := Option.some.inj (hx.symm.trans hx')
  subst this
  have h1 := blN_pos hj
  unfold adr
  have : 64 * x.cls * j < 64 * x.cls * j' := Nat.mul_lt_mul_of_pos_left hl (by omega)
  omega
theorem found_one {hs : List Hd} (ok : HsOk hs) (hm : hs.length <= 64) {a i j i' j' : Nat} (h : Found hs a i j) (h' : Found hs a i' j') : i = i' /\ j = j' := by
 by_cases h1 : i < i' \/ i = i' /\ j < j'
 ·have := found_lt ok hm h h' h1; omega
 ·by_cases h2 : i' < i \/ i' = i /\ j' < j
  ·have := found_lt ok hm h' h h2; omega
  ·omega
theorem found_range {hs : List Hd} (ok : HsOk hs) (hm : hs.length <= 64) {a i j : Nat} (h : Found hs a i j) : 1088 <= a /\ a <= 66560 /\ a % 64 = 0 := by
 obtain ⟨x, hx, hj, rfl⟩ := h
 have o := ok i x hx
 have hi := (List.getElem?_eq_some_iff.1 hx).1
 rw [o.2] at hj
 have := adr_le (no := x.no) (by omega) hj
 refine ⟨by unfold adr; omega, by omega, ?_⟩
 unfold adr
 rw [Nat.mul_assoc]
 omega
def FindPost (w : World) (y : SLay) (hs : List Hd) (a : Nat) (e : Ending) (w' : World) : Prop :=
 ((∃ i j, Found hs a i j /\ e = .returned (.tuple #[.pointer (some ⟨y.gh, i * 4, none⟩), jv j])) \/ ((∀ i j, ¬ Found hs a i j) /\ e = .returned (.tuple #[.pointer none, .int .i64 0]))) /\ Below w.heap.size w w'
def FindO (w : World) (hs : List Hd) (a n : Nat) (v : Value) (wr : World) : Prop := ∃ i : Nat, i <= n /\ v = .int .i64 (i : Int) /\ Below w.heap.size w wr /\ ∀ i' j, i' < i -> ¬ Found hs a i' j
def FindI (w : World) (hs : List Hd) (a i m : Nat) (v : Value) (wr : World) : Prop := ∃ j : Nat, j <= m /\ v = .int .i64 (j : Int) /\ Below w.heap.size w wr /\ ∀ j', j' < j -> ¬ Found hs a i j'
theorem find_any {w : World} {y : SLay} {hs : List Hd} {fs : Nat -> List Nat} (h : SlabMem w y hs fs) (ok : HsOk hs) (R : Rms w) (a : Nat) :
  Calls Tryz.prog 34 #[fpt y.gs, wv a] w (FindPost w y hs a) := by
 have HM := Lib.hid h
 have HR := Lib.hid R
 have HO := Lib.hid ok
 have hmost := h.most
 have HS := Lib.hid (slabs_at h)
 obtain ⟨n, hn⟩ : ∃ n, n = hs.length := ⟨_, rfl⟩
 rw [<- hn] at HS hmost
 have HN := Lib.hid hn
 obtain ⟨gs, hgs⟩ : ∃ g, g = y.gs := ⟨_, rfl⟩
 obtain ⟨gh, hgh⟩ : ∃ g, g = y.gh := ⟨_, rfl⟩
 have HP := Lib.hid (show ∀ e w', ((∃ i j, Found hs a i j /\ e = .returned (.tuple #[.pointer (some ⟨gh, i * 4, none⟩), jv j])) \/ ((∀ i j, ¬ Found hs a i j) /\ e = .returned (.tuple #[.pointer none, .int .i64 0]))) /\ Below w.heap.size w w' -> FindPost w y hs a e w' from fun e w' k => by rw [hgh] at k; exact k)
 have HC := Lib.hid (fun (W : World) (hb : Below w.heap.size w W) => (h.below hb).field)
 have HH := Lib.hid (fun (W : World) (hb : Below w.heap.size w W) (i : Nat) (x : Hd) (hx : hs[i]? = some x) => (h.below hb).head hx)
 unfold fpt at HS ⊢
 unfold wv
 rw [<- hgs] at HS HC ⊢
 rw [<- hgh] at HC HH
 rw [<- hn] at HC
 clear h ok R hn hgs hgh
 go_enter Tryz.func34, Tryz.ntmps34
 go_wp2_with fail
 go_step3
 go_wp2_with fail
 go_step3
 go_wp2_with fail
 refine HS.out.mono ?_
 rintro e w1 ⟨rfl, rfl⟩
 go_wp2
 go_loopw [12] (fun v wr => FindO w hs a n v wr) (fun v _ => n - (intOf v).toNat)
 case atStart => exact ⟨0, by omega, rfl, Below.refl _ _, fun _ _ h => by omega⟩
 case round =>
  obtain ⟨i, hi, rfl, hb, hno⟩ := hrel
  rename World => wr
  have HB := Lib.hid hb
  have HNO := Lib.hid hno
  by_cases hlt : i < n
  ·have hxe := List.getElem?_eq_getElem (l := hs) (i := i) (by rw [<- HN.out]; exact hlt)
   obtain ⟨x, hx⟩ : ∃ x, hs[i]? = some x := ⟨_, hxe⟩
   have c0 := HC.out wr hb
   have c3 := (HH.out wr hb i x hx).2.2.2
   obtain ⟨ad, hsh⟩ := (HM.out.blk i x hx).shape
   rw [hsh] at c3
   have hl := (HM.out.lens x (List.mem_of_getElem? hx)).1
   have HX := Lib.hid hx
   have hno' := (HO.out i x hx).1
   have hbl := (HO.out i x hx).2
   obtain ⟨m, hm⟩ : ∃ m, m = x.bl.length := ⟨_, rfl⟩
   rw [<- hm] at c3 hl hbl
   have HMM := Lib.hid hm
   have HNOX := Lib.hid hno'
   have HBL := Lib.hid hbl
   clear hb hno hxe hx hsh hm hno' hbl
   go_wp2
   go_loopw [26] (fun v wr2 => FindI w hs a i m v wr2) (fun v _ => m - (intOf v).toNat)
   case atStart => exact ⟨0, by omega, rfl, HB.out, fun _ h => by omega⟩
   case round =>
    obtain ⟨j, hj, rfl, hb2, hno2⟩ := hrel
    rename World => wr2
    clear c0 c3
    have HB2 := Lib.hid hb2
    have HNO2 := Lib.hid hno2
    by_cases hjt : j < m
    ·have hf : Found hs (adr x.no x.cls j) i j := ⟨x, HX.out, by rw [<- HMM.out]; exact hjt, rfl⟩
     have hr := found_range HO.out (by rw [<- HN.out]; exact hmost) hf
     have HA := Lib.hid (at_any (HH.out wr2 hb2 i x HX.out).1 (HH.out wr2 hb2 i x HX.out).2.1 (HR.out.below hb2) (j : Int))
     rw [adr_blk (by rw [HNOX.out]; omega) (by rw [HNOX.out]; omega) (by rw [<- HBL.out]; exact hjt)] at HA
     have HF := Lib.hid hf
     obtain ⟨A, hA⟩ : ∃ A, A = adr x.no x.cls j := ⟨_, rfl⟩
     rw [<- hA] at HA HF hr
     clear hb2 hno2 hf hA
     by_cases he : A = a
     ·subst he
      go_wp2_with fail
      refine HA.out.mono ?_
      rintro e w3 ⟨rfl, hb3⟩
      have HE := Lib.hid (Below.and HB2.out (hb3.mono (Nat.le_refl _)))
      clear hb3
      go_wp2
      rw [Exit.noGoto_ret]
      go_ret2
      refine HP.out _ _ ⟨.inl ⟨i, j, HF.out, rfl⟩, HE.out⟩
     ·have hne : ((A : Int) == (a : Int)) = false := by rw [Bool.eq_false_iff]; intro k; have := beq_iff_eq.1 k; omega
      have hne2 : (A == a) = false := by simpa using he
      by_cases hgt : a < A
      ·have hd : decide ((a : Int) < (A : Int)) = true := by simp; omega
       go_wp2_with fail
       refine HA.out.mono ?_
       rintro e w3 ⟨rfl, hb3⟩
       have HE := Lib.hid (Below.and HB2.out (hb3.mono (Nat.le_refl _)))
       have HZ := Lib.hid (show ∀ i' j', ¬ Found hs a i' j' from fun i' j' hf' => by
        by_cases h1 : i' < i
        ·exact HNO.out i' j' h1 hf'
        ·by_cases h2 : i' = i
         ·subst h2
          by_cases h3 : j' < j
          ·exact HNO2.out j' h3 hf'
          ·by_cases h4 : j' = j
           ·subst h4
            obtain ⟨x1, hx1, _, ha1⟩ := hf'
            obtain ⟨x2, hx2, _, ha2⟩ := HF.out
            rw [hx1] at hx2
            cases hx2
            omega
           ·have := found_lt HO.out (by rw [<- HN.out]; exact hmost) HF.out hf' (.inr ⟨rfl, by omega⟩)
            omega
         ·have := found_lt HO.out (by rw [<- HN.out]; exact hmost) HF.out hf' (.inl (by omega))
          omega)
       clear hb3
       go_wp2
       rw [Exit.noGoto_ret]
       go_ret2
       exact HP.out _ _ ⟨.inr ⟨HZ.out, rfl⟩, HE.out⟩
      ·have hd : decide ((a : Int) < (A : Int)) = false := by simp; omega
       go_wp2_with fail
       refine HA.out.mono ?_
       rintro e w3 ⟨rfl, hb3⟩
       have HE := Lib.hid (Below.and HB2.out (hb3.mono (Nat.le_refl _)))
       clear hb3
       go_wp2
       go_roundw
       case rel => exact ⟨j + 1, by omega, by go_num, HE.out, fun j' hj' hf' => by
        by_cases h1 : j' < j
        ·exact HNO2.out j' h1 hf'
        ·obtain rfl : j' = j := by omega
         obtain ⟨x1, hx1, _, ha1⟩ := hf'
         obtain ⟨x2, hx2, _, ha2⟩ := HF.out
         rw [hx1] at hx2
         cases hx2
         omega⟩
       case measure => simp [intOf]; omega
    ·have hjm : j = m := by omega
     have HE := Lib.hid (show ∀ i' j', i' < i + 1 -> ¬ Found hs a i' j' from fun i' j' h1 hf' => by
      by_cases h2 : i' < i
      ·exact HNO.out i' j' h2 hf'
      ·obtain rfl : i' = i := by omega
       refine HNO2.out j' ?_ hf'
       obtain ⟨x1, hx1, hj1, _⟩ := hf'
       rw [HX.out] at hx1
       cases hx1
       rw [hjm, HMM.out]
       exact hj1)
     clear hb2 hno2 hjm
     go_wp2
     go_roundw
     case rel => exact ⟨i + 1, by omega, by go_num, HB2.out, HE.out⟩
     case measure => simp [intOf]; omega
  ·have hin : i = n := by omega
   have HZ := Lib.hid (show ∀ i' j', ¬ Found hs a i' j' from fun i' j' hf' => by
    refine HNO.out i' j' ?_ hf'
    obtain ⟨x1, hx1, _⟩ := hf'
    have := (List.getElem?_eq_some_iff.1 hx1).1
    rw [hin, HN.out]
    exact this)
   clear hb hno hin
   go_wp2
   rw [Exit.noGoto_ret]
   go_ret2
   exact HP.out _ _ ⟨.inr ⟨HZ.out, rfl⟩, HB.out⟩
def updF {α : Type} (f : Nat -> α) (c : Nat) (v : α) : Nat -> α := fun d => if d = c then v else f d
theorem updF_at {α : Type} (f : Nat -> α) (c : Nat) (v : α) : updF f c v c = v := if_pos rfl
theorem updF_ne {α : Type} (f : Nat -> α) {c d : Nat} (v : α) (h : d ≠ c) : updF f c v d = f d := if_neg h
theorem updF_same {α : Type} (f : Nat -> α) (c : Nat) : updF f c (f c) = f := by
 funext d
 unfold updF
 split
 ·rename_i h; rw [h]
 ·rfl
theorem tagNe {w : World} {a b : Nat} {t u : TypeId} (h : Tag w a t) (h2 : Tag w b u) (hn : t ≠ u) : a ≠ b := by
 intro e
 subst e
 exact hn (h.same h2)
section
variable {w w' : World} {y : SLay} {hs : List Hd} {fs : Nat -> List Nat}
theorem HCells.same {bv : Nat -> Value} {cs : Array Value} (h : HCells bv hs cs) {i : Nat} {x x' : Hd} (hx : hs[i]? = some x) (h1 : x'.no = x.no) (h2 : x'.cls = x.cls) (h3 : x'.bits = x.bits) : HCells bv (hs.set i x') cs := by
 refine ⟨by rw [List.length_set]; exact h.1, fun k z hz => ?_⟩
 rw [List.getElem?_set] at hz
 by_cases e : i = k
 ·subst e
  have hl := (List.getElem?_eq_some_iff.1 hx).1
  rw [if_pos rfl, if_pos hl] at hz
  cases hz
  rw [h1, h2, h3]
  exact h.2 _ _ hx
 ·rw [if_neg e] at hz
  exact h.2 _ _ hz
theorem mem_set {i : Nat} {x' z : Hd} (hz : z ∈ hs.set i x') : z ∈ hs \/ z = x' := List.mem_or_eq_of_mem_set hz
theorem map_set (l : List Nat) (j v : Nat) : (l.map jv).toArray.setIfInBounds j (jv v) = ((l.set j v).map jv).toArray := by
 rw [List.setIfInBounds_toArray, List.map_set]
theorem SlabMem.put_bl (h : SlabMem w y hs fs) {i j : Nat} {x : Hd} (hx : hs[i]? = some x) {g : Nat} (hg : (y.bv i).ownBlock = some g) (v : Nat) :
  SlabMem (w.setCell ⟨g, j, none⟩ (jv v)) y (hs.set i { x with bl := x.bl.set j v }) fs /\ STurn w (w.setCell ⟨g, j, none⟩ (jv v)) y y := by
 have hil := (List.getElem?_eq_some_iff.1 hx).1
 have hgr := (h.blk i x hx).row hg
 have hfp : y.fp g := .inr (.inr (.inr ⟨i, by rw [h.len]; exact hil, hg⟩))
 have hbut : But w (w.setCell ⟨g, j, none⟩ (jv v)) (fun k => k = g) := (But.refl w (fun k => k = g)).set (p := ⟨g, j, none⟩) (by rfl) _
 obtain ⟨cs, hr, hc⟩ := h.hdr
 refine ⟨{ h with
  row := by rw [List.length_set]; exact hbut.row h.row (tagNe h.row.tag hgr.tag (by decide))
  hdr := ⟨cs, hbut.row hr (tagNe hr.tag hgr.tag (by decide)), hc.same hx rfl rfl rfl⟩
  blk := fun k z hz => ?_
  bne := by rw [List.length_set]; exact h.bne
  fre := fun c hc => (h.fre c hc).keep hbut fun k hk e => ?_
  len := by rw [List.length_set]; exact h.len
  pos := by rw [List.length_set]; exact h.pos
  most := by rw [List.length_set]; exact h.most
  lens := fun z hz => ?_ }, ⟨rfl, rfl, rfl, hbut.mono fun k e => e ▸ hfp, fun _ h => .inl h⟩⟩
 ·rw [List.getElem?_set] at hz
  by_cases e : i = k
  ·subst e
   rw [if_pos rfl, if_pos hil] at hz
   cases hz
   rcases h.blk i x hx with ⟨h0, _⟩ | ⟨g', h0, hr'⟩
   ·rw [h0] at hg; cases hg
   ·rw [h0] at hg
    cases hg
    refine .inr ⟨g', by rw [h0, List.length_set], ?_⟩
    rw [<- map_set]
    exact hr'.set j (jv v)
  ·rw [if_neg e] at hz
   refine (h.blk k z hz).keep hbut fun q hq eq => ?_
   subst eq
   exact h.bne i k hil (List.getElem?_eq_some_iff.1 hz).1 e q hg hq
 ·subst e
  rcases hk with rfl | hk
  ·exact tagNe (h.fre c hc).tags.1 hgr.tag (by decide) rfl
  ·exact tagNe ((h.fre c hc).tags.2 _ hk) hgr.tag (by decide) rfl
 ·rcases mem_set hz with h1 | rfl
  ·exact h.lens z h1
  ·have := h.lens x (List.mem_of_getElem? hx)
   exact ⟨by rw [List.length_set]; exact this.1, this.2⟩
theorem SlabMem.put_bits (h : SlabMem w y hs fs) {i : Nat} {x : Hd} (hx : hs[i]? = some x) (b : Nat) :
  SlabMem (w.setCell ⟨y.gh, i * 4 + 2, none⟩ (wv b)) y (hs.set i { x with bits := b }) fs /\ STurn w (w.setCell ⟨y.gh, i * 4 + 2, none⟩ (wv b)) y y := by
 have hil := (List.getElem?_eq_some_iff.1 hx).1
 obtain ⟨cs, hr, hc⟩ := h.hdr
 have hbut : But w (w.setCell ⟨y.gh, i * 4 + 2, none⟩ (wv b)) (fun k => k = y.gh) := (But.refl w (fun k => k = y.gh)).set (p := ⟨y.gh, i * 4 + 2, none⟩) (by rfl) _
 refine ⟨{ h with
  row := by rw [List.length_set]; exact hbut.row h.row h.gs_gh
  hdr := ⟨_, hr.set (i * 4 + 2) (wv b), by rw [Array.size_setIfInBounds, List.length_set]; exact hc.1, fun k z hz => ?_⟩
  blk := fun k z hz => ?_
  bne := by rw [List.length_set]; exact h.bne
  fre := fun c hc => (h.fre c hc).keep hbut fun k hk e => ?_
  len := by rw [List.length_set]; exact h.len
  pos := by rw [List.length_set]; exact h.pos
  most := by rw [List.length_set]; exact h.most
  lens := fun z hz => ?_ }, ⟨rfl, rfl, rfl, hbut.mono fun k e => .inr (.inl e), fun _ h => .inl h⟩⟩
 ·rw [List.getElem?_set] at hz
  have hsz := hc.1
  by_cases e : i = k
  ·subst e
   rw [if_pos rfl, if_pos hil] at hz
   cases hz
   obtain ⟨h0, h1, h2, h3⟩ := hc.2 i x hx
   refine ⟨?_, ?_, ?_, ?_⟩ <;> rw [Array.getElem?_setIfInBounds]
   ·rw [if_neg (by omega)]; exact h0
   ·rw [if_neg (by omega)]; exact h1
   ·rw [if_pos rfl, if_pos (by omega)]
   ·rw [if_neg (by omega)]; exact h3
  ·rw [if_neg e] at hz
   obtain ⟨h0, h1, h2, h3⟩ := hc.2 k z hz
   refine ⟨?_, ?_, ?_, ?_⟩ <;> rw [Array.getElem?_setIfInBounds, if_neg (by omega)]
   ·exact h0
   ·exact h1
   ·exact h2
   ·exact h3
 ·rw [List.getElem?_set] at hz
  by_cases e : i = k
  ·subst e
   rw [if_pos rfl, if_pos hil] at hz
   cases hz
   exact (h.blk i x hx).keep hbut fun q hq eq => tagNe ((h.blk i x hx).row hq).tag hr.tag (by decide) eq
  ·rw [if_neg e] at hz
   exact (h.blk k z hz).keep hbut fun q hq eq => tagNe ((h.blk k z hz).row hq).tag hr.tag (by decide) eq
 ·subst e
  rcases hk with e | hk
  ·exact tagNe (h.fre c hc).tags.1 hr.tag (by decide) e.symm
  ·exact tagNe ((h.fre c hc).tags.2 _ hk) hr.tag (by decide) rfl
 ·rcases mem_set hz with h1 | rfl
  ·exact h.lens z h1
  ·exact h.lens x (List.mem_of_getElem? hx)
theorem SlabMem.left (h : SlabMem w y hs fs) {c : Nat} (hc : c < 4) {s : List Nat} (hl : LeftSet w (y.gf c) (y.fv c) s w') (hs' : s.length <= 100000) :
  ∃ y', SlabMem w' y' hs (updF fs c s) /\ STurn w w' y y' := by
 obtain ⟨v', hS, hT⟩ := hl
 obtain ⟨cs, hr, hcs⟩ := h.hdr
 have tf := (h.fre c hc).tags
 have hn : ∀ {k : Nat} {t : TypeId}, Tag w k t -> t ≠ 179 -> t ≠ 30 -> ¬ ffp (y.gf c) (y.fv c) k := fun {k t} ht h1 h2 hk => by
  rcases hk with rfl | hk
  ·exact tagNe ht tf.1 h1 rfl
  ·exact tagNe ht (tf.2 k hk) h2 rfl
 refine ⟨{ y with fv := updF y.fv c v' }, { h with
  row := hT.1.row h.row (hn h.row.tag (by decide) (by decide))
  hdr := ⟨cs, hT.1.row hr (hn hr.tag (by decide) (by decide)), hcs⟩
  blk := fun k z hz => (h.blk k z hz).keep hT.1 fun q hq => hn ((h.blk k z hz).row hq).tag (by decide) (by decide)
  fre := fun d hd => ?_
  vne := fun d d' hd hd' hne g hg hg' => ?_
  few := fun d hd => ?_ }, ⟨rfl, rfl, rfl, hT.1.mono fun k hk => .inr (.inr (.inl ⟨c, hc, hk⟩)), fun k hk => ?_⟩⟩
 ·by_cases e : d = c
  ·subst e
   show SetAt w' (y.gf d) (updF fs d s d) (updF y.fv d v' d)
   rw [updF_at, updF_at]
   exact hS
  ·show SetAt w' (y.gf d) (updF fs c s d) (updF y.fv c v' d)
   rw [updF_ne _ _ e, updF_ne _ _ e]
   refine (h.fre d hd).keep hT.1 fun k hk hk2 => ?_
   have td := (h.fre d hd).tags
   rcases hk with rfl | hk
   ·rcases hk2 with e2 | hk2
    ·exact h.gne d c hd hc e e2
    ·exact tagNe td.1 (tf.2 _ hk2) (by decide) rfl
   ·rcases hk2 with rfl | hk2
    ·exact tagNe (td.2 _ hk) tf.1 (by decide) rfl
    ·exact h.vne d c hd hc e k hk hk2
 ·have hlt : ∀ d, d < 4 -> ∀ g, (y.fv d).ownBlock = some g -> g < w.heap.size := fun d hd g hg => (h.fre d hd).fp (.inr hg)
  have hg1 : (updF y.fv c v' d).ownBlock = some g := hg
  have hg2 : (updF y.fv c v' d').ownBlock = some g := hg'
  by_cases e : d = c
  ·subst e
   rw [updF_at] at hg1
   rw [updF_ne _ _ (Ne.symm hne)] at hg2
   rcases hT.2 g hg1 with h1 | h1
   ·exact h.vne d d' hd hd' hne g h1 hg2
   ·have := hlt d' hd' g hg2; omega
  ·rw [updF_ne _ _ e] at hg1
   by_cases e' : d' = c
   ·subst e'
    rw [updF_at] at hg2
    rcases hT.2 g hg2 with h1 | h1
    ·exact h.vne d d' hd hd' hne g hg1 h1
    ·have := hlt d hd g hg1; omega
   ·rw [updF_ne _ _ e'] at hg2
    exact h.vne d d' hd hd' hne g hg1 hg2
 ·by_cases e : d = c
  ·subst e; rw [updF_at]; exact hs'
  ·rw [updF_ne _ _ e]; exact h.few d hd
 ·rcases hk with rfl | rfl | ⟨d, hd, hk⟩ | hk
  ·exact .inl (.inl rfl)
  ·exact .inl (.inr (.inl rfl))
  ·by_cases e : d = c
   ·subst e
    rcases hk with rfl | hk
    ·exact .inl (.inr (.inr (.inl ⟨d, hd, .inl rfl⟩)))
    ·have hk' : (updF y.fv d v' d).ownBlock = some k := hk
     rw [updF_at] at hk'
     rcases hT.2 k hk' with h1 | h1
     ·exact .inl (.inr (.inr (.inl ⟨d, hd, .inr h1⟩)))
     ·exact .inr h1
   ·refine .inl (.inr (.inr (.inl ⟨d, hd, ?_⟩)))
    have hk' : ffp (y.gf d) (updF y.fv c v' d) k := hk
    rwa [updF_ne _ _ e] at hk'
  ·exact .inl (.inr (.inr (.inr hk)))
end
def isAt (hs : List Hd) (a : Nat) (v : Nat) : Prop := (∃ (i j : Nat) (x : Hd), hs[i]? = some x /\ j < x.bl.length /\ adr x.no x.cls j = a /\ x.bl[j]? = some v) \/ ((∀ i j, ¬ Found hs a i j) /\ v = 0)
def IsPost (w : World) (hs : List Hd) (a : Nat) (e : Ending) (w' : World) : Prop := (∃ v, isAt hs a v /\ e = .returned (jv v)) /\ Below w.heap.size w w'
theorem is_any {w : World} {y : SLay} {hs : List Hd} {fs : Nat -> List Nat} (h : SlabMem w y hs fs) (ok : HsOk hs) (R : Rms w) (a : Nat) :
  Calls Tryz.prog 33 #[fpt y.gs, wv a] w (IsPost w hs a) := by
 have HF := Lib.hid (find_any h ok R a)
 have HH := Lib.hid (fun (W : World) (hb : Below w.heap.size w W) (i : Nat) (x : Hd) (hx : hs[i]? = some x) => (h.below hb).head hx)
 have HI := Lib.hid (fun (W : World) (hb : Below w.heap.size w W) (i : Nat) (x : Hd) (hx : hs[i]? = some x) => (h.below hb).blk i x hx)
 have HL := Lib.hid h.lens
 clear h R ok
 unfold fpt wv at HF ⊢
 go_enter Tryz.func33, Tryz.ntmps33
 go_wp2_with fail
 refine HF.out.mono ?_
 rintro e w1 ⟨hf, hb⟩
 rcases hf with ⟨i, j, ⟨x, hx, hj, ha⟩, rfl⟩ | ⟨hn, rfl⟩
 ·have c3 := (HH.out w1 hb i x hx).2.2.2
  obtain ⟨g, hsh, hr⟩ := (HI.out w1 hb i x hx).pos (by omega)
  rw [hsh] at c3
  have cj := hr.cell j
  have hl := (HL.out x (List.mem_of_getElem? hx)).1
  have hg : x.bl[j]? = some (x.bl[j]) := List.getElem?_eq_getElem hj
  obtain ⟨v, hv⟩ : ∃ v, v = x.bl[j] := ⟨_, rfl⟩
  rw [<- hv] at hg
  rw [List.getElem?_toArray, List.getElem?_map, hg] at cj
  simp only [Option.map_some] at cj
  have HE := Lib.hid (show IsPost w hs a (.returned (jv v)) w1 from ⟨⟨v, .inl ⟨i, j, x, hx, hj, ha, hg⟩, rfl⟩, hb⟩)
  clear hb hx hr hsh hg hv ha HF HH HI HL
  generalize x.bl.length = m at *
  unfold jv at cj HE
  unfold jv
  go_wp2
  go_ret
  exact HE.out
 ·have HE := Lib.hid (show IsPost w hs a (.returned (jv 0)) w1 from ⟨⟨0, .inr ⟨hn, rfl⟩, rfl⟩, hb⟩)
  clear hb hn HF
  unfold jv at HE
  go_wp2
  go_ret
  exact HE.out
def ins (a : Nat) (s : List Nat) : List Nat := if a ∈ s then s else a :: s
theorem ins_len (a : Nat) (s : List Nat) : (ins a s).length <= s.length + 1 := by unfold ins; split <;> simp
def SPost (w : World) (y : SLay) (hs : List Hd) (fs : Nat -> List Nat) (v : Value) (e : Ending) (w' : World) : Prop := e = .returned v /\ ∃ y', SlabMem w' y' hs fs /\ STurn w w' y y'
def RS (w : World) (y : SLay) : Prop := Rms w /\ ¬ y.fp 0
theorem Rms.but {w w' : World} {p : Nat -> Prop} (R : Rms w) (h : But w w' p) (hn : ¬ p 0) : Rms w' := by
 obtain ⟨t, hR⟩ := R
 exact ⟨t, (h.block _ (heap_lt hR) hn).trans hR⟩
theorem RS.turn {w w' : World} {y y' : SLay} (R : RS w y) (t : STurn w w' y y') : RS w' y' := by
 refine ⟨R.1.but t.but R.2, fun h => ?_⟩
 obtain ⟨tt, hR⟩ := R.1
 rcases t.fp _ h with h1 | h1
 ·exact R.2 h1
 ·have := heap_lt hR; omega
theorem RS.below {w w' : World} {y : SLay} (R : RS w y) (h : Below w.heap.size w w') : RS w' y := R.turn (STurn.of_below y h)
theorem LowBy.rms {w : World} (R : Rms w) (p : LowBy w) : Rms p.W := R.below p.low
theorem leave_any {w : World} {y : SLay} {hs : List Hd} {fs : Nat -> List Nat} (h : SlabMem w y hs fs) (R : RS w y) {i j : Nat} {x : Hd} (hx : hs[i]? = some x) (hno : 1 <= x.no /\ x.no <= 64) (hj : j < x.bl.length) (hjb : j < blN x.cls) (hfew : (fs x.cls).length + 1 <= 100000) :
  Calls Tryz.prog 35 #[fpt y.gs, .pointer (some ⟨y.gh, i * 4, none⟩), jv j] w (SPost w y (hs.set i { x with bl := x.bl.set j 0 }) (updF fs x.cls (ins (adr x.no x.cls j) (fs x.cls))) (.tuple #[])) := by
 have mixed : Tryz.prog.follows .mixedOrders = true := by kernel_rfl
 have hil := (List.getElem?_eq_some_iff.1 hx).1
 have hcl := blN_pos hjb
 have hbl := (h.lens x (List.mem_of_getElem? hx)).1
 obtain ⟨g, hsh, hr⟩ := (h.blk i x hx).pos (by omega)
 have hg : (y.bv i).ownBlock = some g := by rw [hsh]; rfl
 obtain ⟨h1, t1⟩ := h.put_bl (j := j) hx hg 0
 have R1 := R.turn t1
 have c3 := (h.head hx).2.2.2
 rw [hsh] at c3
 have f3 := hr.free j
 have cj := hr.cell j
 rw [List.getElem?_toArray, List.getElem?_map, List.getElem?_eq_getElem hj, Option.map_some] at cj
 obtain ⟨u, hu⟩ : ∃ u, u = jv x.bl[j] := ⟨_, rfl⟩
 rw [<- hu] at cj
 clear hu
 obtain ⟨W0, hW0⟩ : ∃ W0, W0 = w.setCell ⟨g, j, none⟩ (.int .i64 0) := ⟨_, rfl⟩
 rw [show jv 0 = .int .i64 0 from rfl, <- hW0] at h1 t1 R1
 have hx1 : (hs.set i { x with bl := x.bl.set j 0 })[i]? = some { x with bl := x.bl.set j 0 } := by rw [List.getElem?_set, if_pos rfl, if_pos hil]
 have hd := h1.head hx1
 have d1 := h1.set4 (c := x.cls) (by omega)
 have ca := fun p : LowBy W0 => p.cell hd.2.1
 have cb := fun p : LowBy W0 => p.cell d1
 have ba := adr_blk hno.1 hno.2 hjb
 have HA := Lib.hid fun (p : LowBy W0) => Calls.low_of (at_any (p.cell hd.1) (p.cell hd.2.1) (LowBy.rms R1.1 p) (j : Int))
 rw [ba] at HA
 have hap : adr x.no x.cls j ≠ 0 := by unfold adr; omega
 have HP := Lib.hid fun (p : LowBy W0) => put_any ((h1.below p.low).fre x.cls (by omega)) (by have := h.few x.cls (by omega); omega) hap
 have HE := Lib.hid (show ∀ (p : LowBy W0) (w' : World), LeftSet p.W (y.gf x.cls) (y.fv x.cls) (ins (adr x.no x.cls j) (fs x.cls)) w' -> ∃ y', SlabMem w' y' (hs.set i { x with bl := x.bl.set j 0 }) (updF fs x.cls (ins (adr x.no x.cls j) (fs x.cls))) /\ STurn w w' y y' from fun p w' hl => by
  obtain ⟨y', h2, t2⟩ := (h1.below p.low).left (c := x.cls) (by omega) hl (by have := ins_len (adr x.no x.cls j) (fs x.cls); omega)
  exact ⟨y', h2, (t1.trans (STurn.of_below y p.low)).trans t2⟩)
 obtain ⟨A, hA⟩ : ∃ A, A = adr x.no x.cls j := ⟨_, rfl⟩
 rw [<- hA] at HA HP HE ⊢
 obtain ⟨gf, hgf⟩ : ∃ gf, gf = y.gf x.cls := ⟨_, rfl⟩
 rw [<- hgf] at HP HE cb
 obtain ⟨gs, hgs⟩ : ∃ gs, gs = y.gs := ⟨_, rfl⟩
 obtain ⟨gh, hgh⟩ : ∃ gh, gh = y.gh := ⟨_, rfl⟩
 rw [<- hgs] at cb ⊢
 rw [<- hgh] at ca HA c3 ⊢
 have hcl3 := hcl.2
 unfold jv fpt wv at *
 clear h h1 t1 R R1 hx hx1 hd d1 hr hg hsh hap hA hgf hgs hgh ba hno hjb
 generalize x.bl.length = m at *
 go_enter Tryz.func35, Tryz.ntmps35
 go_wp2_with fail
 rw [<- hW0]
 clear hW0
 refine wp_region_low_tail 12 (by assumption) (by kernel_rfl) ?_
 simp only [List.take_succ_cons, List.take_zero, List.drop_succ_cons, List.drop_zero]
 repeat (go_big_quiet_step ((go_at_call 66; with_reducible exact HA.out _)))
 refine wpQuiet_nil ?_
 intro _ hw'
 obtain ⟨p, hw''⟩ := hw'
 subst hw''
 go_wp2_with fail
 refine (HP.out p).mono ?_
 rintro e w2 ⟨rfl, hl⟩
 have HZ := Lib.hid (HE.out p w2 hl)
 clear hl
 go_wp2
 refine bodyPost_ret (results_none rfl _ _ _) rfl ?_
 exact ⟨rfl, HZ.out⟩
end Go.Proofs.YtkbklooocdfcfaaGreatDoor
