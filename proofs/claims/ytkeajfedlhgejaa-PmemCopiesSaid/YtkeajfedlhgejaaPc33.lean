/- Texts of this claim, packed: R2G3, R2G4. -/
import Derived.Test.YtkeajfedlhgejaaPc22
import Derived.Test.YtkeajfedlhgejaaPc31
import Derived.Test.YtkeajfedlhgejaaPc32
/- The game's place: both memories apart, what a call of the one leaves of the other and of the game; for memories of at most eight lines. -/
namespace Go.Proofs.Ytkeajfedlhgejaa
open Go Go.RowKit
set_option linter.unusedVariables false
theorem fp_ne {w : World} {y : Lay} {s : St} (h : MemAt w y s) {k : Nat} {t : TypeId} {cs : Array Value} (hr : Row w k t cs) (n1 : t ≠ 70) (n2 : t ≠ 34) (n3 : t ≠ 41) (n4 : t ≠ 47) : ¬ y.fp k := by
  intro hk
  have key : ∀ (u : TypeId) (ds : Array Value), w.heap[k]? = some (.cells ds u (0, 0)) → t ≠ u → False := fun u ds hd n => by
    rw [hr] at hd
    injection hd with hd
    injection hd with _ hd _
    exact n hd
  rcases hk with hk | hk | hk | hk | hk | ⟨j, v, hv, hk⟩
  · subst hk; exact key _ _ h.row n1
  · obtain ⟨cs, hc⟩ := own2_tg h.las (g := k) (by rw [hk]; rfl); exact key _ _ hc n2
  · obtain ⟨cs, hc⟩ := own2_tg h.vie (g := k) (by rw [hk]; rfl); exact key _ _ hc n2
  · obtain ⟨cs, hc⟩ := own2_tg h.pen (g := k) (by rw [hk]; rfl); exact key _ _ hc n3
  · subst hk
    obtain ⟨es, c, hm⟩ := h.marks.map
    rw [hr] at hm
    cases hm
  · obtain ⟨cur, hr2⟩ := ps_row h hv hk
    exact key _ _ hr2 n4
theorem fp2_ne {w : World} {g : Nat} {r : Rf} {vF vL : Value} {ms : List Value} (h2 : R2At w g r vF vL ms) {k : Nat} {t : TypeId} {cs : Array Value} (hr : Row w k t cs) (n1 : t ≠ 65) (n2 : t ≠ 5) (n3 : t ≠ 99) (n4 : t ≠ 3) : ¬ fp2 g vF vL ms k := by
  intro h3
  have key : ∀ (u : TypeId) (ds : Array Value), w.heap[k]? = some (.cells ds u (0, 0)) → t ≠ u → False := fun u ds hd n => by
    rw [hr] at hd
    injection hd with hd
    injection hd with _ hd _
    exact n hd
  rcases h3 with rfl | h3 | h3 | ⟨v, hv, h3⟩
  · exact key _ _ h2.row n1
  · obtain ⟨cs, hc⟩ := own2_tg h2.fi h3
    exact key _ _ hc n2
  · obtain ⟨cs, hc⟩ := own2_tg h2.li h3
    exact key _ _ hc n3
  · obtain ⟨i, hi⟩ := List.mem_iff_getElem?.1 hv
    have hl := (List.getElem?_eq_some_iff.1 hi).1
    obtain ⟨cs, hc⟩ := own2_tg (h2.mks i v _ hi (List.getElem?_eq_getElem (by rw [← h2.ml]; exact hl))) h3
    exact key _ _ hc n4
/-- The game in the block gg; the two memories need not say the same. -/
structure G3 (w : World) (gg : Nat) (y : Lay) (s : St) (g : Nat) (r : Rf) (vF vL : Value) (ms : List Value) : Prop where
  row : Row w gg 44 #[.pointer (some ⟨y.g, 0, none⟩), .pointer (some ⟨g, 0, none⟩)]
  m : MemAt w y s
  d : R2At w g r vF vL ms
theorem G3.g2 {w : World} {gg : Nat} {y : Lay} {s : St} {g : Nat} {r : Rf} {vF vL : Value} {ms : List Value} (h : G3 w gg y s g r vF vL ms) (hr : RelAt s r) : G2 w gg y s g r vF vL ms := ⟨h.row, h.m, h.d, hr⟩
theorem G3.below {w w' : World} {gg : Nat} {y : Lay} {s : St} {g : Nat} {r : Rf} {vF vL : Value} {ms : List Value} (h : G3 w gg y s g r vF vL ms) (hb : Below w.heap.size w w') : G3 w' gg y s g r vF vL ms :=
  ⟨h.row.below hb h.row.lt, h.m.below hb, h.d.below hb⟩
theorem G3.ng {w : World} {gg : Nat} {y : Lay} {s : St} {g : Nat} {r : Rf} {vF vL : Value} {ms : List Value} (h : G3 w gg y s g r vF vL ms) : ¬ y.fp gg := fp_ne h.m h.row (by decide) (by decide) (by decide) (by decide)
theorem G3.ng2 {w : World} {gg : Nat} {y : Lay} {s : St} {g : Nat} {r : Rf} {vF vL : Value} {ms : List Value} (h : G3 w gg y s g r vF vL ms) : ¬ fp2 g vF vL ms gg := fp2_ne h.d h.row (by decide) (by decide) (by decide) (by decide)
theorem G3.turn {w w' : World} {gg : Nat} {y y' : Lay} {s s' : St} {g : Nat} {r : Rf} {vF vL : Value} {ms : List Value} (h : G3 w gg y s g r vF vL ms) (hm : MemAt w' y' s') (ht : Turn w w' y y') : G3 w' gg y' s' g r vF vL ms :=
  ⟨by rw [ht.g]; exact ht.but.row h.row h.ng, hm, h.d.same fun k hk => ht.but.block k (h.d.lt k hk) (fun hf => apart2 h.m h.d k hf hk)⟩
theorem G3.turn2 {w w' : World} {gg : Nat} {y : Lay} {s : St} {g : Nat} {r r' : Rf} {vF vL vF' vL' : Value} {ms ms' : List Value} (h : G3 w gg y s g r vF vL ms) (hd : R2At w' g r' vF' vL' ms') (ht : Tn2 w w' g vF vL ms vF' vL' ms') : G3 w' gg y s g r' vF' vL' ms' :=
  ⟨ht.but.row h.row h.ng2, h.m.but ht.but fun k hk => apart2 h.m h.d k hk, hd⟩
/-- All of it is new since B. -/
structure Nw (B gg : Nat) (y : Lay) (g : Nat) (vF vL : Value) (ms : List Value) : Prop where
  gg : B ≤ gg
  m : ∀ k, y.fp k → B ≤ k
  d : ∀ k, fp2 g vF vL ms k → B ≤ k
theorem Nw.turn {B gg g : Nat} {w w' : World} {y y' : Lay} {vF vL : Value} {ms : List Value} (h : Nw B gg y g vF vL ms) (hB : B ≤ w.heap.size) (ht : Turn w w' y y') : Nw B gg y' g vF vL ms ∧ Below B w w' :=
  ⟨⟨h.gg, fun k hk => by rcases ht.fp k hk with q | q; exact h.m k q; omega, h.d⟩, ht.but.below hB h.m⟩
theorem Nw.turn2 {B gg g : Nat} {w w' : World} {y : Lay} {vF vL vF' vL' : Value} {ms ms' : List Value} (h : Nw B gg y g vF vL ms) (hB : B ≤ w.heap.size) (ht : Tn2 w w' g vF vL ms vF' vL' ms') : Nw B gg y g vF' vL' ms' ∧ Below B w w' :=
  ⟨⟨h.gg, h.m, fun k hk => by rcases ht.fp k hk with q | q; exact h.d k q; omega⟩, ht.but.below hB h.d⟩
/-- The game, new since B. -/
def GS (B : Nat) (w : World) (gg : Nat) (s : St) (r : Rf) : Prop := ∃ y g vF vL ms, G3 w gg y s g r vF vL ms ∧ Nw B gg y g vF vL ms
structure GA (B : Nat) (w : World) (gg : Nat) (s : St) (r : Rf) (m : Nat) : Prop where
  gs : GS B w gg s r
  rel : RelAt s r
  sm : Sm2 r m
theorem GS.lt {B : Nat} {w : World} {gg : Nat} {s : St} {r : Rf} (h : GS B w gg s r) : B ≤ w.heap.size := by
  obtain ⟨y, g, vF, vL, ms, h3, hn⟩ := h
  have := h3.row.lt
  have := hn.gg
  omega
theorem GS.below {B : Nat} {w w' : World} {gg : Nat} {s : St} {r : Rf} (h : GS B w gg s r) (hb : Below w.heap.size w w') : GS B w' gg s r := by
  obtain ⟨y, g, vF, vL, ms, h3, hn⟩ := h
  exact ⟨y, g, vF, vL, ms, h3.below hb, hn⟩
theorem GA.below {B : Nat} {w w' : World} {gg : Nat} {s : St} {r : Rf} {m : Nat} (h : GA B w gg s r m) (hb : Below w.heap.size w w') : GA B w' gg s r m := ⟨h.gs.below hb, h.rel, h.sm⟩
theorem GA.mono {B : Nat} {w : World} {gg : Nat} {s : St} {r : Rf} {m n : Nat} (h : GA B w gg s r m) (hn : m ≤ n) : GA B w gg s r n := ⟨h.gs, h.rel, h.sm.mono hn⟩
theorem belowB {B C : Nat} {w w' : World} (h : Below B w w') (hC : C ≤ B) : Below C w w' := ⟨h.os, h.tape, h.output, h.size, fun k hk => h.block k (by omega)⟩
theorem belowT {B : Nat} {w w1 w2 : World} (h : Below B w w1) (h2 : Below B w1 w2) : Below B w w2 := ⟨h2.os.trans h.os, h2.tape.trans h.tape, h2.output.trans h.output, Nat.le_trans h.size h2.size, fun k hk => (h2.block k hk).trans (h.block k hk)⟩
/-- Blocks of a set are left as they were. -/
structure KeepP (P : Nat → Prop) (w w' : World) : Prop where
  os : w'.os = w.os
  tape : w'.tape = w.tape
  output : w'.output = w.output
  size : w.heap.size ≤ w'.heap.size
  block : ∀ k, P k → w'.heap[k]? = w.heap[k]?
theorem KeepP.trans {P : Nat → Prop} {w w1 w2 : World} (h : KeepP P w w1) (h2 : KeepP P w1 w2) : KeepP P w w2 := ⟨h2.os.trans h.os, h2.tape.trans h.tape, h2.output.trans h.output, Nat.le_trans h.size h2.size, fun k hk => (h2.block k hk).trans (h.block k hk)⟩
theorem KeepP.of_below {P : Nat → Prop} {w w' : World} (h : Below w.heap.size w w') (hl : ∀ k, P k → k < w.heap.size) : KeepP P w w' := ⟨h.os, h.tape, h.output, h.size, fun k hk => h.block k (hl k hk)⟩
theorem KeepP.of_but {P : Nat → Prop} {w w' : World} {fp : Nat → Prop} (h : But w w' fp) (hl : ∀ k, P k → k < w.heap.size) (hn : ∀ k, fp k → ¬ P k) : KeepP P w w' := ⟨h.os, h.tape, h.output, h.size, fun k hk => h.block k (hl k hk) (fun q => hn k q hk)⟩
theorem keepB {B : Nat} {w w' : World} (h : Below B w w') : KeepP (fun k => k < B) w w' := ⟨h.os, h.tape, h.output, h.size, fun k hk => h.block k hk⟩
theorem KeepP.below {B : Nat} {w w' : World} (h : KeepP (fun k => k < B) w w') : Below B w w' := ⟨h.os, h.tape, h.output, h.size, fun k hk => h.block k hk⟩
/-- None of it is of a set. -/
structure NwP (P : Nat → Prop) (gg : Nat) (y : Lay) (g : Nat) (vF vL : Value) (ms : List Value) : Prop where
  gg : ¬ P gg
  m : ∀ k, y.fp k → ¬ P k
  d : ∀ k, fp2 g vF vL ms k → ¬ P k
theorem NwP.turn {P : Nat → Prop} {gg g : Nat} {w w' : World} {y y' : Lay} {vF vL : Value} {ms : List Value} (h : NwP P gg y g vF vL ms) (hl : ∀ k, P k → k < w.heap.size) (ht : Turn w w' y y') : NwP P gg y' g vF vL ms ∧ KeepP P w w' :=
  ⟨⟨h.gg, fun k hk hp => by rcases ht.fp k hk with q | q; exact h.m k q hp; have := hl k hp; omega, h.d⟩, KeepP.of_but ht.but hl h.m⟩
theorem NwP.turn2 {P : Nat → Prop} {gg g : Nat} {w w' : World} {y : Lay} {vF vL vF' vL' : Value} {ms ms' : List Value} (h : NwP P gg y g vF vL ms) (hl : ∀ k, P k → k < w.heap.size) (ht : Tn2 w w' g vF vL ms vF' vL' ms') : NwP P gg y g vF' vL' ms' ∧ KeepP P w w' :=
  ⟨⟨h.gg, h.m, fun k hk hp => by rcases ht.fp k hk with q | q; exact h.d k q hp; have := hl k hp; omega⟩, KeepP.of_but ht.but hl h.d⟩
/-- The game, apart from a set of blocks that are there. -/
def GSP (P : Nat → Prop) (w : World) (gg : Nat) (s : St) (r : Rf) : Prop := ∃ y g vF vL ms, G3 w gg y s g r vF vL ms ∧ NwP P gg y g vF vL ms ∧ ∀ k, P k → k < w.heap.size
theorem GS.toP {B : Nat} {w : World} {gg : Nat} {s : St} {r : Rf} (h : GS B w gg s r) : GSP (fun k => k < B) w gg s r := by
  have hl := h.lt
  obtain ⟨y, g, vF, vL, ms, h3, hn⟩ := h
  exact ⟨y, g, vF, vL, ms, h3, ⟨by have := hn.gg; omega, fun k hk => by have := hn.m k hk; omega, fun k hk => by have := hn.d k hk; omega⟩, fun k hk => by omega⟩
theorem GSP.toB {B : Nat} {w : World} {gg : Nat} {s : St} {r : Rf} (h : GSP (fun k => k < B) w gg s r) : GS B w gg s r := by
  obtain ⟨y, g, vF, vL, ms, h3, hn, hl⟩ := h
  exact ⟨y, g, vF, vL, ms, h3, ⟨by have := hn.gg; omega, fun k hk => by have := hn.m k hk; omega, fun k hk => by have := hn.d k hk; omega⟩⟩
theorem GSP.below {P : Nat → Prop} {w w' : World} {gg : Nat} {s : St} {r : Rf} (h : GSP P w gg s r) (hb : Below w.heap.size w w') : GSP P w' gg s r := by
  obtain ⟨y, g, vF, vL, ms, h3, hn, hl⟩ := h
  exact ⟨y, g, vF, vL, ms, h3.below hb, hn, fun k hk => Nat.lt_of_lt_of_le (hl k hk) hb.size⟩
end Go.Proofs.Ytkeajfedlhgejaa
/- The game and an act beside it; what both memories answer of an address, pending; for memories of at most eight lines. -/
namespace Go.Proofs.Ytkeajfedlhgejaa
open Go Go.RowKit
set_option linter.unusedVariables false
/-- What game.do reads of its own: the game's two cells, the act's six. -/
def SG (gg ab yg g : Nat) (k c : Int) (a v : Nat) (n : Int) (ks : Value) (W : World) : Prop :=
  W.cell? ⟨gg, 0, none⟩ = some (.pointer (some ⟨yg, 0, none⟩)) ∧ W.cell? ⟨gg, 1, none⟩ = some (.pointer (some ⟨g, 0, none⟩)) ∧ W.cell? ⟨ab, 0, none⟩ = some (.int .i64 k) ∧ W.cell? ⟨ab, 1, none⟩ = some (.int .i64 c) ∧ W.cell? ⟨ab, 2, none⟩ = some (.int .u64 (a : Int)) ∧ W.cell? ⟨ab, 3, none⟩ = some (.int .u64 (v : Int)) ∧ W.cell? ⟨ab, 4, none⟩ = some (.int .i64 n) ∧ W.cell? ⟨ab, 5, none⟩ = some ks
structure G4 (w : World) (gg ab : Nat) (k c : Int) (a v : Nat) (n : Int) (ks : Value) (y : Lay) (s : St) (g : Nat) (r : Rf) (vF vL : Value) (ms : List Value) : Prop where
  g3 : G3 w gg y s g r vF vL ms
  row : Row w ab 38 #[.int .i64 k, .int .i64 c, .int .u64 (a : Int), .int .u64 (v : Int), .int .i64 n, ks]
section
variable {w w' : World} {gg ab : Nat} {k c : Int} {a v : Nat} {n : Int} {ks : Value} {y y' : Lay} {s s' : St} {g : Nat} {r r' : Rf} {vF vL vF' vL' : Value} {ms ms' : List Value}
theorem G4.sg (h : G4 w gg ab k c a v n ks y s g r vF vL ms) : SG gg ab y.g g k c a v n ks w := by
  have h0 := h.g3.row.cell 0
  have h1 := h.g3.row.cell 1
  have a0 := h.row.cell 0
  have a1 := h.row.cell 1
  have a2 := h.row.cell 2
  have a3 := h.row.cell 3
  have a4 := h.row.cell 4
  have a5 := h.row.cell 5
  simp only [List.getElem?_toArray, List.getElem?_cons_zero, List.getElem?_cons_succ] at h0 h1 a0 a1 a2 a3 a4 a5
  exact ⟨h0, h1, a0, a1, a2, a3, a4, a5⟩
theorem G4.below (h : G4 w gg ab k c a v n ks y s g r vF vL ms) (hb : Below w.heap.size w w') : G4 w' gg ab k c a v n ks y s g r vF vL ms := ⟨h.g3.below hb, h.row.below hb h.row.lt⟩
theorem G4.turn (h : G4 w gg ab k c a v n ks y s g r vF vL ms) (hm : MemAt w' y' s') (ht : Turn w w' y y') : G4 w' gg ab k c a v n ks y' s' g r vF vL ms :=
  ⟨h.g3.turn hm ht, ht.but.row h.row (fp_ne h.g3.m h.row (by decide) (by decide) (by decide) (by decide))⟩
theorem G4.turn2 (h : G4 w gg ab k c a v n ks y s g r vF vL ms) (hd : R2At w' g r' vF' vL' ms') (ht : Tn2 w w' g vF vL ms vF' vL' ms') : G4 w' gg ab k c a v n ks y s g r' vF' vL' ms' :=
  ⟨h.g3.turn2 hd ht, ht.but.row h.row (fp2_ne h.g3.d h.row (by decide) (by decide) (by decide) (by decide))⟩
theorem G4.new (h : G3 w gg y s g r vF vL ms) (k c : Int) (a v : Nat) (n : Int) (ks : Value) : G4 (w.alloc (.cells #[.int .i64 k, .int .i64 c, .int .u64 (a : Int), .int .u64 (v : Int), .int .i64 n, ks] 38)) gg w.heap.size k c a v n ks y s g r vF vL ms :=
  ⟨h.below (alloc_below _ _), Row.new _ _ _⟩
theorem G4.drew (h : G4 w gg ab k c a v n ks y s g r vF vL ms) : G4 w.drew gg ab k c a v n ks y s g r vF vL ms := h.below (drew_below _)
end
/-- What a call of the program's memory does. -/
def PC (f : Nat) (s : St) (args : List Value) (V : Value) (s' : St) : Prop := ∀ (W : World) (y : Lay), MemAt W y s → Calls Try.prog f (.pointer (some ⟨y.g, 0, none⟩) :: args).toArray W fun e W' => e = .returned V ∧ ∃ y', MemAt W' y' s' ∧ Turn W W' y y'
/-- What a call of the document's memory does. -/
def RC (f : Nat) (r : Rf) (args : List Value) (V : Value) (r' : Rf) : Prop := ∀ (W : World) (g : Nat) (vF vL : Value) (ms : List Value), R2At W g r vF vL ms → Calls Try.prog f (.pointer (some ⟨g, 0, none⟩) :: args).toArray W fun e W' => e = .returned V ∧ P2 W g vF vL ms r' W'
theorem PC.same {f : Nat} {s : St} {args : List Value} {V : Value} (h : ∀ (W : World) (y : Lay), MemAt W y s → Calls Try.prog f (.pointer (some ⟨y.g, 0, none⟩) :: args).toArray W fun e W' => e = .returned V ∧ W = W') : PC f s args V s := fun W y hm => (h W y hm).mono (by rintro e W' ⟨rfl, rfl⟩; exact ⟨rfl, y, hm, Turn.refl _ _⟩)
theorem RC.same {f : Nat} {r : Rf} {args : List Value} {V : Value} (h : ∀ (W : World) (g : Nat) (vF vL : Value) (ms : List Value), R2At W g r vF vL ms → Calls Try.prog f (.pointer (some ⟨g, 0, none⟩) :: args).toArray W fun e W' => e = .returned V ∧ W = W') : RC f r args V r := fun W g vF vL ms hm => (h W g vF vL ms hm).mono (by rintro e W' ⟨rfl, rfl⟩; exact ⟨rfl, vF, vL, ms, hm, Tn2.refl _ _ _ _ _⟩)
/-- Pending of both. -/
theorem pendP {w : World} {y : Lay} {s : St} {r : Rf} (h : MemAt w y s) (hr : RelAt s r) (a : Nat) : Calls Try.prog 19 #[.pointer (some ⟨y.g, 0, none⟩), .int .u64 (a : Int)] w fun e w' => e = .returned (.int .i64 (pcnt r a : Int)) ∧ Below w.heap.size w w' := by
  by_cases hb : a % 8 = 0 ∧ a < 64 * s.nl
  · refine (pending_ok h a hb.1 hb.2).mono ?_
    rintro e w' ⟨rfl, n, rfl⟩
    refine ⟨?_, drewN_below _ _⟩
    rw [pcnt, hr.nl, if_pos hb, hr.pcount _ (by omega)]
  · refine (pending_range h a (by omega)).mono ?_
    rintro e w' ⟨rfl, rfl⟩
    refine ⟨?_, Below.refl _ _⟩
    rw [pcnt, hr.nl, if_neg hb]
    rfl
theorem pendR {w : World} {g : Nat} {s : St} {r : Rf} {vF vL : Value} {ms : List Value} (h : R2At w g r vF vL ms) (hr : RelAt s r) (hnl : s.nl ≤ 8) (a : Nat) (ha : a < 18446744073709551616) : Calls Try.prog 35 #[.pointer (some ⟨g, 0, none⟩), .int .u64 (a : Int)] w fun e w' => e = .returned (.int .i64 (pcnt r a : Int)) ∧ Below w.heap.size w w' :=
  (r2Pending_any h a (by rw [hr.nl]; omega) ha (fun x hx => by have := (hr.ad x hx).2.1; omega)).mono (by rintro e w' ⟨rfl, rfl⟩; exact ⟨rfl, Below.refl _ _⟩)
/-- What game.do leaves. -/
def DoPost2 (P : Nat → Prop) (gg : Nat) (s' : St) (r' : Rf) (w : World) (e : Ending) (w' : World) : Prop := e = .returned (.bool true) ∧ GSP P w' gg s' r' ∧ KeepP P w w'
/-- The game and the act, on the way. -/
def GY (P : Nat → Prop) (w : World) (gg ab : Nat) (k c : Int) (a v : Nat) (n : Int) (ks : Value) (yg g : Nat) (s : St) (r : Rf) (W : World) : Prop :=
  ∃ y vF vL ms, y.g = yg ∧ G4 W gg ab k c a v n ks y s g r vF vL ms ∧ NwP P gg y g vF vL ms ∧ KeepP P w W ∧ ∀ q, P q → q < W.heap.size
section
variable {P : Nat → Prop} {w W W' : World} {gg ab : Nat} {k c : Int} {a v : Nat} {n : Int} {ks : Value} {yg g : Nat} {s s' : St} {r r' : Rf}
theorem GY.sg (h : GY P w gg ab k c a v n ks yg g s r W) : SG gg ab yg g k c a v n ks W := by
  obtain ⟨y, vF, vL, ms, rfl, h4, _⟩ := h
  exact h4.sg
theorem GY.lt (h : GY P w gg ab k c a v n ks yg g s r W) : ∀ q, P q → q < W.heap.size := by
  obtain ⟨y, vF, vL, ms, rfl, h4, hn, _, hl⟩ := h
  exact hl
theorem GY.below (h : GY P w gg ab k c a v n ks yg g s r W) (hb : Below W.heap.size W W') : GY P w gg ab k c a v n ks yg g s r W' := by
  have hl := h.lt
  obtain ⟨y, vF, vL, ms, rfl, h4, hn, hB, _⟩ := h
  exact ⟨y, vF, vL, ms, rfl, h4.below hb, hn, hB.trans (KeepP.of_below hb hl), fun q hq => Nat.lt_of_lt_of_le (hl q hq) hb.size⟩
theorem GY.drew (h : GY P w gg ab k c a v n ks yg g s r W) : GY P w gg ab k c a v n ks yg g s r W.drew := h.below (drew_below _)
theorem GY.callP (h : GY P w gg ab k c a v n ks yg g s r W) {f : Nat} {args : List Value} {V : Value} (hp : PC f s args V s') : Calls Try.prog f (.pointer (some ⟨yg, 0, none⟩) :: args).toArray W fun e W' => e = .returned V ∧ GY P w gg ab k c a v n ks yg g s' r W' := by
  have hl := h.lt
  obtain ⟨y, vF, vL, ms, rfl, h4, hn, hB, _⟩ := h
  refine (hp W y h4.g3.m).mono ?_
  rintro e W' ⟨rfl, y', hm, ht⟩
  obtain ⟨q1, q2⟩ := hn.turn hl ht
  exact ⟨rfl, y', vF, vL, ms, ht.g, h4.turn hm ht, q1, hB.trans q2, fun q hq => Nat.lt_of_lt_of_le (hl q hq) ht.but.size⟩
theorem GY.callR (h : GY P w gg ab k c a v n ks yg g s r W) {f : Nat} {args : List Value} {V : Value} (hp : RC f r args V r') : Calls Try.prog f (.pointer (some ⟨g, 0, none⟩) :: args).toArray W fun e W' => e = .returned V ∧ GY P w gg ab k c a v n ks yg g s r' W' := by
  have hl := h.lt
  obtain ⟨y, vF, vL, ms, rfl, h4, hn, hB, _⟩ := h
  refine (hp W g vF vL ms h4.g3.d).mono ?_
  rintro e W' ⟨rfl, vF', vL', ms', hm, ht⟩
  obtain ⟨q1, q2⟩ := hn.turn2 hl ht
  exact ⟨rfl, y, vF', vL', ms', rfl, h4.turn2 hm ht, q1, hB.trans q2, fun q hq => Nat.lt_of_lt_of_le (hl q hq) ht.but.size⟩
theorem GY.pendP (h : GY P w gg ab k c a v n ks yg g s r W) (hr : RelAt s r) : Calls Try.prog 19 #[.pointer (some ⟨yg, 0, none⟩), .int .u64 (a : Int)] W fun e W' => e = .returned (.int .i64 (pcnt r a : Int)) ∧ GY P w gg ab k c a v n ks yg g s r W' := by
  have h0 := h
  obtain ⟨y, vF, vL, ms, rfl, h4, hn, hB, _⟩ := h
  refine (Go.Proofs.Ytkeajfedlhgejaa.pendP h4.g3.m hr a).mono ?_
  rintro e W' ⟨rfl, hb⟩
  exact ⟨rfl, h0.below hb⟩
theorem GY.pendR (h : GY P w gg ab k c a v n ks yg g s r W) (hr : RelAt s r) (hnl : s.nl ≤ 8) (ha : a < 18446744073709551616) : Calls Try.prog 35 #[.pointer (some ⟨g, 0, none⟩), .int .u64 (a : Int)] W fun e W' => e = .returned (.int .i64 (pcnt r a : Int)) ∧ GY P w gg ab k c a v n ks yg g s r W' := by
  have h0 := h
  obtain ⟨y, vF, vL, ms, rfl, h4, hn, hB, _⟩ := h
  refine (Go.Proofs.Ytkeajfedlhgejaa.pendR h4.g3.d hr hnl a ha).mono ?_
  rintro e W' ⟨rfl, hb⟩
  exact ⟨rfl, h0.below hb⟩
theorem GY.same (h : GY P w gg ab k c a v n ks yg g s r W) (hr : RelAt s r) (hnl : s.nl ≤ 8) : Calls Try.prog 12 #[.pointer (some ⟨gg, 0, none⟩)] W fun e W' => e = .returned (.bool true) ∧ GY P w gg ab k c a v n ks yg g s r W' := by
  have h0 := h
  obtain ⟨y, vF, vL, ms, rfl, h4, hn, hB, _⟩ := h
  refine (gsame_any (h4.g3.g2 hr) hnl).mono ?_
  rintro e W' ⟨rfl, hb⟩
  exact ⟨rfl, h0.below hb⟩
theorem GY.fin (h : GY P w gg ab k c a v n ks yg g s r W) : GSP P W gg s r ∧ KeepP P w W := by
  have hl := h.lt
  obtain ⟨y, vF, vL, ms, rfl, h4, hn, hB, _⟩ := h
  exact ⟨⟨y, g, vF, vL, ms, h4.g3, hn, hl⟩, hB⟩
theorem GY.start (h : GSP P w gg s r) (k c : Int) (a v : Nat) (n : Int) (ks : Value) : ∃ yg g, GY P w gg w.heap.size k c a v n ks yg g s r (w.alloc (.cells #[.int .i64 k, .int .i64 c, .int .u64 (a : Int), .int .u64 (v : Int), .int .i64 n, ks] 38)) := by
  obtain ⟨y, g, vF, vL, ms, h3, hn, hl⟩ := h
  exact ⟨y.g, g, y, vF, vL, ms, rfl, G4.new h3 k c a v n ks, hn, KeepP.of_below (alloc_below _ _) hl, fun q hq => by have := hl q hq; simp; omega⟩
end
end Go.Proofs.Ytkeajfedlhgejaa
