/- Texts of this claim, packed: PSt, PSmall, PLem, PMarks, PRange, PKept. -/
import Derived.Test.YteojhhfcfdkmdaaPm01
import Derived.Maps.OwnSet
import Derived.Maps.Ext
import Derived.Maps.RangeWalk
import Derived.Deep.Draws
set_option linter.unusedSimpArgs false
set_option linter.unusedVariables false
/- The memory's abstract state, and what a block that reads as it must hold; plain facts on it, without conditions. -/
namespace Go.Proofs.Yteojhhfcfdkmdaa
open Go.RowKit Go.Maps
set_option linter.unusedVariables false

/-- A memory's state: how many lines; the words that have lasted, and those that are seen; each line's pending stores; how many each client has marked of each line; what was done. -/
structure St where
  nl : Nat
  lasted : List Nat
  view : List Nat
  pend : List (List (Nat × Nat))
  mm : Nat → Nat → Nat
  ld : Nat
  st : Nat
  fl : Nat
  fe : Nat

/-- Where it lies. -/
structure Lay where
  g : Nat
  gl : Nat
  gv : Nat
  gp : Nat
  mb : Nat
  cl : Nat
  cv : Nat
  cp : Nat
  ps : List Value

/-- A line's stores as cells. -/
def flat (l : List (Nat × Nat)) : List Value := l.flatMap fun p => [wv p.1, wv p.2]
theorem flat_length (l : List (Nat × Nat)) : (flat l).length = 2 * l.length := by
  unfold flat
  induction l with
  | nil => rfl
  | cons a t ih => simp [List.flatMap_cons, ih]; omega
theorem flat_append (a b : List (Nat × Nat)) : flat (a ++ b) = flat a ++ flat b := by simp [flat]
theorem flat_cons (p : Nat × Nat) (l : List (Nat × Nat)) : flat (p :: l) = wv p.1 :: wv p.2 :: flat l := by simp [flat]
theorem flat_ones (l : List (Nat × Nat)) : ∀ u ∈ flat l, u.oneCell' = true := by
  intro u hu
  simp only [flat, List.mem_flatMap] at hu
  obtain ⟨p, _, hu⟩ := hu
  simp at hu
  rcases hu with rfl | rfl <;> rfl
theorem flat_get (l : List (Nat × Nat)) (j : Nat) (h : j < l.length) : (flat l)[2 * j]? = some (wv l[j].1) ∧ (flat l)[2 * j + 1]? = some (wv l[j].2) := by
  induction l generalizing j with
  | nil => simp at h
  | cons p t ih =>
    rw [flat_cons]
    cases j with
    | zero => exact ⟨rfl, rfl⟩
    | succ j =>
      have := ih j (by simpa using h)
      rw [show 2 * (j + 1) = 2 * j + 1 + 1 from by omega]
      simpa using this
theorem flat_drop (l : List (Nat × Nat)) (n : Nat) : (flat l).drop (2 * n) = flat (l.drop n) := by
  induction n generalizing l with
  | zero => rfl
  | succ n ih =>
    cases l with
    | nil => simp [flat]
    | cons p t =>
      rw [flat_cons, show 2 * (n + 1) = 2 * n + 1 + 1 from by omega]
      simpa using ih t

/-- A slice in the midst of a block of stores that nothing else reads: nil, or a tail. -/
def Tail (w : World) (v : Value) (l : List (Nat × Nat)) : Prop :=
  (v = .slice none 0 0 ∧ l = []) ∨
  ∃ h off cap cur, v = .slice (some ⟨h, off, none⟩) l.length cap ∧ Row w h 64 cur ∧ 0 < l.length ∧ l.length ≤ cap ∧ cap ≤ maxLen ∧ off + cap * 2 ≤ cur.size ∧ (cur.toList.drop off).take (l.length * 2) = flat l

/-- A client's marks, as a map's element. -/
def mkV (f : Nat → Nat) : Value := .agg (Array.ofFn fun c : Fin 65 => .int .i64 (f c.val : Int))
def mkD (f : Nat → Nat) : DataW Unit := .agg ((List.range 65).map fun c => .lit (.int .i64 (f c : Int)))
/-- How such an element reads: as the number that it is in every place. -/
noncomputable def mkR (v : Value) : Option (DataW Unit × List MemPlace) :=
  open Classical in if h : ∃ f : Nat → Nat, v = mkV f ∧ (∀ c, f c ≤ 9223372036854775807) then some (mkD h.choose, []) else none
def someMk (f : Nat → Nat) : Prop := ∃ c, c < 65 ∧ f c ≠ 0

theorem mkV_inj {f g : Nat → Nat} (h : mkV f = mkV g) : ∀ c, c < 65 → f c = g c := by
  intro c hc
  unfold mkV at h
  have h1 := Value.agg.inj h
  have h2 := congrArg (fun a : Array Value => a[c]?) h1
  simp [hc] at h2
  omega
theorem mkD_inj {f g : Nat → Nat} (h : mkD f = mkD g) : ∀ c, c < 65 → f c = g c := by
  intro c hc
  unfold mkD at h
  have h1 := DataW.agg.inj h
  have h2 := congrArg (fun a : List (DataW Unit) => a[c]?) h1
  simp [hc] at h2
  omega
theorem mkD_of {f g : Nat → Nat} (h : ∀ c, c < 65 → f c = g c) : mkD f = mkD g := by
  unfold mkD
  congr 1
  apply List.map_congr_left
  intro c hc
  rw [h c (by simpa using hc)]
theorem mkV_of {f g : Nat → Nat} (h : ∀ c, c < 65 → f c = g c) : mkV f = mkV g := by
  have e : (fun c : Fin 65 => Value.int .i64 (f c.val : Int)) = fun c : Fin 65 => Value.int .i64 (g c.val : Int) := funext fun c => by rw [h c.val c.isLt]
  unfold mkV
  rw [e]
theorem mkR_mk {f : Nat → Nat} (h : ∀ c, f c ≤ 9223372036854775807) : mkR (mkV f) = some (mkD f, []) := by
  unfold mkR
  have hx : ∃ g : Nat → Nat, mkV f = mkV g ∧ (∀ c, g c ≤ 9223372036854775807) := ⟨f, rfl, h⟩
  rw [dif_pos hx]
  rw [mkD_of (fun c hc => (mkV_inj hx.choose_spec.1 c hc).symm)]
theorem mkR_inv {v : Value} {y : DataW Unit × List MemPlace} (h : mkR v = some y) : ∃ f, v = mkV f ∧ y = (mkD f, []) ∧ (∀ c, f c ≤ 9223372036854775807) := by
  unfold mkR at h
  split at h
  · rename_i hx
    cases h
    exact ⟨_, hx.choose_spec.1, rfl, hx.choose_spec.2⟩
  · cases h
theorem mkD_zero_iff (f : Nat → Nat) : mkD f = mkD (fun _ => 0) ↔ ¬ someMk f := by
  constructor
  · rintro h ⟨c, hc, hn⟩
    exact hn (mkD_inj h c hc)
  · intro h
    refine mkD_of fun c hc => ?_
    by_cases e : f c = 0
    · exact e
    · exact absurd ⟨c, hc, e⟩ h

theorem keyed : Keyed Try.prog 3 := int_keyed Try.underlying3
def key (j : Nat) : Lit := .int .i64 (j : Int)

/-- The marks in the map: a line has an entry just where somebody has marked something of it. -/
def MarksAt (w : World) (mb nl : Nat) (m : Nat → Nat → Nat) : Prop :=
  ∃ D : DataW Unit, w.ownsMap Try.prog 3 mkR mb (Maps.size D) D ∧ (∀ k, Maps.has D k = true → ∃ j, j < nl ∧ k = key j) ∧
    (∀ j, j < nl → (Maps.has D (key j) = true ↔ someMk (m j))) ∧ (∀ j, j < nl → ∀ z, Maps.has D (key j) = true → D.atKey (key j) z = mkD (m j))

/-- What must lie in memory. -/
structure MemAt (w : World) (y : Lay) (s : St) : Prop where
  row : Row w y.g 97 #[.slice (some ⟨y.gl, 0, none⟩) (8 * s.nl) y.cl, .slice (some ⟨y.gv, 0, none⟩) (8 * s.nl) y.cv, .slice (some ⟨y.gp, 0, none⟩) s.nl y.cp, .map (some y.mb), wv s.ld, wv s.st, wv s.fl, wv s.fe]
  las : w.ownsRow 0 22 1 (.slice (some ⟨y.gl, 0, none⟩) (8 * s.nl) y.cl) (8 * s.nl) (s.lasted.map wv)
  vie : w.ownsRow 0 22 1 (.slice (some ⟨y.gv, 0, none⟩) (8 * s.nl) y.cv) (8 * s.nl) (s.view.map wv)
  ne : y.gl ≠ y.gv
  pen : w.ownsRow 0 60 1 (.slice (some ⟨y.gp, 0, none⟩) s.nl y.cp) s.nl y.ps
  plen : s.pend.length = s.nl
  tails : ∀ j (h : j < s.nl) (v : Value) (l : List (Nat × Nat)), y.ps[j]? = some v → s.pend[j]? = some l → Tail w v l
  apart : ∀ (i j : Nat) (v u : Value) (g : Nat), i ≠ j → y.ps[i]? = some v → y.ps[j]? = some u → v.ownBlock = some g → u.ownBlock ≠ some g
  marks : MarksAt w y.mb s.nl s.mm
  pos : 0 < s.nl
  most : s.nl ≤ 16384

/-- The blocks that it takes. -/
def Lay.fp (y : Lay) (k : Nat) : Prop := k = y.g ∨ k = y.gl ∨ k = y.gv ∨ k = y.gp ∨ k = y.mb ∨ ∃ (j : Nat) (v : Value), y.ps[j]? = some v ∧ v.ownBlock = some k

/-- What a call makes of a memory's place: the same struct, its blocks or new ones. -/
structure Turn (w w' : World) (y y' : Lay) : Prop where
  g : y'.g = y.g
  but : But w w' y.fp
  fp : ∀ k, y'.fp k → y.fp k ∨ w.heap.size ≤ k
theorem Turn.refl (w : World) (y : Lay) : Turn w w y y := ⟨rfl, But.refl w _, fun _ h => .inl h⟩
theorem Turn.trans {w w1 w2 : World} {y y1 y2 : Lay} (h : Turn w w1 y y1) (h2 : Turn w1 w2 y1 y2) : Turn w w2 y y2 :=
  ⟨h2.g.trans h.g, h.but.trans h2.but h.fp, fun k hk => by
    rcases h2.fp k hk with h3 | h3
    · exact h.fp k h3
    · exact .inr (Nat.le_trans h.but.size h3)⟩
theorem Turn.of_below {w w' : World} (y : Lay) (h : Below w.heap.size w w') : Turn w w' y y := ⟨rfl, But.of_below h _, fun _ h => .inl h⟩
theorem Turn.size {w w' : World} {y y' : Lay} (h : Turn w w' y y') : w.heap.size ≤ w'.heap.size := h.but.size
end Go.Proofs.Yteojhhfcfdkmdaa
/- The memory's small functions: none, isClient, lineOf, Size, refused, kept: what each answers; the world stays. For nil, for a zero memory, and for one that is there. -/
namespace Go.Proofs.Yteojhhfcfdkmdaa
open Go.RowKit
set_option linter.unusedVariables false

theorem ret_int {k : IntKind} {a b : Int} (h : a = b) : Ending.returned (.int k a) = .returned (.int k b) := by rw [h]
/-- A pointer to no memory: nil, or a zero one. -/
def NoMem (w : World) (p : Option Addr) : Prop := p = none ∨ ∃ g, p = some ⟨g, 0, none⟩ ∧ Row w g 97 #[.slice none 0 0, .slice none 0 0, .slice none 0 0, .map none, wv 0, wv 0, wv 0, wv 0]
theorem NoMem.below {w w' : World} {p : Option Addr} (h : NoMem w p) (hb : Below w.heap.size w w') : NoMem w' p := by
  rcases h with h | ⟨g, h, hr⟩
  · exact .inl h
  · exact .inr ⟨g, h, hr.below hb hr.lt⟩

theorem none_no {p : Option Addr} {w : World} (h : NoMem w p) : Calls Try.prog 55 #[.pointer p] w fun e w' => e = .returned (.bool true) ∧ w = w' := by
  rcases h with rfl | ⟨g, rfl, hr⟩
  · go_enter Try.func55, Try.ntmps55
    go_wp2
    go_ret
    exact ⟨rfl, rfl⟩
  · have h1 := hr.cell 1
    simp only [List.getElem?_toArray, List.getElem?_cons_succ, List.getElem?_cons_zero] at h1
    go_enter Try.func55, Try.ntmps55
    go_wp2
    go_ret
    exact ⟨rfl, rfl⟩
theorem none_yes {w : World} {y : Lay} {s : St} (h : MemAt w y s) : Calls Try.prog 55 #[.pointer (some ⟨y.g, 0, none⟩)] w fun e w' => e = .returned (.bool false) ∧ w = w' := by
  have h1 := h.row.cell 1
  simp only [List.getElem?_toArray, List.getElem?_cons_succ, List.getElem?_cons_zero] at h1
  have hp := h.pos
  have hm := h.most
  obtain ⟨N, hN⟩ : ∃ N, N = 8 * s.nl := ⟨_, rfl⟩
  rw [← hN] at h1
  have hn : ((N : Int) == 0) = false := by
    rw [Bool.eq_false_iff]
    intro hh
    have := beq_iff_eq.1 hh
    omega
  clear hN
  obtain ⟨g, hg⟩ : ∃ g, g = y.g := ⟨_, rfl⟩
  rw [← hg] at h1 ⊢
  clear hg
  go_enter Try.func55, Try.ntmps55
  go_wp2
  go_ret
  exact ⟨rfl, rfl⟩

theorem isClient_any (c : Int) (w : World) : Calls Try.prog 40 #[.int .i64 c] w fun e w' => e = .returned (.bool (decide (0 ≤ c ∧ c ≤ 64))) ∧ w = w' := by
  by_cases h0 : 0 ≤ c
  · by_cases h1 : c ≤ 64
    · have e : decide (0 ≤ c ∧ c ≤ 64) = true := by simp [h0, h1]
      rw [e]
      go_enter Try.func40, Try.ntmps40
      go_wp2
      go_ret
      exact ⟨rfl, rfl⟩
    · have e : decide (0 ≤ c ∧ c ≤ 64) = false := by simp [h0, h1]
      rw [e]
      go_enter Try.func40, Try.ntmps40
      go_wp2
      go_ret
      exact ⟨rfl, rfl⟩
  · have e : decide (0 ≤ c ∧ c ≤ 64) = false := by simp [h0]
    rw [e]
    go_enter Try.func40, Try.ntmps40
    go_wp2
    go_ret
    exact ⟨rfl, rfl⟩

theorem lineOf_any (a : Nat) (w : World) (ha : a < 18446744073709551616) : Calls Try.prog 39 #[.int .u64 (a : Int)] w fun e w' => e = .returned (.int .i64 ((a / 64 : Nat) : Int)) ∧ w = w' := by
  go_enter Try.func39, Try.ntmps39
  go_wp2
  go_ret
  exact ⟨rfl, rfl⟩

theorem size_no {p : Option Addr} {w : World} (h : NoMem w p) : Calls Try.prog 52 #[.pointer p] w fun e w' => e = .returned (.int .i64 0) ∧ w = w' := by
  have H := Lib.hid (none_no h)
  clear h
  go_enter Try.func52, Try.ntmps52
  go_wp2_with fail
  refine H.out.mono ?_
  rintro e w1 ⟨rfl, rfl⟩
  go_wp2
  go_ret
  exact ⟨rfl, rfl⟩
theorem size_yes {w : World} {y : Lay} {s : St} (h : MemAt w y s) : Calls Try.prog 52 #[.pointer (some ⟨y.g, 0, none⟩)] w fun e w' => e = .returned (.int .i64 ((64 * s.nl : Nat) : Int)) ∧ w = w' := by
  have H := Lib.hid (none_yes h)
  have h1 := h.row.cell 1
  simp only [List.getElem?_toArray, List.getElem?_cons_succ, List.getElem?_cons_zero] at h1
  have hm := h.most
  obtain ⟨N, hN⟩ : ∃ N, N = 8 * s.nl := ⟨_, rfl⟩
  rw [← hN] at h1
  rw [show 64 * s.nl = N * 8 from by omega]
  have hN2 : N ≤ 131072 := by omega
  obtain ⟨g, hg⟩ : ∃ g, g = y.g := ⟨_, rfl⟩
  rw [← hg] at h1 H ⊢
  clear hg hN hm h
  go_enter Try.func52, Try.ntmps52
  go_wp2_with fail
  refine H.out.mono ?_
  rintro e w1 ⟨rfl, rfl⟩
  go_wp2
  go_ret
  exact ⟨rfl, rfl⟩

theorem refused_no {p : Option Addr} {w : World} (h : NoMem w p) (f : Bool) (a : Int) : Calls Try.prog 38 #[.pointer p, .bool f, .int .u64 a] w fun e w' => e = .returned (.int .i64 1) ∧ w = w' := by
  have H := Lib.hid (none_no h)
  clear h
  go_enter Try.func38, Try.ntmps38
  go_wp2_with fail
  refine H.out.mono ?_
  rintro e w1 ⟨rfl, rfl⟩
  go_wp2
  go_ret
  exact ⟨rfl, rfl⟩
theorem refused_arg {w : World} {y : Lay} {s : St} (h : MemAt w y s) (a : Int) : Calls Try.prog 38 #[.pointer (some ⟨y.g, 0, none⟩), .bool false, .int .u64 a] w fun e w' => e = .returned (.int .i64 2) ∧ w = w' := by
  have H := Lib.hid (none_yes h)
  obtain ⟨g, hg⟩ : ∃ g, g = y.g := ⟨_, rfl⟩
  rw [← hg] at H ⊢
  clear hg h
  go_enter Try.func38, Try.ntmps38
  go_wp2_with fail
  refine H.out.mono ?_
  rintro e w1 ⟨rfl, rfl⟩
  go_wp2
  go_ret
  exact ⟨rfl, rfl⟩
theorem refused_range {w : World} {y : Lay} {s : St} (h : MemAt w y s) (a : Nat) (ha : a % 8 ≠ 0 ∨ 64 * s.nl ≤ a) : Calls Try.prog 38 #[.pointer (some ⟨y.g, 0, none⟩), .bool true, .int .u64 (a : Int)] w fun e w' => e = .returned (.int .i64 3) ∧ w = w' := by
  have H := Lib.hid (none_yes h)
  have HS := Lib.hid (size_yes h)
  have hm := h.most
  obtain ⟨g, hg⟩ : ∃ g, g = y.g := ⟨_, rfl⟩
  rw [← hg] at H HS ⊢
  obtain ⟨Z, hZ⟩ : ∃ Z, Z = 64 * s.nl := ⟨_, rfl⟩
  rw [← hZ] at ha HS
  have hZ2 : Z ≤ 1048576 := by omega
  clear hg h hZ hm
  by_cases h8 : a % 8 = 0
  · have hz : Z ≤ a := by omega
    have hn : (((a : Int) % 8) != 0) = false := by
      have : (a : Int) % 8 = 0 := by omega
      rw [this]; rfl
    clear h8 ha
    go_enter Try.func38, Try.ntmps38
    go_wp2_with fail
    refine H.out.mono ?_
    rintro e w1 ⟨rfl, rfl⟩
    go_wp2_with fail
    refine HS.out.mono ?_
    rintro e w1 ⟨rfl, rfl⟩
    go_wp2
    go_ret
    exact ⟨rfl, rfl⟩
  · have hn : (((a : Int) % 8) != 0) = true := by
      rw [bne_iff_ne]
      omega
    clear h8 ha
    go_enter Try.func38, Try.ntmps38
    go_wp2_with fail
    refine H.out.mono ?_
    rintro e w1 ⟨rfl, rfl⟩
    go_wp2
    go_ret
    exact ⟨rfl, rfl⟩
theorem refused_ok {w : World} {y : Lay} {s : St} (h : MemAt w y s) (a : Nat) (h8 : a % 8 = 0) (ha : a < 64 * s.nl) : Calls Try.prog 38 #[.pointer (some ⟨y.g, 0, none⟩), .bool true, .int .u64 (a : Int)] w fun e w' => e = .returned (.int .i64 0) ∧ w = w' := by
  have H := Lib.hid (none_yes h)
  have HS := Lib.hid (size_yes h)
  have hm := h.most
  obtain ⟨g, hg⟩ : ∃ g, g = y.g := ⟨_, rfl⟩
  rw [← hg] at H HS ⊢
  obtain ⟨Z, hZ⟩ : ∃ Z, Z = 64 * s.nl := ⟨_, rfl⟩
  rw [← hZ] at ha HS
  have hZ2 : Z ≤ 1048576 := by omega
  clear hg h hZ hm
  have hn : (((a : Int) % 8) != 0) = false := by
    have : (a : Int) % 8 = 0 := by omega
    rw [this]; rfl
  clear h8
  go_enter Try.func38, Try.ntmps38
  go_wp2_with fail
  refine H.out.mono ?_
  rintro e w1 ⟨rfl, rfl⟩
  go_wp2_with fail
  refine HS.out.mono ?_
  rintro e w1 ⟨rfl, rfl⟩
  go_wp2
  go_ret
  exact ⟨rfl, rfl⟩
end Go.Proofs.Yteojhhfcfdkmdaa
/- How a memory's place is kept while other blocks turn, and that its blocks differ; without conditions. -/
namespace Go.Proofs.Yteojhhfcfdkmdaa
open Go.RowKit Go.Maps
set_option linter.unusedVariables false

/-- A cell in another block stays. -/
theorem cell_far {w : World} {p q : Addr} (h : p.block ≠ q.block) (u : Value) : (w.setCell p u).cell? q = w.cell? q :=
  World.cell?_of_block (heap_setCell_other w p q.block u (Ne.symm h))
theorem cell_else {w : World} {g i j : Nat} (h : i ≠ j) (u : Value) : (w.setCell ⟨g, i, none⟩ u).cell? ⟨g, j, none⟩ = w.cell? ⟨g, j, none⟩ :=
  World.cell?_setCell_other _ _ _ _ (fun e => h (by injection e))
theorem frozen_grown {w w' : World} {row : Option Nat} (hg : w.grownBy w' row) {p : Addr} (hl : p.block < w.heap.size) (hn : some p.block ≠ row) (hf : w.frozen? p = false) : w'.frozen? p = false := by
  rw [World.frozen?_of_block (hg.block _ hl hn)]; exact hf
theorem frozen_alloc {w : World} {p : Addr} (hl : p.block < w.heap.size) (o : Obj) : (w.alloc o).frozen? p = w.frozen? p := World.frozen?_of_block (Below.heap_alloc w o p.block hl)
theorem Row.ne {w : World} {g g' : Nat} {t t' : TypeId} {cs cs' : Array Value} (h : Row w g t cs) (h' : Row w g' t' cs') (hne : t ≠ t') : g ≠ g' := by
  rintro rfl
  unfold Row at h h'
  rw [h] at h'
  injection h' with h'
  injection h' with _ ht
  exact hne ht
theorem Row.ne_map {w : World} {g g' : Nat} {t : TypeId} {cs : Array Value} {es : Array MapEntry} {c : Nat} (h : Row w g t cs) (h' : w.heap[g']? = some (.map es c)) : g ≠ g' := by
  rintro rfl
  unfold Row at h
  rw [h] at h'
  injection h' with h'
  cases h'
theorem Row.same {w w' : World} {g : Nat} {t : TypeId} {cs : Array Value} (h : Row w g t cs) (hk : w'.heap[g]? = w.heap[g]?) : Row w' g t cs := hk.trans h
theorem own_at {w : World} {B n g c : Nat} {e : TypeId} {xs : List Value} (h : w.ownsRow B e 1 (.slice (some ⟨g, 0, none⟩) n c) n xs) : ∃ cur, Row w g e cur := by
  rcases h.2 with ⟨h0, _⟩ | ⟨g', cap, cur, h0, _, hh, _⟩
  · cases h0
  · simp only [Value.slice.injEq, Option.some.injEq, Addr.mk.injEq, and_true, true_and] at h0
    obtain ⟨rfl, rfl⟩ := h0
    exact ⟨cur, hh⟩
theorem own_same {w w' : World} {B n g c : Nat} {e : TypeId} {xs : List Value} (h : w.ownsRow B e 1 (.slice (some ⟨g, 0, none⟩) n c) n xs) (hk : w'.heap[g]? = w.heap[g]?) : w'.ownsRow B e 1 (.slice (some ⟨g, 0, none⟩) n c) n xs := by
  refine ⟨h.1, ?_⟩
  rcases h.2 with h0 | ⟨g', cap, cur, h0, hg, hh, hr⟩
  · exact .inl h0
  · have e1 := h0
    simp only [Value.slice.injEq, Option.some.injEq, Addr.mk.injEq, and_true, true_and] at e1
    obtain ⟨rfl, rfl⟩ := e1
    exact .inr ⟨g, c, cur, rfl, hg, hk.trans hh, hr⟩
theorem own_lt {w : World} {B n g c : Nat} {e : TypeId} {xs : List Value} (h : w.ownsRow B e 1 (.slice (some ⟨g, 0, none⟩) n c) n xs) : g < w.heap.size := (h.lt g rfl).2

theorem Tail.row {w : World} {v : Value} {l : List (Nat × Nat)} {h : Nat} (ht : Tail w v l) (hb : v.ownBlock = some h) : ∃ cur, Row w h 64 cur := by
  rcases ht with ⟨rfl, _⟩ | ⟨h', off, cap, cur, rfl, hr, _⟩
  · cases hb
  · have : h' = h := by simpa [Value.ownBlock] using hb
    subst this
    exact ⟨cur, hr⟩
theorem Tail.same {w w' : World} {v : Value} {l : List (Nat × Nat)} (ht : Tail w v l) (hk : ∀ h, v.ownBlock = some h → w'.heap[h]? = w.heap[h]?) : Tail w' v l := by
  rcases ht with h0 | ⟨h', off, cap, cur, rfl, hr, hrest⟩
  · exact .inl h0
  · exact .inr ⟨h', off, cap, cur, rfl, hr.same (hk h' rfl), hrest⟩
theorem Tail.len {w : World} {v : Value} {l : List (Nat × Nat)} (ht : Tail w v l) : ∃ A c, v = .slice A l.length c ∧ l.length ≤ c := by
  rcases ht with ⟨rfl, rfl⟩ | ⟨h', off, cap, cur, rfl, _, _, hlc, _⟩
  · exact ⟨_, _, rfl, Nat.le_refl _⟩
  · exact ⟨_, _, rfl, hlc⟩

theorem MarksAt.same {w w' : World} {mb nl : Nat} {m : Nat → Nat → Nat} (h : MarksAt w mb nl m) (hk : w'.heap[mb]? = w.heap[mb]?) : MarksAt w' mb nl m := by
  obtain ⟨D, ⟨es, c, hb, hr⟩, h2⟩ := h
  exact ⟨D, ⟨es, c, hk.trans hb, hr⟩, h2⟩
theorem MarksAt.map {w : World} {mb nl : Nat} {m : Nat → Nat → Nat} (h : MarksAt w mb nl m) : ∃ es c, w.heap[mb]? = some (.map es c) := by
  obtain ⟨D, ⟨es, c, hb, hr⟩, h2⟩ := h
  exact ⟨es, c, hb⟩
theorem MarksAt.lt {w : World} {mb nl : Nat} {m : Nat → Nat → Nat} (h : MarksAt w mb nl m) : mb < w.heap.size := by
  obtain ⟨es, c, hb⟩ := h.map
  exact (Array.getElem?_eq_some_iff.1 hb).1

theorem ps_get {w : World} {y : Lay} {s : St} (h : MemAt w y s) {j : Nat} (hj : j < s.nl) : ∃ v l, y.ps[j]? = some v ∧ s.pend[j]? = some l ∧ Tail w v l := by
  have h1 : y.ps.length = s.nl := by have := h.pen.1; omega
  have h2 := h.plen
  exact ⟨_, _, List.getElem?_eq_getElem (by omega), List.getElem?_eq_getElem (by omega), h.tails j hj _ _ (List.getElem?_eq_getElem (by omega)) (List.getElem?_eq_getElem (by omega))⟩
theorem ps_len {w : World} {y : Lay} {s : St} (h : MemAt w y s) : y.ps.length = s.nl := by have := h.pen.1; omega
theorem ps_row {w : World} {y : Lay} {s : St} (h : MemAt w y s) {j : Nat} {v : Value} {k : Nat} (hv : y.ps[j]? = some v) (hk : v.ownBlock = some k) : ∃ cur, Row w k 64 cur := by
  have hj : j < s.nl := by
    have := ps_len h
    have := (List.getElem?_eq_some_iff.1 hv).1
    omega
  obtain ⟨v', l, h1, h2, h3⟩ := ps_get h hj
  rw [hv] at h1
  cases h1
  exact h3.row hk

/-- The blocks differ. -/
structure Differ (y : Lay) : Prop where
  g_gl : y.g ≠ y.gl
  g_gv : y.g ≠ y.gv
  g_gp : y.g ≠ y.gp
  g_mb : y.g ≠ y.mb
  gl_gv : y.gl ≠ y.gv
  gl_gp : y.gl ≠ y.gp
  gl_mb : y.gl ≠ y.mb
  gv_gp : y.gv ≠ y.gp
  gv_mb : y.gv ≠ y.mb
  gp_mb : y.gp ≠ y.mb
  tail : ∀ (j : Nat) (v : Value) (k : Nat), y.ps[j]? = some v → v.ownBlock = some k → k ≠ y.g ∧ k ≠ y.gl ∧ k ≠ y.gv ∧ k ≠ y.gp ∧ k ≠ y.mb
theorem MemAt.differ {w : World} {y : Lay} {s : St} (h : MemAt w y s) : Differ y := by
  obtain ⟨cl, hl⟩ := own_at h.las
  obtain ⟨cv, hv⟩ := own_at h.vie
  obtain ⟨cp, hp⟩ := own_at h.pen
  obtain ⟨es, c, hm⟩ := h.marks.map
  refine ⟨h.row.ne hl (by decide), h.row.ne hv (by decide), h.row.ne hp (by decide), h.row.ne_map hm, h.ne, hl.ne hp (by decide), hl.ne_map hm, hv.ne hp (by decide), hv.ne_map hm, hp.ne_map hm, ?_⟩
  intro j v k hv' hk
  obtain ⟨cur, hr⟩ := ps_row h hv' hk
  exact ⟨hr.ne h.row (by decide), hr.ne hl (by decide), hr.ne hv (by decide), hr.ne hp (by decide), hr.ne_map hm⟩
theorem MemAt.lt {w : World} {y : Lay} {s : St} (h : MemAt w y s) : ∀ k, y.fp k → k < w.heap.size := by
  rintro k (rfl | rfl | rfl | rfl | rfl | ⟨j, v, hv, hk⟩)
  · exact h.row.lt
  · exact own_lt h.las
  · exact own_lt h.vie
  · exact own_lt h.pen
  · exact h.marks.lt
  · obtain ⟨cur, hr⟩ := ps_row h hv hk
    exact hr.lt
/-- The memory stays while its blocks do. -/
theorem MemAt.same {w w' : World} {y : Lay} {s : St} (h : MemAt w y s) (hk : ∀ k, y.fp k → w'.heap[k]? = w.heap[k]?) : MemAt w' y s := by
  refine ⟨h.row.same (hk _ (.inl rfl)), own_same h.las (hk _ (.inr (.inl rfl))), own_same h.vie (hk _ (.inr (.inr (.inl rfl)))), h.ne, own_same h.pen (hk _ (.inr (.inr (.inr (.inl rfl))))), h.plen, ?_, h.apart, h.marks.same (hk _ (.inr (.inr (.inr (.inr (.inl rfl)))))), h.pos, h.most⟩
  intro j hj v l hv hl
  exact (h.tails j hj v l hv hl).same fun k hk' => hk k (.inr (.inr (.inr (.inr (.inr ⟨j, v, hv, hk'⟩)))))
theorem MemAt.below {w w' : World} {y : Lay} {s : St} (h : MemAt w y s) (hb : Below w.heap.size w w') : MemAt w' y s := h.same fun k hk => hb.block k (h.lt k hk)
theorem MemAt.but {w w' : World} {y : Lay} {s : St} {fp : Nat → Prop} (h : MemAt w y s) (hb : But w w' fp) (hd : ∀ k, y.fp k → ¬ fp k) : MemAt w' y s := h.same fun k hk => hb.block k (h.lt k hk) (hd k hk)
theorem own_stored {w : World} {B n g c : Nat} {e : TypeId} {xs : List Value} (h : w.ownsRow B e 1 (.slice (some ⟨g, 0, none⟩) n c) n xs) (j : Nat) (u : Value) : (w.setCell ⟨g, j, none⟩ u).ownsRow B e 1 (.slice (some ⟨g, 0, none⟩) n c) n (xs.set j u) := by
  rcases h.2 with ⟨h0, _⟩ | ⟨g', cap, cur, h0, hg, hh, hnc, hm, hsz, htk⟩
  · cases h0
  · simp only [Value.slice.injEq, Option.some.injEq, Addr.mk.injEq, and_true, true_and] at h0
    obtain ⟨rfl, rfl⟩ := h0
    refine ⟨by simpa using h.1, .inr ⟨g, c, _, rfl, hg, heap_setCell_same w g j cur e u hh, hnc, hm, by simpa using hsz, ?_⟩⟩
    rw [Array.toList_setIfInBounds, ← htk, List.take_set]
end Go.Proofs.Yteojhhfcfdkmdaa
/- The marks' map: what a look-up yields, what a store and a deletion make of it; for lines that there are, and marks that fit. -/
namespace Go.Proofs.Yteojhhfcfdkmdaa
open Go.RowKit Go.Maps
set_option linter.unusedVariables false
theorem zeroMk (W : World) : (zeroValue 103).run Try.prog W = .ok (mkV fun _ => 0) W := by kernel_rfl
theorem key_inj {i j : Nat} (h : key i = key j) : i = j := by
  unfold key at h
  injection h with _ h
  omega
theorem key_is (i : Nat) : WideAt.IsKeyLit (key i) := by
  unfold key WideAt.IsKeyLit
  trivial
theorem key_of {i : Nat} (h : i ≤ 9223372036854775807) : keyOf Try.prog 3 (.int .i64 (i : Int)) = some (key i) := by
  refine keyOf_int_mk Try.underlying3 ?_
  simp only [Lit.wf, Bool.and_eq_true, decide_eq_true_eq]
  exact ⟨by show (-9223372036854775808 : Int) ≤ _; omega, by show _ ≤ (9223372036854775807 : Int); omega⟩
/-- The marks with one line's set anew. -/
def upd (m : Nat → Nat → Nat) (i : Nat) (f : Nat → Nat) : Nat → Nat → Nat := fun j => if j = i then f else m j
theorem own_tight {w : World} {P : Program} {k : TypeId} {R : Value → Option (DataW Unit × List MemPlace)} {b n : Nat} {D : DataW Unit} (h : w.ownsMap P k R b n D) : w.ownsMap P k R b (Maps.size D) D := by
  obtain ⟨es, c, hb, F, hs, hD⟩ := h
  refine ⟨es, c, hb, F, ?_, hD⟩
  rw [hD]
  simp [Maps.size, length_sorted]
theorem same_refl {a : Lit} (h : WideAt.IsKeyLit a) : a.sameKey a = true := by
  cases a <;> first | (simp [Lit.sameKey]; done) | exact h.elim
theorem marks_size {w : World} {mb nl : Nat} {D : DataW Unit} (h : w.ownsMap Try.prog 3 mkR mb (Maps.size D) D) (hk : ∀ k, Maps.has D k = true → ∃ j, j < nl ∧ k = key j) : Maps.size D ≤ nl := by
  obtain ⟨es, rfl, hp, hl⟩ := h.entries keyed
  have h1 : (es.map Prod.fst).Nodup := by
    rw [List.nodup_iff_pairwise_ne]
    exact List.pairwise_map.2 hp
  have h2 : es.map Prod.fst ⊆ (List.range nl).map key := by
    intro k hk'
    obtain ⟨p, hp', rfl⟩ := List.mem_map.1 hk'
    have : Maps.has (.map es) p.1 = true := by
      rw [Maps.has_eq, List.any_eq_true]
      exact ⟨p, hp', by have := hl p hp'; exact same_refl this⟩
    obtain ⟨j, hj, e⟩ := hk _ this
    rw [e]
    exact List.mem_map.2 ⟨j, by simpa using hj, rfl⟩
  have h3 := List.Nodup.length_le_of_subset h1 h2
  simpa [Maps.size_eq] using h3
theorem not_some {f : Nat → Nat} (h : ¬ someMk f) : ∀ c, c < 65 → f c = 0 := by
  intro c hc
  by_cases e : f c = 0
  · exact e
  · exact absurd ⟨c, hc, e⟩ h
theorem marks_val {w : World} {mb nl : Nat} {m : Nat → Nat → Nat} {D : DataW Unit} (hs : ∀ j, j < nl → (Maps.has D (key j) = true ↔ someMk (m j))) (ha : ∀ j, j < nl → ∀ z, Maps.has D (key j) = true → D.atKey (key j) z = mkD (m j))
    {i : Nat} (hi : i < nl) {v : Value} {ps : List MemPlace} (hv : mkR v = some (D.atKey (key i) (mkD fun _ => 0), ps)) : v = mkV (m i) := by
  obtain ⟨f, rfl, he, _⟩ := mkR_inv hv
  injection he with he _
  refine mkV_of fun c hc => ?_
  by_cases hh : Maps.has D (key i) = true
  · rw [ha i hi _ hh] at he
    exact (mkD_inj he c hc).symm
  · have hn : Maps.has D (key i) = false := by simpa using hh
    rw [atKey_of_not_has hn] at he
    rw [← mkD_inj he c hc, not_some (fun hx => hh ((hs i hi).2 hx)) c hc]
theorem marks_look {w : World} {mb nl i : Nat} {m : Nat → Nat → Nat} (h : MarksAt w mb nl m) (hi : i < nl) (hb : nl ≤ 16384) :
    (Instr.lookup 93 (.map (some mb)) (.int .i64 (i : Int)) false).run Try.prog w = .ok (mkV (m i)) w := by
  obtain ⟨D, hown, hk, hs, ha⟩ := h
  obtain ⟨v, ps, hrun, hv⟩ := hown.lookup keyed Try.underlying93 (zeroMk w) (mkR_mk (f := fun _ => 0) (fun _ => by omega)) (key_of (i := i) (by omega))
  rw [hrun, marks_val (w := w) (mb := mb) hs ha hi hv]
theorem marks_look_ok {w : World} {mb nl i : Nat} {m : Nat → Nat → Nat} (h : MarksAt w mb nl m) (hi : i < nl) (hb : nl ≤ 16384) :
    ∃ b : Bool, (b = true ↔ someMk (m i)) ∧ (Instr.lookup 93 (.map (some mb)) (.int .i64 (i : Int)) true).run Try.prog w = .ok (.tuple #[mkV (m i), .bool b]) w := by
  obtain ⟨D, hown, hk, hs, ha⟩ := h
  obtain ⟨v, ps, hrun, hv⟩ := hown.look_ok keyed Try.underlying93 (zeroMk w) (mkR_mk (f := fun _ => 0) (fun _ => by omega)) (key_of (i := i) (by omega))
  exact ⟨_, hs i hi, by rw [hrun, marks_val (w := w) (mb := mb) hs ha hi hv]⟩
theorem marks_put {w : World} {mb nl i : Nat} {m : Nat → Nat → Nat} {f : Nat → Nat} (h : MarksAt w mb nl m) (hi : i < nl) (hb : nl ≤ 16384) (hf : someMk f) (hw : ∀ c, f c ≤ 9223372036854775807) :
    ∃ w', (Instr.mapUpdate 93 (.map (some mb)) (.int .i64 (i : Int)) (mkV f)).run Try.prog w = .ok () w' ∧ MarksAt w' mb nl (upd m i f) ∧ w.grownBy w' (some mb) := by
  obtain ⟨D, hown, hk, hs, ha⟩ := h
  have hz := marks_size hown hk
  obtain ⟨w', hrun, ho, hg⟩ := hown.update keyed Try.underlying93 (by unfold maxLen; omega) (key_of (i := i) (by omega)) (mkR_mk hw)
  refine ⟨w', hrun, ⟨_, own_tight ho, ?_, ?_, ?_⟩, hg⟩
  · intro k hk'
    by_cases e : k = key i
    · exact ⟨i, hi, e⟩
    · rw [has_put_other e] at hk'
      exact hk k hk'
  · intro j hj
    by_cases e : j = i
    · subst e
      simp only [upd, if_true]
      exact ⟨fun _ => hf, fun _ => has_put_same hown.isMap (key_is _) _⟩
    · rw [has_put_other (fun e' => e (key_inj e')), hs j hj]
      simp only [upd, if_neg e]
  · intro j hj z hh
    by_cases e : j = i
    · subst e
      simp only [upd, if_true]
      exact atKey_put_same hown.isMap (key_is _) _ _
    · have e' : key j ≠ key i := fun e' => e (key_inj e')
      rw [has_put_other e'] at hh
      rw [atKey_put_other e']
      simp only [upd, if_neg e]
      exact ha j hj z hh
theorem marks_del {w : World} {mb nl i : Nat} {ty : TypeId} {m : Nat → Nat → Nat} {f : Nat → Nat} (h : MarksAt w mb nl m) (hi : i < nl) (hb : nl ≤ 16384) (hf : ¬ someMk f) :
    ∃ w', (Builtin.delete_ #[93, 3] ty #[.map (some mb), .int .i64 (i : Int)]).run Try.prog w = .ok (.tuple #[]) w' ∧ MarksAt w' mb nl (upd m i f) ∧ w.grownBy w' (some mb) := by
  obtain ⟨D, hown, hk, hs, ha⟩ := h
  obtain ⟨w', hrun, ho, ht⟩ := hown.drop keyed Try.underlying93 (key_of (i := i) (by omega)) ty
  refine ⟨w', hrun, ⟨_, own_tight ho, ?_, ?_, ?_⟩, ht.grown⟩
  · intro k hk'
    by_cases e : k = key i
    · subst e
      rw [has_del_same] at hk'
      cases hk'
    · rw [has_del_other e] at hk'
      exact hk k hk'
  · intro j hj
    by_cases e : j = i
    · subst e
      simp only [upd, if_true]
      rw [has_del_same]
      exact ⟨fun h => (by cases h), fun h => absurd h hf⟩
    · rw [has_del_other (fun e' => e (key_inj e')), hs j hj]
      simp only [upd, if_neg e]
  · intro j hj z hh
    by_cases e : j = i
    · subst e
      rw [has_del_same] at hh
      cases hh
    · have e' : key j ≠ key i := fun e' => e (key_inj e')
      rw [has_del_other e'] at hh
      rw [atKey_del_other e']
      simp only [upd, if_neg e]
      exact ha j hj z hh

/-- Marks as cells. -/
def marr (f : Nat → Nat) : Array Value := Array.ofFn fun c : Fin 65 => .int .i64 (f c.val : Int)
theorem mkV_marr (f : Nat → Nat) : mkV f = .agg (marr f) := rfl
theorem marr_size (f : Nat → Nat) : (marr f).size = 65 := by simp [marr]
theorem marr_get (f : Nat → Nat) (c : Nat) (h : c < 65) : (marr f)[c]? = some (.int .i64 (f c : Int)) := by simp [marr, h]
theorem marr_one (f : Nat → Nat) : (marr f).all (·.oneCell') = true := by
  rw [Array.all_eq_true]
  intro i hi
  simp [marr, Value.oneCell']
theorem size103 : (Try.prog.info? 103).map (·.size) = some 65 := by kernel_rfl
theorem marr_fit (f : Nat → Nat) : (Try.prog.info? 103).map (·.size) = some (marr f).size := by rw [marr_size]; exact size103
theorem marr_set (f : Nat → Nat) (c n : Nat) (h : c < 65) : (marr f).setIfInBounds c (.int .i64 (n : Int)) = marr fun k => if k = c then n else f k := by
  apply Array.ext
  · simp [marr]
  · intro i h1 h2
    simp [marr] at h2
    rw [Array.getElem_setIfInBounds]
    · by_cases e : c = i
      · subst e
        simp [marr]
      · have e' : ¬ i = c := fun x => e x.symm
        simp [marr, e, e']
    · simpa [marr] using h1

/-- A state that a memory can have: its words fit; each line's stores lie in it; nobody has marked more than is pending; no number is great. -/
structure St.Ok (s : St) : Prop where
  las : ∀ x ∈ s.lasted, x < 18446744073709551616
  vie : ∀ x ∈ s.view, x < 18446744073709551616
  put : ∀ (j : Nat) (l : List (Nat × Nat)), s.pend[j]? = some l → ∀ p ∈ l, p.1 % 8 = 0 ∧ p.1 / 64 = j ∧ p.2 < 18446744073709551616
  few : ∀ l ∈ s.pend, l.length ≤ 1000000000
  mks : ∀ j c, s.mm j c ≤ (s.pend.getD j []).length
  num : s.ld < 9223372036854775808 ∧ s.st < 9223372036854775808 ∧ s.fl < 9223372036854775808 ∧ s.fe < 9223372036854775808
theorem St.Ok.mk_le {s : St} (h : s.Ok) (j c : Nat) : s.mm j c ≤ 1000000000 := by
  refine Nat.le_trans (h.mks j c) ?_
  rw [List.getD_eq_getElem?_getD]
  cases e : s.pend[j]? with
  | none => simp
  | some l => exact h.few l (List.mem_of_getElem? e)
end Go.Proofs.Yteojhhfcfdkmdaa
/- A map that is gone over while its entries are written anew or struck: what is left stays what it was, but for those that are struck; without conditions. -/
namespace Go.Proofs.Yteojhhfcfdkmdaa
open Go.RowKit Go.Maps Go.ChangeMaps Go.MapKept
open Go.WideElems (Fit rd rg pl rd_val rd_key rg_of)
set_option linter.unusedVariables false

/-- The map's entries behind are some of those ahead, by their stamps and keys; the clock stands. -/
def MapStep (w w' : World) (b : Nat) : Prop :=
  ∀ es clock, w.heap[b]? = some (.map es clock) → ∃ es' : Array MapEntry, w'.heap[b]? = some (.map es' clock) ∧ ∀ x' ∈ es'.toList, ∃ x ∈ es.toList, x.born = x'.born ∧ x.key = x'.key
theorem MapStep.same {w w' : World} {b : Nat} (h : w'.heap[b]? = w.heap[b]?) : MapStep w w' b := fun es c he => ⟨es, h.trans he, fun x hx => ⟨x, hx, rfl, rfl⟩⟩
theorem MapStep.trans {w w1 w2 : World} {b : Nat} (h : MapStep w w1 b) (h2 : MapStep w1 w2 b) : MapStep w w2 b := by
  intro es c he
  obtain ⟨es1, h1, hx1⟩ := h es c he
  obtain ⟨es2, h3, hx2⟩ := h2 es1 c h1
  refine ⟨es2, h3, fun x hx => ?_⟩
  obtain ⟨x1, m1, b1, k1⟩ := hx2 x hx
  obtain ⟨x0, m0, b0, k0⟩ := hx1 x1 m1
  exact ⟨x0, m0, b0.trans b1, k0.trans k1⟩

theorem own_one {w : World} {P : Program} {k : TypeId} {R : Value → Option (DataW Unit × List MemPlace)} {b n n' : Nat} {D D' : DataW Unit} (h : w.ownsMap P k R b n D) (h' : w.ownsMap P k R b n' D') : D = D' := by
  obtain ⟨es, c, hb, _, _, rfl⟩ := h
  obtain ⟨es', c', hb', _, _, rfl⟩ := h'
  rw [hb] at hb'
  injection hb' with hb'
  injection hb' with e1 e2
  rw [e1]

section
variable {P : Program} {k : TypeId} {R : Value → Option (DataW Unit × List MemPlace)} {w w' : World} {b r n n' : Nat} {D D' : DataW Unit} {left : Lit → Bool} {cnt : Nat}
theorem has_entry {es : Array MapEntry} {c : Nat} (K : Keyed P k) (F : Fit P k R es c) (kl : Lit) : Maps.has (.map ((es.toList.map (rg P k R)).foldr DataW.insert [])) kl = true ↔ ∃ x ∈ es.toList, (rg P k R x).1 = kl := by
  rw [Maps.has_eq, List.any_eq_true]
  constructor
  · rintro ⟨p, hp, hs⟩
    obtain ⟨x, hx, rfl⟩ := List.mem_map.1 (mem_sorted.1 hp)
    exact ⟨x, hx, WideAt.sameKey_eq hs⟩
  · rintro ⟨x, hx, rfl⟩
    refine ⟨_, mem_sorted.2 (List.mem_map.2 ⟨x, hx, rfl⟩), ?_⟩
    obtain ⟨y, hy⟩ := F.reads x hx
    rw [rg_of hy]
    exact WideAt.sameKey_self (K.key (rd_key hy))
theorem rg_key {es : Array MapEntry} {c : Nat} (F : Fit P k R es c) {x : MapEntry} (hx : x ∈ es.toList) : keyOf P k x.key = some (rg P k R x).1 := by
  obtain ⟨y, hy⟩ := F.reads x hx
  rw [rg_of hy]
  exact rd_key hy
theorem left_has (h : w.ranges P k R b r n D left cnt) (K : Keyed P k) {kl : Lit} (hl : left kl = true) : Maps.has D kl = true := by
  obtain ⟨es, clock, since, seen, c0, hb, F, hs, rfl, hr, hold, hc, hl1, hl2, _⟩ := h
  exact (has_entry K F kl).2 (hl2 kl hl)
/-- The range goes on behind such a step. -/
theorem ranges_step (h : w.ranges P k R b r n D left cnt) (K : Keyed P k) (hst : MapStep w w' b) (hr' : w'.heap[r]? = w.heap[r]?) (hown : w'.ownsMap P k R b n' D') :
    ∃ cnt', w'.ranges P k R b r n' D' (fun kl => left kl && Maps.has D' kl) cnt' ∧ cnt' ≤ cnt := by
  obtain ⟨es, clock, since, seen, c0, hb, F, hs, rfl, hr, hold, hc, hl1, hl2, h1, h2⟩ := h
  obtain ⟨es', hb', hx'⟩ := hst es clock hb
  obtain ⟨es2, c2, hb2, F', hs', rfl⟩ := hown
  rw [hb'] at hb2
  injection hb2 with hb2
  injection hb2 with e1 e2
  subst e1 e2
  have same : ∀ x ∈ es.toList, ∀ x' ∈ es'.toList, x.key = x'.key → (rg P k R x').1 = (rg P k R x).1 := by
    intro x hx x' hx' e
    obtain ⟨y, hy⟩ := F.reads x hx
    obtain ⟨y', hy'⟩ := F'.reads x' hx'
    rw [rg_of hy, rg_of hy']
    have m1 := rd_key hy
    have m2 := rd_key hy'
    rw [e, m2] at m1
    exact Option.some.inj m1
  refine ⟨(leftOf es' seen).size, ⟨es', clock, since, seen, c0, hb', F', hs', rfl, hr'.trans hr, ?_, rfl, ?_, ?_, h1, h2⟩, ?_⟩
  · intro x hx
    obtain ⟨x0, m0, b0, _⟩ := hx' x hx
    rw [← b0]
    exact hold x0 m0
  · intro x hx
    obtain ⟨x0, m0, b0, k0⟩ := hx' x hx
    dsimp only
    rw [(has_entry K F' _).2 ⟨x, hx, rfl⟩, Bool.and_true, same x0 m0 x hx k0, hl1 x0 m0, b0]
  · intro kl hkl
    simp only [Bool.and_eq_true] at hkl
    exact (has_entry K F' kl).1 hkl.2
  · subst hc
    have e1 : ∀ a : Array MapEntry, (leftOf a seen).size = ((a.toList.filter fun e => !seen.contains e.born).map MapEntry.born).length := fun a => by
      unfold leftOf
      rw [← Array.toList_filter, List.length_map, Array.length_toList]
    rw [e1, e1]
    refine List.Nodup.length_le_of_subset ?_ ?_
    · have := F'.stamped.2.1
      exact (List.Sublist.map _ List.filter_sublist).nodup this
    · intro q hq
      obtain ⟨x, hx, rfl⟩ := List.mem_map.1 hq
      rw [List.mem_filter] at hx
      obtain ⟨x0, m0, b0, _⟩ := hx' x hx.1
      exact List.mem_map.2 ⟨x0, List.mem_filter.2 ⟨m0, by rw [b0]; exact hx.2⟩, b0⟩
end

set_option maxRecDepth 100000 in
/-- A store at a key that is there, and a deletion, are such steps. -/
theorem put_step {w w' : World} {mb nl i : Nat} {m : Nat → Nat → Nat} {f : Nat → Nat} (h : MarksAt w mb nl m) (hi : i < nl) (hb : nl ≤ 16384) (hs : someMk (m i))
    (hrun : (Instr.mapUpdate 93 (.map (some mb)) (.int .i64 (i : Int)) (mkV f)).run Try.prog w = .ok () w') : MapStep w w' mb := by
  obtain ⟨D, ⟨es, clock, hmb, F, hsz, rfl⟩, hk, hs2, ha⟩ := h
  have hkey := key_of (i := i) (by omega)
  have hthere := (hs2 i hi).2 hs
  obtain ⟨x0, hx0, hk0⟩ := (has_entry keyed F _).1 hthere
  have hkeys : ∀ e ∈ es.toList, ∃ l, keyOf Try.prog 3 e.key = some l := fun e he => by
    obtain ⟨y, hy⟩ := F.reads e he
    exact ⟨_, rd_key hy⟩
  rcases keyed.find w hkey es.toList hkeys with ⟨h1, h2⟩ | ⟨j, e0, h1, h2, h3⟩
  · exfalso
    have m := rg_key F hx0
    rw [hk0] at m
    exact h2 x0 hx0 (keyed.inj m hkey)
  · have hj : es[j]? = some e0 := by simpa using h2
    have hrun2 : (Instr.mapUpdate 93 (.map (some mb)) (.int .i64 (i : Int)) (mkV f)).run Try.prog w = .ok () (setBlock w mb (.map (es.modify j (fun e' => { e' with key := .int .i64 (i : Int), val := mkV f })) clock)) := by
      simp [Instr.mapUpdate, run_underlying Try.underlying93, MapKept.run_getObj_map hmb, keyed.check w false hkey, h1, hj, h3, keyed.stays w hkey, MapKept.run_setObj_map _ hmb, Result.andThen, setBlock]
    rw [hrun2] at hrun
    injection hrun with _ hw
    subst hw
    intro es2 c2 he2
    rw [hmb] at he2
    injection he2 with he2
    injection he2 with e1 e2
    subst e1 e2
    refine ⟨_, heap_setBlock_same hmb _, fun x' hx' => ?_⟩
    rw [Array.toList_modify] at hx'
    obtain ⟨q, hq, ex⟩ := List.getElem_of_mem hx'
    have hq' : q < es.toList.length := by simpa using hq
    refine ⟨es.toList[q], List.getElem_mem hq', ?_⟩
    rw [List.getElem_modify] at ex
    rw [← ex]
    split
    · rename_i hjq
      subst hjq
      have : es.toList[j] = e0 := by
        rw [List.getElem?_eq_getElem hq'] at h2
        exact Option.some.inj h2
      rw [this]
      exact ⟨rfl, h3⟩
    · exact ⟨rfl, rfl⟩
set_option maxRecDepth 100000 in
theorem del_step {w w' : World} {mb nl i : Nat} {ty : TypeId} {m : Nat → Nat → Nat} (h : MarksAt w mb nl m) (hi : i < nl) (hb : nl ≤ 16384)
    (hrun : (Builtin.delete_ #[93, 3] ty #[.map (some mb), .int .i64 (i : Int)]).run Try.prog w = .ok (.tuple #[]) w') : MapStep w w' mb := by
  obtain ⟨D, ⟨es, clock, hmb, F, hsz, rfl⟩, hk, hs2, ha⟩ := h
  obtain ⟨es', hrun2, _, _, _, hsub, _⟩ := fit_drop_who (ty := ty) keyed Try.underlying93 hmb F (key_of (i := i) (by omega))
  rw [hrun2] at hrun
  injection hrun with _ hw
  subst hw
  intro es2 c2 he2
  rw [hmb] at he2
  injection he2 with he2
  injection he2 with e1 e2
  subst e1 e2
  exact ⟨es', heap_setBlock_same hmb _, fun x hx => ⟨x, hsub.subset hx, rfl, rfl⟩⟩
end Go.Proofs.Yteojhhfcfdkmdaa
/- kept: how many pending stores a crash lets last; for numbers from 0 on, and any list of integers. -/
namespace Go.Proofs.Yteojhhfcfdkmdaa
open Go.RowKit
set_option linter.unusedVariables false
def iv (z : Int) : Value := .int .i64 z
def keptN (keep : List Int) (i n : Nat) : Nat := if keep = [] then 0 else (max 0 (keep.getD (i % keep.length) 0)).toNat % (n + 1)
theorem keptN_le (keep : List Int) (i n : Nat) : keptN keep i n ≤ n := by
  unfold keptN
  split
  · omega
  · have := Nat.mod_lt (max 0 (keep.getD (i % keep.length) 0)).toNat (show 0 < n + 1 by omega)
    omega
end Go.Proofs.Yteojhhfcfdkmdaa
