/- Texts of this claim, packed: PSt, PSmall, PLem, PMarks, PRange, PKept, 7St, 7Fn, SiG, 7Try, SiGc. -/
import Derived.Test.YtiefgmibgdidpaaGreatDoorPh05
import Derived.Maps.OwnSet
import Derived.Maps.Ext
import Derived.Maps.RangeWalk
import Derived.Deep.Draws
import Derived.WalkMore
/- The memory's abstract state, and what a block that reads as it must hold; plain facts on it, without conditions. -/
namespace Go.Proofs.YtiefgmibgdidpaaGreatDoor
open Go.RowKit Go.Maps
set_option linter.unusedVariables false

/-- A memory's state: how many lines; the words that have lasted, and those that are seen; each line's pending stores; how many each client has marked of each line; what was done. -/
structure St where
  nl : Nat
  lasted : List Nat
  view : List Nat
  pend : List (List (Nat × Nat))
  mm : Nat → Nat → Nat
  ld : Nat
  st : Nat
  fl : Nat
  fe : Nat

/-- Where it lies. -/
structure Lay where
  g : Nat
  gl : Nat
  gv : Nat
  gp : Nat
  mb : Nat
  cl : Nat
  cv : Nat
  cp : Nat
  ps : List Value

/-- A line's stores as cells. -/
def flat (l : List (Nat × Nat)) : List Value := l.flatMap fun p => [wv p.1, wv p.2]
theorem flat_cons (p : Nat × Nat) (l : List (Nat × Nat)) : flat (p :: l) = wv p.1 :: wv p.2 :: flat l := by simp [flat]
theorem flat_drop (l : List (Nat × Nat)) (n : Nat) : (flat l).drop (2 * n) = flat (l.drop n) := by
  induction n generalizing l with
  | zero => rfl
  | succ n ih =>
    cases l with
    | nil => simp [flat]
    | cons p t =>
      rw [flat_cons, show 2 * (n + 1) = 2 * n + 1 + 1 from by omega]
      simpa using ih t

/-- A slice in the midst of a block of stores that nothing else reads: nil, or a tail. -/
def Tail (w : World) (v : Value) (l : List (Nat × Nat)) : Prop :=
  (v = .slice none 0 0 ∧ l = []) ∨
  ∃ h off cap cur, v = .slice (some ⟨h, off, none⟩) l.length cap ∧ Row w h 126 cur ∧ 0 < l.length ∧ l.length ≤ cap ∧ cap ≤ maxLen ∧ off + cap * 2 ≤ cur.size ∧ (cur.toList.drop off).take (l.length * 2) = flat l

/-- A client's marks, as a map's element. -/
def mkV (f : Nat → Nat) : Value := .agg (Array.ofFn fun c : Fin 65 => .int .i64 (f c.val : Int))
def mkD (f : Nat → Nat) : DataW Unit := .agg ((List.range 65).map fun c => .lit (.int .i64 (f c : Int)))
/-- How such an element reads: as the number that it is in every place. -/
noncomputable def mkR (v : Value) : Option (DataW Unit × List MemPlace) :=
  open Classical in if h : ∃ f : Nat → Nat, v = mkV f ∧ (∀ c, f c ≤ 9223372036854775807) then some (mkD h.choose, []) else none
def someMk (f : Nat → Nat) : Prop := ∃ c, c < 65 ∧ f c ≠ 0

def key (j : Nat) : Lit := .int .i64 (j : Int)

/-- The marks in the map: a line has an entry just where somebody has marked something of it. -/
def MarksAt (w : World) (mb nl : Nat) (m : Nat → Nat → Nat) : Prop :=
  ∃ D : DataW Unit, w.ownsMap Tryz.prog 3 mkR mb (Maps.size D) D ∧ (∀ k, Maps.has D k = true → ∃ j, j < nl ∧ k = key j) ∧
    (∀ j, j < nl → (Maps.has D (key j) = true ↔ someMk (m j))) ∧ (∀ j, j < nl → ∀ z, Maps.has D (key j) = true → D.atKey (key j) z = mkD (m j))

/-- What must lie in memory. -/
structure MemAt (w : World) (y : Lay) (s : St) : Prop where
  row : Row w y.g 96 #[.slice (some ⟨y.gl, 0, none⟩) (8 * s.nl) y.cl, .slice (some ⟨y.gv, 0, none⟩) (8 * s.nl) y.cv, .slice (some ⟨y.gp, 0, none⟩) s.nl y.cp, .map (some y.mb), wv s.ld, wv s.st, wv s.fl, wv s.fe]
  las : w.ownsRow 0 27 1 (.slice (some ⟨y.gl, 0, none⟩) (8 * s.nl) y.cl) (8 * s.nl) (s.lasted.map wv)
  vie : w.ownsRow 0 27 1 (.slice (some ⟨y.gv, 0, none⟩) (8 * s.nl) y.cv) (8 * s.nl) (s.view.map wv)
  ne : y.gl ≠ y.gv
  pen : w.ownsRow 0 72 1 (.slice (some ⟨y.gp, 0, none⟩) s.nl y.cp) s.nl y.ps
  plen : s.pend.length = s.nl
  tails : ∀ j (h : j < s.nl) (v : Value) (l : List (Nat × Nat)), y.ps[j]? = some v → s.pend[j]? = some l → Tail w v l
  apart : ∀ (i j : Nat) (v u : Value) (g : Nat), i ≠ j → y.ps[i]? = some v → y.ps[j]? = some u → v.ownBlock = some g → u.ownBlock ≠ some g
  marks : MarksAt w y.mb s.nl s.mm
  pos : 0 < s.nl
  most : s.nl ≤ 16384

/-- The blocks that it takes. -/
def Lay.fp (y : Lay) (k : Nat) : Prop := k = y.g ∨ k = y.gl ∨ k = y.gv ∨ k = y.gp ∨ k = y.mb ∨ ∃ (j : Nat) (v : Value), y.ps[j]? = some v ∧ v.ownBlock = some k

/-- What a call makes of a memory's place: the same struct, its blocks or new ones. -/
structure Turn (w w' : World) (y y' : Lay) : Prop where
  g : y'.g = y.g
  but : But w w' y.fp
  fp : ∀ k, y'.fp k → y.fp k ∨ w.heap.size ≤ k
theorem Turn.refl (w : World) (y : Lay) : Turn w w y y := ⟨rfl, But.refl w _, fun _ h => .inl h⟩
theorem Turn.trans {w w1 w2 : World} {y y1 y2 : Lay} (h : Turn w w1 y y1) (h2 : Turn w1 w2 y1 y2) : Turn w w2 y y2 :=
  ⟨h2.g.trans h.g, h.but.trans h2.but h.fp, fun k hk => by
    rcases h2.fp k hk with h3 | h3
    · exact h.fp k h3
    · exact .inr (Nat.le_trans h.but.size h3)⟩
theorem Turn.of_below {w w' : World} (y : Lay) (h : Below w.heap.size w w') : Turn w w' y y := ⟨rfl, But.of_below h _, fun _ h => .inl h⟩
theorem Turn.size {w w' : World} {y y' : Lay} (h : Turn w w' y y') : w.heap.size ≤ w'.heap.size := h.but.size
end Go.Proofs.YtiefgmibgdidpaaGreatDoor
/- The memory's small functions: none, isClient, lineOf, Size, refused, kept: what each answers; the world stays. For nil, for a zero memory, and for one that is there. -/
namespace Go.Proofs.YtiefgmibgdidpaaGreatDoor
open Go.RowKit
set_option linter.unusedVariables false

/-- A pointer to no memory: nil, or a zero one. -/
def NoMem (w : World) (p : Option Addr) : Prop := p = none ∨ ∃ g, p = some ⟨g, 0, none⟩ ∧ Row w g 96 #[.slice none 0 0, .slice none 0 0, .slice none 0 0, .map none, wv 0, wv 0, wv 0, wv 0]
theorem NoMem.below {w w' : World} {p : Option Addr} (h : NoMem w p) (hb : Below w.heap.size w w') : NoMem w' p := by
  rcases h with h | ⟨g, h, hr⟩
  · exact .inl h
  · exact .inr ⟨g, h, hr.below hb hr.lt⟩

theorem none_no {p : Option Addr} {w : World} (h : NoMem w p) : Calls Tryz.prog 51 #[.pointer p] w fun e w' => e = .returned (.bool true) ∧ w = w' := by
  rcases h with rfl | ⟨g, rfl, hr⟩
  · go_enter Tryz.func51, Tryz.ntmps51
    go_wp2
    go_ret
    exact ⟨rfl, rfl⟩
  · have h1 := hr.cell 1
    simp only [List.getElem?_toArray, List.getElem?_cons_succ, List.getElem?_cons_zero] at h1
    go_enter Tryz.func51, Tryz.ntmps51
    go_wp2
    go_ret
    exact ⟨rfl, rfl⟩
theorem none_yes {w : World} {y : Lay} {s : St} (h : MemAt w y s) : Calls Tryz.prog 51 #[.pointer (some ⟨y.g, 0, none⟩)] w fun e w' => e = .returned (.bool false) ∧ w = w' := by
  have h1 := h.row.cell 1
  simp only [List.getElem?_toArray, List.getElem?_cons_succ, List.getElem?_cons_zero] at h1
  have hp := h.pos
  have hm := h.most
  obtain ⟨N, hN⟩ : ∃ N, N = 8 * s.nl := ⟨_, rfl⟩
  rw [← hN] at h1
  have hn : ((N : Int) == 0) = false := by
    rw [Bool.eq_false_iff]
    intro hh
    have := beq_iff_eq.1 hh
    omega
  clear hN
  obtain ⟨g, hg⟩ : ∃ g, g = y.g := ⟨_, rfl⟩
  rw [← hg] at h1 ⊢
  clear hg
  go_enter Tryz.func51, Tryz.ntmps51
  go_wp2
  go_ret
  exact ⟨rfl, rfl⟩

theorem size_no {p : Option Addr} {w : World} (h : NoMem w p) : Calls Tryz.prog 28 #[.pointer p] w fun e w' => e = .returned (.int .i64 0) ∧ w = w' := by
  have H := Lib.hid (none_no h)
  clear h
  go_enter Tryz.func28, Tryz.ntmps28
  go_wp2_with fail
  refine H.out.mono ?_
  rintro e w1 ⟨rfl, rfl⟩
  go_wp2
  go_ret
  exact ⟨rfl, rfl⟩
theorem size_yes {w : World} {y : Lay} {s : St} (h : MemAt w y s) : Calls Tryz.prog 28 #[.pointer (some ⟨y.g, 0, none⟩)] w fun e w' => e = .returned (.int .i64 ((64 * s.nl : Nat) : Int)) ∧ w = w' := by
  have H := Lib.hid (none_yes h)
  have h1 := h.row.cell 1
  simp only [List.getElem?_toArray, List.getElem?_cons_succ, List.getElem?_cons_zero] at h1
  have hm := h.most
  obtain ⟨N, hN⟩ : ∃ N, N = 8 * s.nl := ⟨_, rfl⟩
  rw [← hN] at h1
  rw [show 64 * s.nl = N * 8 from by omega]
  have hN2 : N ≤ 131072 := by omega
  obtain ⟨g, hg⟩ : ∃ g, g = y.g := ⟨_, rfl⟩
  rw [← hg] at h1 H ⊢
  clear hg hN hm h
  go_enter Tryz.func28, Tryz.ntmps28
  go_wp2_with fail
  refine H.out.mono ?_
  rintro e w1 ⟨rfl, rfl⟩
  go_wp2
  go_ret
  exact ⟨rfl, rfl⟩

theorem refused_range {w : World} {y : Lay} {s : St} (h : MemAt w y s) (a : Nat) (ha : a % 8 ≠ 0 ∨ 64 * s.nl ≤ a) : Calls Tryz.prog 82 #[.pointer (some ⟨y.g, 0, none⟩), .bool true, .int .u64 (a : Int)] w fun e w' => e = .returned (.int .i64 3) ∧ w = w' := by
  have H := Lib.hid (none_yes h)
  have HS := Lib.hid (size_yes h)
  have hm := h.most
  obtain ⟨g, hg⟩ : ∃ g, g = y.g := ⟨_, rfl⟩
  rw [← hg] at H HS ⊢
  obtain ⟨Z, hZ⟩ : ∃ Z, Z = 64 * s.nl := ⟨_, rfl⟩
  rw [← hZ] at ha HS
  have hZ2 : Z ≤ 1048576 := by omega
  clear hg h hZ hm
  by_cases h8 : a % 8 = 0
  · have hz : Z ≤ a := by omega
    have hn : (((a : Int) % 8) != 0) = false := by
      have : (a : Int) % 8 = 0 := by omega
      rw [this]; rfl
    clear h8 ha
    go_enter Tryz.func82, Tryz.ntmps82
    go_wp2_with fail
    refine H.out.mono ?_
    rintro e w1 ⟨rfl, rfl⟩
    go_wp2_with fail
    refine HS.out.mono ?_
    rintro e w1 ⟨rfl, rfl⟩
    go_wp2
    go_ret
    exact ⟨rfl, rfl⟩
  · have hn : (((a : Int) % 8) != 0) = true := by
      rw [bne_iff_ne]
      omega
    clear h8 ha
    go_enter Tryz.func82, Tryz.ntmps82
    go_wp2_with fail
    refine H.out.mono ?_
    rintro e w1 ⟨rfl, rfl⟩
    go_wp2
    go_ret
    exact ⟨rfl, rfl⟩
theorem refused_ok {w : World} {y : Lay} {s : St} (h : MemAt w y s) (a : Nat) (h8 : a % 8 = 0) (ha : a < 64 * s.nl) : Calls Tryz.prog 82 #[.pointer (some ⟨y.g, 0, none⟩), .bool true, .int .u64 (a : Int)] w fun e w' => e = .returned (.int .i64 0) ∧ w = w' := by
  have H := Lib.hid (none_yes h)
  have HS := Lib.hid (size_yes h)
  have hm := h.most
  obtain ⟨g, hg⟩ : ∃ g, g = y.g := ⟨_, rfl⟩
  rw [← hg] at H HS ⊢
  obtain ⟨Z, hZ⟩ : ∃ Z, Z = 64 * s.nl := ⟨_, rfl⟩
  rw [← hZ] at ha HS
  have hZ2 : Z ≤ 1048576 := by omega
  clear hg h hZ hm
  have hn : (((a : Int) % 8) != 0) = false := by
    have : (a : Int) % 8 = 0 := by omega
    rw [this]; rfl
  clear h8
  go_enter Tryz.func82, Tryz.ntmps82
  go_wp2_with fail
  refine H.out.mono ?_
  rintro e w1 ⟨rfl, rfl⟩
  go_wp2_with fail
  refine HS.out.mono ?_
  rintro e w1 ⟨rfl, rfl⟩
  go_wp2
  go_ret
  exact ⟨rfl, rfl⟩
end Go.Proofs.YtiefgmibgdidpaaGreatDoor
/- How a memory's place is kept while other blocks turn, and that its blocks differ; without conditions. -/
namespace Go.Proofs.YtiefgmibgdidpaaGreatDoor
open Go.RowKit Go.Maps
set_option linter.unusedVariables false

/-- A cell in another block stays. -/
theorem cell_far {w : World} {p q : Addr} (h : p.block ≠ q.block) (u : Value) : (w.setCell p u).cell? q = w.cell? q :=
  World.cell?_of_block (heap_setCell_other w p q.block u (Ne.symm h))
theorem cell_else {w : World} {g i j : Nat} (h : i ≠ j) (u : Value) : (w.setCell ⟨g, i, none⟩ u).cell? ⟨g, j, none⟩ = w.cell? ⟨g, j, none⟩ :=
  World.cell?_setCell_other _ _ _ _ (fun e => h (by injection e))
theorem Row.ne {w : World} {g g' : Nat} {t t' : TypeId} {cs cs' : Array Value} (h : Row w g t cs) (h' : Row w g' t' cs') (hne : t ≠ t') : g ≠ g' := by
  rintro rfl
  unfold Row at h h'
  rw [h] at h'
  injection h' with h'
  injection h' with _ ht
  exact hne ht
theorem Row.ne_map {w : World} {g g' : Nat} {t : TypeId} {cs : Array Value} {es : Array MapEntry} {c : Nat} (h : Row w g t cs) (h' : w.heap[g']? = some (.map es c)) : g ≠ g' := by
  rintro rfl
  unfold Row at h
  rw [h] at h'
  injection h' with h'
  cases h'
theorem Row.same {w w' : World} {g : Nat} {t : TypeId} {cs : Array Value} (h : Row w g t cs) (hk : w'.heap[g]? = w.heap[g]?) : Row w' g t cs := hk.trans h
theorem own_at {w : World} {B n g c : Nat} {e : TypeId} {xs : List Value} (h : w.ownsRow B e 1 (.slice (some ⟨g, 0, none⟩) n c) n xs) : ∃ cur, Row w g e cur := by
  rcases h.2 with ⟨h0, _⟩ | ⟨g', cap, cur, h0, _, hh, _⟩
  · cases h0
  · simp only [Value.slice.injEq, Option.some.injEq, Addr.mk.injEq, and_true, true_and] at h0
    obtain ⟨rfl, rfl⟩ := h0
    exact ⟨cur, hh⟩
theorem own_same {w w' : World} {B n g c : Nat} {e : TypeId} {xs : List Value} (h : w.ownsRow B e 1 (.slice (some ⟨g, 0, none⟩) n c) n xs) (hk : w'.heap[g]? = w.heap[g]?) : w'.ownsRow B e 1 (.slice (some ⟨g, 0, none⟩) n c) n xs := by
  refine ⟨h.1, ?_⟩
  rcases h.2 with h0 | ⟨g', cap, cur, h0, hg, hh, hr⟩
  · exact .inl h0
  · have e1 := h0
    simp only [Value.slice.injEq, Option.some.injEq, Addr.mk.injEq, and_true, true_and] at e1
    obtain ⟨rfl, rfl⟩ := e1
    exact .inr ⟨g, c, cur, rfl, hg, hk.trans hh, hr⟩
theorem own_lt {w : World} {B n g c : Nat} {e : TypeId} {xs : List Value} (h : w.ownsRow B e 1 (.slice (some ⟨g, 0, none⟩) n c) n xs) : g < w.heap.size := (h.lt g rfl).2

theorem Tail.row {w : World} {v : Value} {l : List (Nat × Nat)} {h : Nat} (ht : Tail w v l) (hb : v.ownBlock = some h) : ∃ cur, Row w h 126 cur := by
  rcases ht with ⟨rfl, _⟩ | ⟨h', off, cap, cur, rfl, hr, _⟩
  · cases hb
  · have : h' = h := by simpa [Value.ownBlock] using hb
    subst this
    exact ⟨cur, hr⟩
theorem Tail.same {w w' : World} {v : Value} {l : List (Nat × Nat)} (ht : Tail w v l) (hk : ∀ h, v.ownBlock = some h → w'.heap[h]? = w.heap[h]?) : Tail w' v l := by
  rcases ht with h0 | ⟨h', off, cap, cur, rfl, hr, hrest⟩
  · exact .inl h0
  · exact .inr ⟨h', off, cap, cur, rfl, hr.same (hk h' rfl), hrest⟩
theorem Tail.len {w : World} {v : Value} {l : List (Nat × Nat)} (ht : Tail w v l) : ∃ A c, v = .slice A l.length c ∧ l.length ≤ c := by
  rcases ht with ⟨rfl, rfl⟩ | ⟨h', off, cap, cur, rfl, _, _, hlc, _⟩
  · exact ⟨_, _, rfl, Nat.le_refl _⟩
  · exact ⟨_, _, rfl, hlc⟩

theorem MarksAt.same {w w' : World} {mb nl : Nat} {m : Nat → Nat → Nat} (h : MarksAt w mb nl m) (hk : w'.heap[mb]? = w.heap[mb]?) : MarksAt w' mb nl m := by
  obtain ⟨D, ⟨es, c, hb, hr⟩, h2⟩ := h
  exact ⟨D, ⟨es, c, hk.trans hb, hr⟩, h2⟩
theorem MarksAt.map {w : World} {mb nl : Nat} {m : Nat → Nat → Nat} (h : MarksAt w mb nl m) : ∃ es c, w.heap[mb]? = some (.map es c) := by
  obtain ⟨D, ⟨es, c, hb, hr⟩, h2⟩ := h
  exact ⟨es, c, hb⟩
theorem MarksAt.lt {w : World} {mb nl : Nat} {m : Nat → Nat → Nat} (h : MarksAt w mb nl m) : mb < w.heap.size := by
  obtain ⟨es, c, hb⟩ := h.map
  exact (Array.getElem?_eq_some_iff.1 hb).1

theorem ps_get {w : World} {y : Lay} {s : St} (h : MemAt w y s) {j : Nat} (hj : j < s.nl) : ∃ v l, y.ps[j]? = some v ∧ s.pend[j]? = some l ∧ Tail w v l := by
  have h1 : y.ps.length = s.nl := by have := h.pen.1; omega
  have h2 := h.plen
  exact ⟨_, _, List.getElem?_eq_getElem (by omega), List.getElem?_eq_getElem (by omega), h.tails j hj _ _ (List.getElem?_eq_getElem (by omega)) (List.getElem?_eq_getElem (by omega))⟩
theorem ps_len {w : World} {y : Lay} {s : St} (h : MemAt w y s) : y.ps.length = s.nl := by have := h.pen.1; omega
theorem ps_row {w : World} {y : Lay} {s : St} (h : MemAt w y s) {j : Nat} {v : Value} {k : Nat} (hv : y.ps[j]? = some v) (hk : v.ownBlock = some k) : ∃ cur, Row w k 126 cur := by
  have hj : j < s.nl := by
    have := ps_len h
    have := (List.getElem?_eq_some_iff.1 hv).1
    omega
  obtain ⟨v', l, h1, h2, h3⟩ := ps_get h hj
  rw [hv] at h1
  cases h1
  exact h3.row hk

/-- The blocks differ. -/
structure Differ (y : Lay) : Prop where
  g_gl : y.g ≠ y.gl
  g_gv : y.g ≠ y.gv
  g_gp : y.g ≠ y.gp
  g_mb : y.g ≠ y.mb
  gl_gv : y.gl ≠ y.gv
  gl_gp : y.gl ≠ y.gp
  gl_mb : y.gl ≠ y.mb
  gv_gp : y.gv ≠ y.gp
  gv_mb : y.gv ≠ y.mb
  gp_mb : y.gp ≠ y.mb
  tail : ∀ (j : Nat) (v : Value) (k : Nat), y.ps[j]? = some v → v.ownBlock = some k → k ≠ y.g ∧ k ≠ y.gl ∧ k ≠ y.gv ∧ k ≠ y.gp ∧ k ≠ y.mb
theorem MemAt.differ {w : World} {y : Lay} {s : St} (h : MemAt w y s) : Differ y := by
  obtain ⟨cl, hl⟩ := own_at h.las
  obtain ⟨cv, hv⟩ := own_at h.vie
  obtain ⟨cp, hp⟩ := own_at h.pen
  obtain ⟨es, c, hm⟩ := h.marks.map
  refine ⟨h.row.ne hl (by decide), h.row.ne hv (by decide), h.row.ne hp (by decide), h.row.ne_map hm, h.ne, hl.ne hp (by decide), hl.ne_map hm, hv.ne hp (by decide), hv.ne_map hm, hp.ne_map hm, ?_⟩
  intro j v k hv' hk
  obtain ⟨cur, hr⟩ := ps_row h hv' hk
  exact ⟨hr.ne h.row (by decide), hr.ne hl (by decide), hr.ne hv (by decide), hr.ne hp (by decide), hr.ne_map hm⟩
theorem MemAt.lt {w : World} {y : Lay} {s : St} (h : MemAt w y s) : ∀ k, y.fp k → k < w.heap.size := by
  rintro k (rfl | rfl | rfl | rfl | rfl | ⟨j, v, hv, hk⟩)
  · exact h.row.lt
  · exact own_lt h.las
  · exact own_lt h.vie
  · exact own_lt h.pen
  · exact h.marks.lt
  · obtain ⟨cur, hr⟩ := ps_row h hv hk
    exact hr.lt
/-- The memory stays while its blocks do. -/
theorem MemAt.same {w w' : World} {y : Lay} {s : St} (h : MemAt w y s) (hk : ∀ k, y.fp k → w'.heap[k]? = w.heap[k]?) : MemAt w' y s := by
  refine ⟨h.row.same (hk _ (.inl rfl)), own_same h.las (hk _ (.inr (.inl rfl))), own_same h.vie (hk _ (.inr (.inr (.inl rfl)))), h.ne, own_same h.pen (hk _ (.inr (.inr (.inr (.inl rfl))))), h.plen, ?_, h.apart, h.marks.same (hk _ (.inr (.inr (.inr (.inr (.inl rfl)))))), h.pos, h.most⟩
  intro j hj v l hv hl
  exact (h.tails j hj v l hv hl).same fun k hk' => hk k (.inr (.inr (.inr (.inr (.inr ⟨j, v, hv, hk'⟩)))))
theorem MemAt.below {w w' : World} {y : Lay} {s : St} (h : MemAt w y s) (hb : Below w.heap.size w w') : MemAt w' y s := h.same fun k hk => hb.block k (h.lt k hk)
theorem MemAt.but {w w' : World} {y : Lay} {s : St} {fp : Nat → Prop} (h : MemAt w y s) (hb : But w w' fp) (hd : ∀ k, y.fp k → ¬ fp k) : MemAt w' y s := h.same fun k hk => hb.block k (h.lt k hk) (hd k hk)
theorem own_stored {w : World} {B n g c : Nat} {e : TypeId} {xs : List Value} (h : w.ownsRow B e 1 (.slice (some ⟨g, 0, none⟩) n c) n xs) (j : Nat) (u : Value) : (w.setCell ⟨g, j, none⟩ u).ownsRow B e 1 (.slice (some ⟨g, 0, none⟩) n c) n (xs.set j u) := by
  rcases h.2 with ⟨h0, _⟩ | ⟨g', cap, cur, h0, hg, hh, hnc, hm, hsz, htk⟩
  · cases h0
  · simp only [Value.slice.injEq, Option.some.injEq, Addr.mk.injEq, and_true, true_and] at h0
    obtain ⟨rfl, rfl⟩ := h0
    refine ⟨by simpa using h.1, .inr ⟨g, c, _, rfl, hg, heap_setCell_same w g j cur e u hh, hnc, hm, by simpa using hsz, ?_⟩⟩
    rw [Array.toList_setIfInBounds, ← htk, List.take_set]
end Go.Proofs.YtiefgmibgdidpaaGreatDoor
/- The marks' map: what a look-up yields, what a store and a deletion make of it; for lines that there are, and marks that fit. -/
namespace Go.Proofs.YtiefgmibgdidpaaGreatDoor
open Go.RowKit Go.Maps
set_option linter.unusedVariables false
/-- The marks with one line's set anew. -/
def upd (m : Nat → Nat → Nat) (i : Nat) (f : Nat → Nat) : Nat → Nat → Nat := fun j => if j = i then f else m j
/-- A state that a memory can have: its words fit; each line's stores lie in it; nobody has marked more than is pending; no number is great. -/
structure St.Ok (s : St) : Prop where
  las : ∀ x ∈ s.lasted, x < 18446744073709551616
  vie : ∀ x ∈ s.view, x < 18446744073709551616
  put : ∀ (j : Nat) (l : List (Nat × Nat)), s.pend[j]? = some l → ∀ p ∈ l, p.1 % 8 = 0 ∧ p.1 / 64 = j ∧ p.2 < 18446744073709551616
  few : ∀ l ∈ s.pend, l.length ≤ 1000000000
  mks : ∀ j c, s.mm j c ≤ (s.pend.getD j []).length
  num : s.ld < 9223372036854775808 ∧ s.st < 9223372036854775808 ∧ s.fl < 9223372036854775808 ∧ s.fe < 9223372036854775808
end Go.Proofs.YtiefgmibgdidpaaGreatDoor
/- A map that is gone over while its entries are written anew or struck: what is left stays what it was, but for those that are struck; without conditions. -/
namespace Go.Proofs.YtiefgmibgdidpaaGreatDoor
open Go.RowKit Go.Maps Go.ChangeMaps Go.MapKept
open Go.WideElems (Fit rd rg pl rd_val rd_key rg_of)
set_option linter.unusedVariables false

/-- The map's entries behind are some of those ahead, by their stamps and keys; the clock stands. -/
def MapStep (w w' : World) (b : Nat) : Prop :=
  ∀ es clock, w.heap[b]? = some (.map es clock) → ∃ es' : Array MapEntry, w'.heap[b]? = some (.map es' clock) ∧ ∀ x' ∈ es'.toList, ∃ x ∈ es.toList, x.born = x'.born ∧ x.key = x'.key
theorem MapStep.same {w w' : World} {b : Nat} (h : w'.heap[b]? = w.heap[b]?) : MapStep w w' b := fun es c he => ⟨es, h.trans he, fun x hx => ⟨x, hx, rfl, rfl⟩⟩
theorem MapStep.trans {w w1 w2 : World} {b : Nat} (h : MapStep w w1 b) (h2 : MapStep w1 w2 b) : MapStep w w2 b := by
  intro es c he
  obtain ⟨es1, h1, hx1⟩ := h es c he
  obtain ⟨es2, h3, hx2⟩ := h2 es1 c h1
  refine ⟨es2, h3, fun x hx => ?_⟩
  obtain ⟨x1, m1, b1, k1⟩ := hx2 x hx
  obtain ⟨x0, m0, b0, k0⟩ := hx1 x1 m1
  exact ⟨x0, m0, b0.trans b1, k0.trans k1⟩

section
variable {P : Program} {k : TypeId} {R : Value → Option (DataW Unit × List MemPlace)} {w w' : World} {b r n n' : Nat} {D D' : DataW Unit} {left : Lit → Bool} {cnt : Nat}
end

end Go.Proofs.YtiefgmibgdidpaaGreatDoor
/- kept: how many pending stores a crash lets last; for numbers from 0 on, and any list of integers. -/
namespace Go.Proofs.YtiefgmibgdidpaaGreatDoor
open Go.RowKit
set_option linter.unusedVariables false
def iv (z : Int) : Value := .int .i64 z
def keptN (keep : List Int) (i n : Nat) : Nat := if keep = [] then 0 else (max 0 (keep.getD (i % keep.length) 0)).toNat % (n + 1)
end Go.Proofs.YtiefgmibgdidpaaGreatDoor
/- The locks' abstract state, and the blocks that read as it; plain facts, without conditions. -/
namespace Go.Proofs.YtiefgmibgdidpaaGreatDoor
open Go.RowKit Go.Maps
set_option linter.unusedVariables false
/-- How many clients; who has which; for what each waits (0: for nothing); no more locks than this. -/
structure Lk where
  n : Nat
  hm : Nat → Option Nat
  wt : Nat → Nat
  sz : Nat
/-- A state that a table can have. -/
structure Lk.Ok (s : Lk) : Prop where
  n1 : 1 ≤ s.n
  n2 : s.n ≤ 64
  h0 : s.hm 0 = none
  hc : ∀ id c, s.hm id = some c → c < s.n ∧ id < 18446744073709551616
  wb : ∀ c, s.wt c < 18446744073709551616
  wo : ∀ c, s.n ≤ c → s.wt c = 0
  hw : ∀ c, s.wt c ≠ 0 → s.hm (s.wt c) ≠ some c
  zs : s.sz ≤ 1000000
def kR : Value → Option (DataW Unit × List MemPlace)
  | .int .i64 n => some (.lit (.int .i64 n), [])
  | _ => none
def akey (id : Nat) : Lit := .int .u64 (id : Int)
theorem akeyed : Keyed Tryz.prog 28 := int_keyed Tryz.underlying28
theorem akey_inj {i j : Nat} (h : akey i = akey j) : i = j := by
  unfold akey at h
  injection h with _ h
  omega
theorem akey_is (i : Nat) : WideAt.IsKeyLit (akey i) := by
  unfold akey WideAt.IsKeyLit
  trivial
theorem akey_of {i : Nat} (h : i < 18446744073709551616) : keyOf Tryz.prog 28 (.int .u64 (i : Int)) = some (akey i) := by
  refine keyOf_int_mk Tryz.underlying28 ?_
  simp only [Lit.wf, Bool.and_eq_true, decide_eq_true_eq]
  exact ⟨by show (0 : Int) ≤ _; omega, by show _ ≤ (18446744073709551615 : Int); omega⟩
theorem zeroInt (W : World) : (zeroValue 3).run Tryz.prog W = .ok (.int .i64 0) W := by kernel_rfl
/-- The map of who has which lock. -/
def HasAt (w : World) (b : Nat) (hm : Nat → Option Nat) (sz : Nat) : Prop :=
  ∃ D : DataW Unit, w.ownsMap Tryz.prog 28 kR b sz D ∧ (∀ k, Maps.has D k = true → ∃ id, id < 18446744073709551616 ∧ k = akey id) ∧
    (∀ id, id < 18446744073709551616 → Maps.has D (akey id) = (hm id).isSome) ∧ (∀ id c, id < 18446744073709551616 → hm id = some c → ∀ z, D.atKey (akey id) z = .lit (.int .i64 (c : Int)))
theorem HasAt.map {w : World} {b sz : Nat} {hm : Nat → Option Nat} (h : HasAt w b hm sz) : ∃ es c, w.heap[b]? = some (.map es c) := by
  obtain ⟨D, ⟨es, c, hb, hr⟩, h2⟩ := h
  exact ⟨es, c, hb⟩
theorem HasAt.lt {w : World} {b sz : Nat} {hm : Nat → Option Nat} (h : HasAt w b hm sz) : b < w.heap.size := by
  obtain ⟨es, c, hb⟩ := h.map
  exact (Array.getElem?_eq_some_iff.1 hb).1
theorem HasAt.same {w w' : World} {b sz : Nat} {hm : Nat → Option Nat} (h : HasAt w b hm sz) (hk : w'.heap[b]? = w.heap[b]?) : HasAt w' b hm sz := by
  obtain ⟨D, ⟨es, c, hb, hr⟩, h2⟩ := h
  exact ⟨D, ⟨es, c, hk.trans hb, hr⟩, h2⟩
theorem kR_inv {v : Value} {y : DataW Unit × List MemPlace} (h : kR v = some y) : ∃ n, v = .int .i64 n ∧ y = (.lit (.int .i64 n), []) := by
  unfold kR at h
  split at h
  · cases h
    exact ⟨_, rfl, rfl⟩
  · cases h
/-- What a look-up yields. -/
def hV (o : Option Nat) : Value := .int .i64 ((o.getD 0 : Nat) : Int)
theorem has_val {hm : Nat → Option Nat} {D : DataW Unit} {id : Nat} (hi : id < 18446744073709551616) (h1 : Maps.has D (akey id) = (hm id).isSome) (h2 : ∀ c, hm id = some c → ∀ z, D.atKey (akey id) z = .lit (.int .i64 (c : Int)))
    {v : Value} {ps : List MemPlace} (hv : kR v = some (D.atKey (akey id) (.lit (.int .i64 0)), ps)) : v = hV (hm id) := by
  obtain ⟨n, rfl, he⟩ := kR_inv hv
  injection he with he _
  cases e : hm id with
  | none =>
    rw [e] at h1
    rw [atKey_of_not_has h1] at he
    injection he with he
    injection he with _ he
    rw [← he]
    rfl
  | some c =>
    rw [h2 c e] at he
    injection he with he
    injection he with _ he
    rw [← he]
    rfl
theorem has_look_ok {w : World} {b sz id : Nat} {hm : Nat → Option Nat} (h : HasAt w b hm sz) (hi : id < 18446744073709551616) :
    (Instr.lookup 132 (.map (some b)) (.int .u64 (id : Int)) true).run Tryz.prog w = .ok (.tuple #[hV (hm id), .bool (hm id).isSome]) w := by
  obtain ⟨D, hown, hk, hs, ha⟩ := h
  obtain ⟨v, ps, hrun, hv⟩ := hown.look_ok akeyed Tryz.underlying132 (zeroInt w) (show kR (.int .i64 0) = some (.lit (.int .i64 0), []) from rfl) (akey_of hi)
  rw [hrun, has_val hi (hs id hi) (fun c hc => ha id c hi hc) hv, hs id hi]
/-- The map with one key set. -/
def setH (hm : Nat → Option Nat) (id : Nat) (o : Option Nat) : Nat → Option Nat := fun j => if j = id then o else hm j
theorem has_put {w : World} {b sz id c : Nat} {hm : Nat → Option Nat} (h : HasAt w b hm sz) (hz : sz ≤ 1000000) (hi : id < 18446744073709551616) :
    ∃ w', (Instr.mapUpdate 132 (.map (some b)) (.int .u64 (id : Int)) (.int .i64 (c : Int))).run Tryz.prog w = .ok () w' ∧ HasAt w' b (setH hm id (some c)) (sz + 1) ∧ w.grownBy w' (some b) := by
  obtain ⟨D, hown, hk, hs, ha⟩ := h
  obtain ⟨w', hrun, ho, hg⟩ := hown.update akeyed Tryz.underlying132 (by unfold maxLen; omega) (akey_of hi) (show kR (.int .i64 (c : Int)) = some (.lit (.int .i64 (c : Int)), []) from rfl)
  refine ⟨w', hrun, ⟨_, ho, ?_, ?_, ?_⟩, hg⟩
  · intro k hk'
    by_cases e : k = akey id
    · exact ⟨id, hi, e⟩
    · rw [has_put_other e] at hk'
      exact hk k hk'
  · intro j hj
    by_cases e : j = id
    · subst e
      simp only [setH, if_true]
      exact has_put_same hown.isMap (akey_is _) _
    · rw [has_put_other (fun e' => e (akey_inj e')), hs j hj]
      simp only [setH, if_neg e]
  · intro j c' hj hc z
    by_cases e : j = id
    · subst e
      simp only [setH, if_true, Option.some.injEq] at hc
      subst hc
      exact atKey_put_same hown.isMap (akey_is _) _ _
    · have e' : akey j ≠ akey id := fun e' => e (akey_inj e')
      rw [atKey_put_other e']
      simp only [setH, if_neg e] at hc
      exact ha j c' hj hc z
theorem has_del {w : World} {b sz id : Nat} {ty : TypeId} {hm : Nat → Option Nat} (h : HasAt w b hm sz) (hi : id < 18446744073709551616) :
    ∃ w', (Builtin.delete_ #[132, 28] ty #[.map (some b), .int .u64 (id : Int)]).run Tryz.prog w = .ok (.tuple #[]) w' ∧ HasAt w' b (setH hm id none) sz ∧ w.grownBy w' (some b) := by
  obtain ⟨D, hown, hk, hs, ha⟩ := h
  obtain ⟨w', hrun, ho, ht⟩ := hown.drop akeyed Tryz.underlying132 (akey_of hi) ty
  refine ⟨w', hrun, ⟨_, ho, ?_, ?_, ?_⟩, ht.grown⟩
  · intro k hk'
    by_cases e : k = akey id
    · subst e
      rw [has_del_same] at hk'
      cases hk'
    · rw [has_del_other e] at hk'
      exact hk k hk'
  · intro j hj
    by_cases e : j = id
    · subst e
      simp only [setH, if_true]
      rw [has_del_same]
      rfl
    · rw [has_del_other (fun e' => e (akey_inj e')), hs j hj]
      simp only [setH, if_neg e]
  · intro j c' hj hc z
    by_cases e : j = id
    · subst e
      simp only [setH, if_true] at hc
      cases hc
    · have e' : akey j ≠ akey id := fun e' => e (akey_inj e')
      rw [atKey_del_other e']
      simp only [setH, if_neg e] at hc
      exact ha j c' hj hc z
/-- A table's cells. -/
def ktcells (n : Nat) (m : Option Nat) (wt : Nat → Nat) : Array Value := #[.int .i64 (n : Int), .map m] ++ Array.ofFn fun i : Fin 64 => wv (wt i.val)
theorem tcells_0 (n : Nat) (m : Option Nat) (wt : Nat → Nat) : (ktcells n m wt)[0]? = some (.int .i64 (n : Int)) := by simp [ktcells, Array.getElem?_append]
theorem tcells_1 (n : Nat) (m : Option Nat) (wt : Nat → Nat) : (ktcells n m wt)[1]? = some (.map m) := by simp [ktcells, Array.getElem?_append]
theorem tcells_w (n : Nat) (m : Option Nat) (wt : Nat → Nat) {c : Nat} (h : c < 64) : (ktcells n m wt)[2 + c]? = some (.int .u64 (wt c : Int)) := by
  rw [ktcells, Array.getElem?_append_right (by simp)]
  simp [h, wv]
def setW (wt : Nat → Nat) (c a : Nat) : Nat → Nat := fun i => if i = c then a else wt i
theorem ktcells_set (n : Nat) (m : Option Nat) (wt : Nat → Nat) (c a : Nat) (h : c < 64) : (ktcells n m wt).setIfInBounds (2 + c) (.int .u64 (a : Int)) = ktcells n m (setW wt c a) := by
  apply Array.ext
  · simp [ktcells]
  · intro i h1 h2
    rw [Array.getElem_setIfInBounds (by simpa using h1)]
    by_cases e : 2 + c = i
    · subst e
      rw [if_pos rfl]
      have := tcells_w n m (setW wt c a) h
      rw [Array.getElem?_eq_getElem h2] at this
      simpa [setW] using this.symm
    · rw [if_neg e]
      by_cases hi : i < 2
      · simp only [ktcells]
        rw [Array.getElem_append_left (by simpa using hi), Array.getElem_append_left (by simpa using hi)]
      · simp only [ktcells]
        rw [Array.getElem_append_right (by simp; omega), Array.getElem_append_right (by simp; omega)]
        have e' : ¬ i - 2 = c := by omega
        simp [setW, e']
/-- What must lie in memory. -/
structure KAt (w : World) (g b : Nat) (s : Lk) : Prop where
  row : Row w g 135 (ktcells s.n (some b) s.wt)
  mp : HasAt w b s.hm s.sz
  ok : s.Ok
theorem KAt.ne {w : World} {g b : Nat} {s : Lk} (h : KAt w g b s) : g ≠ b := by
  rintro rfl
  obtain ⟨es, c, hb⟩ := h.mp.map
  have hr := h.row
  unfold Row at hr
  rw [hb] at hr
  injection hr with hr
  cases hr
theorem KAt.same {w w' : World} {g b : Nat} {s : Lk} (h : KAt w g b s) (hg : w'.heap[g]? = w.heap[g]?) (hb : w'.heap[b]? = w.heap[b]?) : KAt w' g b s :=
  ⟨(show w'.heap[g]? = _ from hg.trans h.row), h.mp.same hb, h.ok⟩
theorem KAt.below {w w' : World} {g b : Nat} {s : Lk} (h : KAt w g b s) (hb : Below w.heap.size w w') : KAt w' g b s := h.same (hb.block _ h.row.lt) (hb.block _ h.mp.lt)
/-- The blocks that a table takes. -/
def kfp (g b k : Nat) : Prop := k = g ∨ k = b
theorem KAt.but {w w' : World} {g b : Nat} {s : Lk} {fp : Nat → Prop} (h : KAt w g b s) (hb : But w w' fp) (h1 : ¬ fp g) (h2 : ¬ fp b) : KAt w' g b s := h.same (hb.block _ h.row.lt h1) (hb.block _ h.mp.lt h2)
theorem KAt.cn {w : World} {g b : Nat} {s : Lk} (h : KAt w g b s) : w.cell? ⟨g, 0, none⟩ = some (.int .i64 (s.n : Int)) := by rw [h.row.cell]; exact tcells_0 _ _ _
theorem KAt.cm {w : World} {g b : Nat} {s : Lk} (h : KAt w g b s) : w.cell? ⟨g, 1, none⟩ = some (.map (some b)) := by rw [h.row.cell]; exact tcells_1 _ _ _
theorem KAt.cw {w : World} {g b : Nat} {s : Lk} (h : KAt w g b s) {c : Nat} (hc : c < 64) : w.cell? ⟨g, 2 + c, none⟩ = some (.int .u64 (s.wt c : Int)) := by rw [h.row.cell]; exact tcells_w _ _ _ hc
theorem KAt.free {w : World} {g b : Nat} {s : Lk} (h : KAt w g b s) (i : Nat) : w.frozen? ⟨g, i, none⟩ = false := h.row.free i
/-- A pointer to no table: nil, or a zero one. -/
def NoTab (w : World) (p : Option Addr) : Prop := p = none ∨ ∃ g, p = some ⟨g, 0, none⟩ ∧ Row w g 135 (ktcells 0 none fun _ => 0)
theorem NoTab.below {w w' : World} {p : Option Addr} (h : NoTab w p) (hb : Below w.heap.size w w') : NoTab w' p := by
  rcases h with h | ⟨g, h, hr⟩
  · exact .inl h
  · exact .inr ⟨g, h, hr.below hb hr.lt⟩
end Go.Proofs.YtiefgmibgdidpaaGreatDoor
/- Clients, is, none, Holder, Wants, ahead: what each answers; the world stays. For nil, for a zero table, and for one that is there. -/
namespace Go.Proofs.YtiefgmibgdidpaaGreatDoor
open Go.RowKit
set_option linter.unusedVariables false
theorem clients_no {p : Option Addr} {w : World} (h : NoTab w p) : Calls Tryz.prog 52 #[.pointer p] w fun e w' => e = .returned (.int .i64 0) ∧ w = w' := by
  rcases h with rfl | ⟨g, rfl, hr⟩
  · go_enter Tryz.func52, Tryz.ntmps52
    go_wp2
    go_ret
    exact ⟨rfl, rfl⟩
  · have h1 : w.cell? ⟨g, 0, none⟩ = some (.int .i64 0) := by rw [hr.cell]; exact tcells_0 _ _ _
    go_enter Tryz.func52, Tryz.ntmps52
    go_wp2
    go_ret
    exact ⟨rfl, rfl⟩
theorem clients_yes {w : World} {g b : Nat} {s : Lk} (h : KAt w g b s) : Calls Tryz.prog 52 #[.pointer (some ⟨g, 0, none⟩)] w fun e w' => e = .returned (.int .i64 (s.n : Int)) ∧ w = w' := by
  have h1 := h.cn
  clear h
  go_enter Tryz.func52, Tryz.ntmps52
  go_wp2
  go_ret
  exact ⟨rfl, rfl⟩
theorem is_no {p : Option Addr} {w : World} (h : NoTab w p) (c : Int) : Calls Tryz.prog 53 #[.pointer p, .int .i64 c] w fun e w' => e = .returned (.bool false) ∧ w = w' := by
  by_cases h0 : 0 ≤ c
  · have hn : decide (c < 0) = false := by simpa using h0
    go_enter Tryz.func53, Tryz.ntmps53
    go_wp2_with fail
    refine (clients_no h).mono ?_
    rintro e w1 ⟨rfl, rfl⟩
    go_wp2
    go_ret
    exact ⟨rfl, rfl⟩
  · go_enter Tryz.func53, Tryz.ntmps53
    go_wp2
    go_ret
    exact ⟨rfl, rfl⟩
/-- Is there such a client? -/
def isC (s : Lk) (c : Int) : Bool := decide (0 ≤ c ∧ c < (s.n : Int))
theorem kis_any {w : World} {g b : Nat} {s : Lk} (h : KAt w g b s) (c : Int) : Calls Tryz.prog 53 #[.pointer (some ⟨g, 0, none⟩), .int .i64 c] w fun e w' => e = .returned (.bool (isC s c)) ∧ w = w' := by
  have H := Lib.hid (clients_yes h)
  clear h
  by_cases h0 : 0 ≤ c
  · by_cases h1 : c < (s.n : Int)
    · have e : isC s c = true := by simp [isC, h0, h1]
      rw [e]
      clear e
      generalize s.n = n at *
      go_enter Tryz.func53, Tryz.ntmps53
      go_wp2_with fail
      refine H.out.mono ?_
      rintro e w1 ⟨rfl, rfl⟩
      go_wp2
      go_ret
      exact ⟨rfl, rfl⟩
    · have e : isC s c = false := by simp [isC, h1]
      rw [e]
      clear e
      generalize s.n = n at *
      have h2 : decide (c < (n : Int)) = false := by simpa using h1
      go_enter Tryz.func53, Tryz.ntmps53
      go_wp2_with fail
      refine H.out.mono ?_
      rintro e w1 ⟨rfl, rfl⟩
      go_wp2
      go_ret
      exact ⟨rfl, rfl⟩
  · have e : isC s c = false := by simp [isC, h0]
    rw [e]
    clear e
    go_enter Tryz.func53, Tryz.ntmps53
    go_wp2
    go_ret
    exact ⟨rfl, rfl⟩
theorem holder_any {w : World} {g b : Nat} {s : Lk} (h : KAt w g b s) {id : Nat} (hi : id < 18446744073709551616) : Calls Tryz.prog 26 #[.pointer (some ⟨g, 0, none⟩), .int .u64 (id : Int)] w fun e w' => e = .returned (.tuple #[hV (s.hm id), .bool (s.hm id).isSome]) ∧ w = w' := by
  have h1 := h.cm
  have hl := has_look_ok h.mp hi
  clear h hi
  have e : hV (s.hm id) = .int .i64 ((s.hm id).getD 0 : Nat) := rfl
  rw [e] at hl ⊢
  clear e
  generalize ((s.hm id).getD 0 : Nat) = x at *
  generalize (s.hm id).isSome = y at *
  go_enter Tryz.func26, Tryz.ntmps26
  go_wp2
  go_ret2
  exact ⟨rfl, rfl⟩
theorem wants_no {p : Option Addr} {w : World} (h : NoTab w p) (c : Int) : Calls Tryz.prog 30 #[.pointer p, .int .i64 c] w fun e w' => e = .returned (.tuple #[.int .u64 0, .bool false]) ∧ w = w' := by
  have H := Lib.hid (is_no h c)
  clear h
  go_enter Tryz.func30, Tryz.ntmps30
  go_wp2_with fail
  refine H.out.mono ?_
  rintro e w1 ⟨rfl, rfl⟩
  go_wp2
  go_ret2
  exact ⟨rfl, rfl⟩
theorem wants_out {w : World} {g b : Nat} {s : Lk} (h : KAt w g b s) {c : Int} (hc : isC s c = false) : Calls Tryz.prog 30 #[.pointer (some ⟨g, 0, none⟩), .int .i64 c] w fun e w' => e = .returned (.tuple #[.int .u64 0, .bool false]) ∧ w = w' := by
  have H := kis_any h c
  rw [hc] at H
  have H := Lib.hid H
  clear h hc
  go_enter Tryz.func30, Tryz.ntmps30
  go_wp2_with fail
  refine H.out.mono ?_
  rintro e w1 ⟨rfl, rfl⟩
  go_wp2
  go_ret2
  exact ⟨rfl, rfl⟩
theorem isC_yes {s : Lk} {c : Nat} (hc : c < s.n) : isC s (c : Int) = true := by simp [isC]; omega
end Go.Proofs.YtiefgmibgdidpaaGreatDoor
/- What a site has, nil or zero or one: its memory, its blocks, its locks, how many clients; Drop. -/
namespace Go.Proofs.YtiefgmibgdidpaaGreatDoor
open Go.RowKit
set_option linter.unusedVariables false
def SiteAt (w : World) (g : Nat) (m s t : Option Addr) : Prop := Row w g 115 #[.pointer m, .pointer s, .pointer t]
theorem siMem_nil (w : World) : Calls Tryz.prog 27 #[.pointer none] w fun e w' => e = .returned (.pointer none) ∧ w = w' := by
  go_enter Tryz.func27, Tryz.ntmps27
  go_wp2
  go_ret
  exact ⟨rfl, rfl⟩
theorem siMem_yes {w : World} {g : Nat} {m s t : Option Addr} (h : SiteAt w g m s t) : Calls Tryz.prog 27 #[.pointer (some ⟨g, 0, none⟩)] w fun e w' => e = .returned (.pointer m) ∧ w = w' := by
  have h1 := Row.cell h 0
  simp only [List.getElem?_toArray, List.getElem?_cons_succ, List.getElem?_cons_zero] at h1
  clear h
  go_enter Tryz.func27, Tryz.ntmps27
  go_wp2
  go_ret
  exact ⟨rfl, rfl⟩
theorem siLocks_nil (w : World) : Calls Tryz.prog 25 #[.pointer none] w fun e w' => e = .returned (.pointer none) ∧ w = w' := by
  go_enter Tryz.func25, Tryz.ntmps25
  go_wp2
  go_ret
  exact ⟨rfl, rfl⟩
theorem siLocks_yes {w : World} {g : Nat} {m s t : Option Addr} (h : SiteAt w g m s t) : Calls Tryz.prog 25 #[.pointer (some ⟨g, 0, none⟩)] w fun e w' => e = .returned (.pointer t) ∧ w = w' := by
  have h1 := Row.cell h 2
  simp only [List.getElem?_toArray, List.getElem?_cons_succ, List.getElem?_cons_zero] at h1
  clear h
  go_enter Tryz.func25, Tryz.ntmps25
  go_wp2
  go_ret
  exact ⟨rfl, rfl⟩
end Go.Proofs.YtiefgmibgdidpaaGreatDoor
/- Try, Release, Wants: what each answers, and which locks it leaves; for any table, client and address. -/
namespace Go.Proofs.YtiefgmibgdidpaaGreatDoor
open Go.RowKit
set_option linter.unusedVariables false
/-- May the client have the lock? -/
def tryB (s : Lk) (c id : Nat) : Bool := match s.hm id with | none => true | some h => h == c
def tryS (s : Lk) (c id : Nat) : Lk := if tryB s c id = true then ⟨s.n, setH s.hm id (some c), setW s.wt c 0, s.sz + 1⟩ else ⟨s.n, s.hm, setW s.wt c id, s.sz⟩
def relB (s : Lk) (c id : Nat) : Bool := s.hm id == some c
def relS (s : Lk) (c id : Nat) : Lk := ⟨s.n, (if relB s c id = true then setH s.hm id none else s.hm), (if s.wt c = id then setW s.wt c 0 else s.wt), s.sz⟩
theorem tryS_n (s : Lk) (c id : Nat) : (tryS s c id).n = s.n := by unfold tryS; split <;> rfl
theorem tryS_ok {s : Lk} (h : s.Ok) {c id : Nat} (hc : c < s.n) (h0 : id ≠ 0) (hi : id < 18446744073709551616) (hz : s.sz < 1000000) : (tryS s c id).Ok := by
  unfold tryS
  split
  · rename_i hb
    refine ⟨h.n1, h.n2, ?_, ?_, ?_, ?_, ?_, by show s.sz + 1 ≤ _; omega⟩
    · show setH s.hm id (some c) 0 = none
      unfold setH
      rw [if_neg (by omega)]
      exact h.h0
    · intro i d hd
      change setH s.hm id (some c) i = some d at hd
      unfold setH at hd
      split at hd
      · rename_i e
        cases hd
        exact ⟨hc, by omega⟩
      · exact h.hc i d hd
    · intro d
      show setW s.wt c 0 d < _
      unfold setW
      split
      · omega
      · exact h.wb d
    · intro d hd
      show setW s.wt c 0 d = 0
      unfold setW
      split
      · rfl
      · exact h.wo d hd
    · intro d hd
      change setW s.wt c 0 d ≠ 0 at hd
      show setH s.hm id (some c) (setW s.wt c 0 d) ≠ some d
      unfold setW at hd ⊢
      split at hd
      · exact absurd rfl hd
      · rename_i e
        rw [if_neg e]
        unfold setH
        split
        · intro e'
          injection e' with e'
          exact e e'.symm
        · exact h.hw d hd
  · rename_i hb
    refine ⟨h.n1, h.n2, h.h0, h.hc, ?_, ?_, ?_, h.zs⟩
    · intro d
      show setW s.wt c id d < _
      unfold setW
      split
      · exact hi
      · exact h.wb d
    · intro d hd
      have : d ≠ c := by have : s.n ≤ d := hd; omega
      show setW s.wt c id d = 0
      unfold setW
      rw [if_neg this]
      exact h.wo d hd
    · intro d hd
      change setW s.wt c id d ≠ 0 at hd
      show s.hm (setW s.wt c id d) ≠ some d
      unfold setW at hd ⊢
      split
      · rename_i e
        subst e
        intro e'
        apply hb
        unfold tryB
        rw [e']
        simp
      · rename_i e
        rw [if_neg e] at hd
        exact h.hw d hd
theorem relS_ok {s : Lk} (h : s.Ok) {c id : Nat} (hc : c < s.n) : (relS s c id).Ok := by
  have hwt : ∀ d, (relS s c id).wt d = s.wt d ∨ (relS s c id).wt d = 0 := by
    intro d
    unfold relS
    simp only
    split
    · unfold setW
      split
      · exact .inr rfl
      · exact .inl rfl
    · exact .inl rfl
  have hhm : ∀ i d, (relS s c id).hm i = some d → s.hm i = some d := by
    intro i d
    unfold relS
    simp only
    split
    · unfold setH
      split
      · intro e; cases e
      · exact fun e => e
    · exact fun e => e
  refine ⟨h.n1, h.n2, ?_, fun i d hd => h.hc i d (hhm i d hd), ?_, ?_, ?_, h.zs⟩
  · cases e : (relS s c id).hm 0 with
    | none => rfl
    | some x => have := hhm _ _ e; rw [h.h0] at this; cases this
  · intro d
    have := h.wb d
    rcases hwt d with e | e <;> rw [e] <;> omega
  · intro d hd
    rcases hwt d with e | e
    · rw [e]; exact h.wo d hd
    · exact e
  · intro d hd he
    have h1 := hhm _ _ he
    rcases hwt d with e | e
    · rw [e] at h1 hd
      exact h.hw d hd h1
    · exact hd e
def KPost (w : World) (g b : Nat) (ok : Bool) (s' : Lk) (e : Ending) (w' : World) : Prop := e = .returned (.bool ok) ∧ KAt w' g b s' ∧ But w w' (kfp g b)
theorem hV_some (c : Nat) : hV (some c) = .int .i64 (c : Int) := rfl
theorem hV_none : hV none = .int .i64 0 := rfl
theorem KAt.wset {w : World} {g b : Nat} {s s' : Lk} (h : KAt w g b s) {c a : Nat} (hc : c < 64) (hs : s'.n = s.n) (hh : s'.hm = s.hm) (hw : s'.wt = setW s.wt c a) (hz : s'.sz = s.sz) (ho : s'.Ok) : KAt (w.setCell ⟨g, 2 + c, none⟩ (.int .u64 (a : Int))) g b s' := by
  refine ⟨?_, ?_, ho⟩
  · rw [hs, hw, ← ktcells_set _ _ _ _ _ hc]
    exact h.row.set _ _
  · rw [hh, hz]
    exact h.mp.same (heap_setCell_other w _ _ _ (fun e => h.ne e.symm))
theorem nat_eq0 {n : Nat} (h : n ≠ 0) : ((n : Int) == 0) = false := by
  rw [Bool.eq_false_iff]
  intro hh
  have := beq_iff_eq.1 hh
  omega
theorem nat_ne {n m : Nat} (h : n ≠ m) : ((n : Int) != (m : Int)) = true := by
  rw [bne_iff_ne]
  omega
theorem nat_ne' {n m : Nat} (h : n ≠ m) : ((n : Int) == (m : Int)) = false := by
  rw [Bool.eq_false_iff]
  intro hh
  have := beq_iff_eq.1 hh
  omega
set_option maxHeartbeats 1000000 in
theorem try_any {w : World} {g b : Nat} {s : Lk} (h : KAt w g b s) {c id : Nat} (hc : c < s.n) (h0 : id ≠ 0) (hi : id < 18446744073709551616) (hz : s.sz < 1000000) :
    Calls Tryz.prog 54 #[.pointer (some ⟨g, 0, none⟩), .int .i64 (c : Int), .int .u64 (id : Int)] w (KPost w g b (tryB s c id) (tryS s c id)) := by
  have c64 : c < 64 := by have := h.ok.n2; omega
  have hI := kis_any h (c : Int)
  rw [isC_yes hc] at hI
  have HI := Lib.hid hI
  have HH := holder_any h hi
  have HO := Lib.hid (tryS_ok h.ok hc h0 hi hz)
  have hid0 := nat_eq0 h0
  have hcell := h.cw c64
  have hfr := h.free (2 + c)
  have hcm := h.cm
  obtain ⟨w2, hput, hH2, hg2⟩ := has_put (c := c) h.mp h.ok.zs hi
  have hrow2 : Row w2 g 135 (ktcells s.n (some b) s.wt) := h.row.grown hg2 (fun e => h.ne (by injection e))
  have hcell2 : w2.cell? ⟨g, 2 + c, none⟩ = some (.int .u64 (s.wt c : Int)) := by rw [hrow2.cell]; exact tcells_w _ _ _ c64
  have hfr2 : w2.frozen? ⟨g, 2 + c, none⟩ = false := hrow2.free _
  have hbut2 : But w w2 (kfp g b) := ⟨hg2.os, hg2.tape, hg2.output, hg2.size, fun k hk hn => hg2.block k hk (fun e => hn (.inr (by injection e)))⟩
  have HR2 := Lib.hid hrow2
  have HB2 := Lib.hid hbut2
  have HH2 := Lib.hid hH2
  have HK := Lib.hid h
  cases e : s.hm id with
  | none =>
    have hb : tryB s c id = true := by unfold tryB; rw [e]
    rw [hb]
    rw [e, hV_none, Option.isSome_none] at HH
    have HH := Lib.hid HH
    have HE : Hid (∀ w3, w3 = w2.setCell ⟨g, 2 + c, none⟩ (.int .u64 0) → KPost w g b true (tryS s c id) (.returned (.bool true)) w3) := Lib.hid (by
      rintro w3 rfl
      refine ⟨rfl, ?_, HB2.out.set (.inl rfl) _⟩
      have hs : tryS s c id = ⟨s.n, setH s.hm id (some c), setW s.wt c 0, s.sz + 1⟩ := by unfold tryS; rw [if_pos hb]
      refine ⟨?_, ?_, HO.out⟩
      · rw [hs]
        show Row _ _ _ (ktcells s.n (some b) (setW s.wt c 0))
        rw [← ktcells_set _ _ _ _ _ c64]
        exact HR2.out.set _ _
      · rw [hs]
        exact HH2.out.same (heap_setCell_other w2 _ _ _ (fun e => HK.out.ne e.symm)))
    clear h hc h0 hi hz e hb hg2 hrow2 hbut2 hH2 hI
    generalize s.wt c = t at *
    go_enter Tryz.func54, Tryz.ntmps54
    go_wp2_with fail
    refine HI.out.mono ?_
    rintro e w1 ⟨rfl, rfl⟩
    go_wp2_with fail
    refine HH.out.mono ?_
    rintro e w1 ⟨rfl, rfl⟩
    go_wp2
    go_ret
    exact HE.out _ rfl
  | some x =>
    rw [e, hV_some, Option.isSome_some] at HH
    have HH := Lib.hid HH
    by_cases hx : x = c
    · have hb : tryB s c id = true := by unfold tryB; rw [e]; simpa using hx
      rw [hb]
      have HE : Hid (∀ w3, w3 = w2.setCell ⟨g, 2 + c, none⟩ (.int .u64 0) → KPost w g b true (tryS s c id) (.returned (.bool true)) w3) := Lib.hid (by
        rintro w3 rfl
        refine ⟨rfl, ?_, HB2.out.set (.inl rfl) _⟩
        have hs : tryS s c id = ⟨s.n, setH s.hm id (some c), setW s.wt c 0, s.sz + 1⟩ := by unfold tryS; rw [if_pos hb]
        refine ⟨?_, ?_, HO.out⟩
        · rw [hs]
          show Row _ _ _ (ktcells s.n (some b) (setW s.wt c 0))
          rw [← ktcells_set _ _ _ _ _ c64]
          exact HR2.out.set _ _
        · rw [hs]
          exact HH2.out.same (heap_setCell_other w2 _ _ _ (fun e => HK.out.ne e.symm)))
      clear h hc h0 hi hz e hb hg2 hrow2 hbut2 hH2 hI
      subst hx
      generalize s.wt x = t at *
      go_enter Tryz.func54, Tryz.ntmps54
      go_wp2_with fail
      refine HI.out.mono ?_
      rintro e w1 ⟨rfl, rfl⟩
      go_wp2_with fail
      refine HH.out.mono ?_
      rintro e w1 ⟨rfl, rfl⟩
      go_wp2
      go_ret
      exact HE.out _ rfl
    · have hb : tryB s c id = false := by unfold tryB; rw [e]; simpa using hx
      rw [hb]
      have hne := nat_ne hx
      have HE : Hid (∀ w3, w3 = w.setCell ⟨g, 2 + c, none⟩ (.int .u64 (id : Int)) → KPost w g b false (tryS s c id) (.returned (.bool false)) w3) := Lib.hid (by
        rintro w3 rfl
        have hs : tryS s c id = ⟨s.n, s.hm, setW s.wt c id, s.sz⟩ := by unfold tryS; rw [if_neg (by rw [hb]; simp)]
        exact ⟨rfl, HK.out.wset c64 (by rw [hs]) (by rw [hs]) (by rw [hs]) (by rw [hs]) HO.out, But.set (But.refl _ _) (.inl rfl) _⟩)
      clear h hc h0 hi hz e hb hg2 hrow2 hbut2 hH2 hI hput hcell2 hfr2 hx
      generalize s.wt c = t at *
      go_enter Tryz.func54, Tryz.ntmps54
      go_wp2_with fail
      refine HI.out.mono ?_
      rintro e w1 ⟨rfl, rfl⟩
      go_wp2_with fail
      refine HH.out.mono ?_
      rintro e w1 ⟨rfl, rfl⟩
      go_wp2
      go_ret
      exact HE.out _ rfl
end Go.Proofs.YtiefgmibgdidpaaGreatDoor
/- How many clients a site has, by what its locks answer. -/
namespace Go.Proofs.YtiefgmibgdidpaaGreatDoor
open Go.RowKit
set_option linter.unusedVariables false
/-- How many clients, by what the locks answer. -/
theorem siClients_of {w : World} {p t : Option Addr} {n : Int} (hl : Calls Tryz.prog 25 #[.pointer p] w fun e w' => e = .returned (.pointer t) ∧ w = w') (hc : Calls Tryz.prog 52 #[.pointer t] w fun e w' => e = .returned (.int .i64 n) ∧ w = w') :
    Calls Tryz.prog 29 #[.pointer p] w fun e w' => e = .returned (.int .i64 n) ∧ w = w' := by
  have HL := Lib.hid hl
  have HC := Lib.hid hc
  clear hl hc
  go_enter Tryz.func29, Tryz.ntmps29
  go_wp2_with fail
  refine HL.out.mono ?_
  rintro e w' ⟨rfl, rfl⟩
  go_wp2_with fail
  refine HC.out.mono ?_
  rintro e w' ⟨rfl, rfl⟩
  go_wp2
  go_ret
  exact ⟨rfl, rfl⟩
end Go.Proofs.YtiefgmibgdidpaaGreatDoor
