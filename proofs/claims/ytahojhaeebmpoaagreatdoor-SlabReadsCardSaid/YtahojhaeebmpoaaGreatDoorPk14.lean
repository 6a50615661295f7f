/- Texts of this claim, packed: PSt, PSmall, PKept. -/
import Derived.Test.YtahojhaeebmpoaaGreatDoorPk06
import Derived.Maps.OwnSet
import Derived.Maps.Ext
import Derived.Maps.RangeWalk
import Derived.Deep.Draws
/- The memory's abstract state, and what a block that reads as it must hold; plain facts on it, without conditions. -/
namespace Go.Proofs.YtahojhaeebmpoaaGreatDoor
open Go.RowKit Go.Maps
set_option linter.unusedVariables false

/-- A memory's state: how many lines; the words that have lasted, and those that are seen; each line's pending stores; how many each client has marked of each line; what was done. -/
structure St where
  nl : Nat
  lasted : List Nat
  view : List Nat
  pend : List (List (Nat × Nat))
  mm : Nat → Nat → Nat
  ld : Nat
  st : Nat
  fl : Nat
  fe : Nat

/-- Where it lies. -/
structure Lay where
  g : Nat
  gl : Nat
  gv : Nat
  gp : Nat
  mb : Nat
  cl : Nat
  cv : Nat
  cp : Nat
  ps : List Value

/-- A line's stores as cells. -/
def flat (l : List (Nat × Nat)) : List Value := l.flatMap fun p => [wv p.1, wv p.2]
theorem flat_length (l : List (Nat × Nat)) : (flat l).length = 2 * l.length := by
  unfold flat
  induction l with
  | nil => rfl
  | cons a t ih => simp [List.flatMap_cons, ih]; omega
theorem flat_append (a b : List (Nat × Nat)) : flat (a ++ b) = flat a ++ flat b := by simp [flat]
theorem flat_cons (p : Nat × Nat) (l : List (Nat × Nat)) : flat (p :: l) = wv p.1 :: wv p.2 :: flat l := by simp [flat]
theorem flat_ones (l : List (Nat × Nat)) : ∀ u ∈ flat l, u.oneCell' = true := by
  intro u hu
  simp only [flat, List.mem_flatMap] at hu
  obtain ⟨p, _, hu⟩ := hu
  simp at hu
  rcases hu with rfl | rfl <;> rfl
theorem flat_get (l : List (Nat × Nat)) (j : Nat) (h : j < l.length) : (flat l)[2 * j]? = some (wv l[j].1) ∧ (flat l)[2 * j + 1]? = some (wv l[j].2) := by
  induction l generalizing j with
  | nil => simp at h
  | cons p t ih =>
    rw [flat_cons]
    cases j with
    | zero => exact ⟨rfl, rfl⟩
    | succ j =>
      have := ih j (by simpa using h)
      rw [show 2 * (j + 1) = 2 * j + 1 + 1 from by omega]
      simpa using this
theorem flat_drop (l : List (Nat × Nat)) (n : Nat) : (flat l).drop (2 * n) = flat (l.drop n) := by
  induction n generalizing l with
  | zero => rfl
  | succ n ih =>
    cases l with
    | nil => simp [flat]
    | cons p t =>
      rw [flat_cons, show 2 * (n + 1) = 2 * n + 1 + 1 from by omega]
      simpa using ih t

/-- A slice in the midst of a block of stores that nothing else reads: nil, or a tail. -/
def Tail (w : World) (v : Value) (l : List (Nat × Nat)) : Prop :=
  (v = .slice none 0 0 ∧ l = []) ∨
  ∃ h off cap cur, v = .slice (some ⟨h, off, none⟩) l.length cap ∧ Row w h 123 cur ∧ 0 < l.length ∧ l.length ≤ cap ∧ cap ≤ maxLen ∧ off + cap * 2 ≤ cur.size ∧ (cur.toList.drop off).take (l.length * 2) = flat l

/-- A client's marks, as a map's element. -/
def mkV (f : Nat → Nat) : Value := .agg (Array.ofFn fun c : Fin 65 => .int .i64 (f c.val : Int))
def mkD (f : Nat → Nat) : DataW Unit := .agg ((List.range 65).map fun c => .lit (.int .i64 (f c : Int)))
/-- How such an element reads: as the number that it is in every place. -/
noncomputable def mkR (v : Value) : Option (DataW Unit × List MemPlace) :=
  open Classical in if h : ∃ f : Nat → Nat, v = mkV f ∧ (∀ c, f c ≤ 9223372036854775807) then some (mkD h.choose, []) else none
def someMk (f : Nat → Nat) : Prop := ∃ c, c < 65 ∧ f c ≠ 0

theorem mkV_inj {f g : Nat → Nat} (h : mkV f = mkV g) : ∀ c, c < 65 → f c = g c := by
  intro c hc
  unfold mkV at h
  have h1 := Value.agg.inj h
  have h2 := congrArg (fun a : Array Value => a[c]?) h1
  simp [hc] at h2
  omega
theorem mkD_inj {f g : Nat → Nat} (h : mkD f = mkD g) : ∀ c, c < 65 → f c = g c := by
  intro c hc
  unfold mkD at h
  have h1 := DataW.agg.inj h
  have h2 := congrArg (fun a : List (DataW Unit) => a[c]?) h1
  simp [hc] at h2
  omega
theorem mkD_of {f g : Nat → Nat} (h : ∀ c, c < 65 → f c = g c) : mkD f = mkD g := by
  unfold mkD
  congr 1
  apply List.map_congr_left
  intro c hc
  rw [h c (by simpa using hc)]
theorem mkV_of {f g : Nat → Nat} (h : ∀ c, c < 65 → f c = g c) : mkV f = mkV g := by
  have e : (fun c : Fin 65 => Value.int .i64 (f c.val : Int)) = fun c : Fin 65 => Value.int .i64 (g c.val : Int) := funext fun c => by rw [h c.val c.isLt]
  unfold mkV
  rw [e]
theorem mkR_mk {f : Nat → Nat} (h : ∀ c, f c ≤ 9223372036854775807) : mkR (mkV f) = some (mkD f, []) := by
  unfold mkR
  have hx : ∃ g : Nat → Nat, mkV f = mkV g ∧ (∀ c, g c ≤ 9223372036854775807) := ⟨f, rfl, h⟩
  rw [dif_pos hx]
  rw [mkD_of (fun c hc => (mkV_inj hx.choose_spec.1 c hc).symm)]
theorem mkR_inv {v : Value} {y : DataW Unit × List MemPlace} (h : mkR v = some y) : ∃ f, v = mkV f ∧ y = (mkD f, []) ∧ (∀ c, f c ≤ 9223372036854775807) := by
  unfold mkR at h
  split at h
  · rename_i hx
    cases h
    exact ⟨_, hx.choose_spec.1, rfl, hx.choose_spec.2⟩
  · cases h
theorem mkD_zero_iff (f : Nat → Nat) : mkD f = mkD (fun _ => 0) ↔ ¬ someMk f := by
  constructor
  · rintro h ⟨c, hc, hn⟩
    exact hn (mkD_inj h c hc)
  · intro h
    refine mkD_of fun c hc => ?_
    by_cases e : f c = 0
    · exact e
    · exact absurd ⟨c, hc, e⟩ h

theorem keyed : Keyed Tryz.prog 3 := int_keyed Tryz.underlying3
def key (j : Nat) : Lit := .int .i64 (j : Int)

/-- The marks in the map: a line has an entry just where somebody has marked something of it. -/
def MarksAt (w : World) (mb nl : Nat) (m : Nat → Nat → Nat) : Prop :=
  ∃ D : DataW Unit, w.ownsMap Tryz.prog 3 mkR mb (Maps.size D) D ∧ (∀ k, Maps.has D k = true → ∃ j, j < nl ∧ k = key j) ∧
    (∀ j, j < nl → (Maps.has D (key j) = true ↔ someMk (m j))) ∧ (∀ j, j < nl → ∀ z, Maps.has D (key j) = true → D.atKey (key j) z = mkD (m j))

/-- What must lie in memory. -/
structure MemAt (w : World) (y : Lay) (s : St) : Prop where
  row : Row w y.g 116 #[.slice (some ⟨y.gl, 0, none⟩) (8 * s.nl) y.cl, .slice (some ⟨y.gv, 0, none⟩) (8 * s.nl) y.cv, .slice (some ⟨y.gp, 0, none⟩) s.nl y.cp, .map (some y.mb), wv s.ld, wv s.st, wv s.fl, wv s.fe]
  las : w.ownsRow 0 23 1 (.slice (some ⟨y.gl, 0, none⟩) (8 * s.nl) y.cl) (8 * s.nl) (s.lasted.map wv)
  vie : w.ownsRow 0 23 1 (.slice (some ⟨y.gv, 0, none⟩) (8 * s.nl) y.cv) (8 * s.nl) (s.view.map wv)
  ne : y.gl ≠ y.gv
  pen : w.ownsRow 0 120 1 (.slice (some ⟨y.gp, 0, none⟩) s.nl y.cp) s.nl y.ps
  plen : s.pend.length = s.nl
  tails : ∀ j (h : j < s.nl) (v : Value) (l : List (Nat × Nat)), y.ps[j]? = some v → s.pend[j]? = some l → Tail w v l
  apart : ∀ (i j : Nat) (v u : Value) (g : Nat), i ≠ j → y.ps[i]? = some v → y.ps[j]? = some u → v.ownBlock = some g → u.ownBlock ≠ some g
  marks : MarksAt w y.mb s.nl s.mm
  pos : 0 < s.nl
  most : s.nl ≤ 16384

/-- The blocks that it takes. -/
def Lay.fp (y : Lay) (k : Nat) : Prop := k = y.g ∨ k = y.gl ∨ k = y.gv ∨ k = y.gp ∨ k = y.mb ∨ ∃ (j : Nat) (v : Value), y.ps[j]? = some v ∧ v.ownBlock = some k

/-- What a call makes of a memory's place: the same struct, its blocks or new ones. -/
structure Turn (w w' : World) (y y' : Lay) : Prop where
  g : y'.g = y.g
  but : But w w' y.fp
  fp : ∀ k, y'.fp k → y.fp k ∨ w.heap.size ≤ k
theorem Turn.refl (w : World) (y : Lay) : Turn w w y y := ⟨rfl, But.refl w _, fun _ h => .inl h⟩
theorem Turn.trans {w w1 w2 : World} {y y1 y2 : Lay} (h : Turn w w1 y y1) (h2 : Turn w1 w2 y1 y2) : Turn w w2 y y2 :=
  ⟨h2.g.trans h.g, h.but.trans h2.but h.fp, fun k hk => by
    rcases h2.fp k hk with h3 | h3
    · exact h.fp k h3
    · exact .inr (Nat.le_trans h.but.size h3)⟩
theorem Turn.of_below {w w' : World} (y : Lay) (h : Below w.heap.size w w') : Turn w w' y y := ⟨rfl, But.of_below h _, fun _ h => .inl h⟩
theorem Turn.size {w w' : World} {y y' : Lay} (h : Turn w w' y y') : w.heap.size ≤ w'.heap.size := h.but.size
end Go.Proofs.YtahojhaeebmpoaaGreatDoor
/- The memory's small functions: none, isClient, lineOf, Size, refused, kept: what each answers; the world stays. For nil, for a zero memory, and for one that is there. -/
namespace Go.Proofs.YtahojhaeebmpoaaGreatDoor
open Go.RowKit
set_option linter.unusedVariables false

theorem ret_int {k : IntKind} {a b : Int} (h : a = b) : Ending.returned (.int k a) = .returned (.int k b) := by rw [h]
/-- A pointer to no memory: nil, or a zero one. -/
def NoMem (w : World) (p : Option Addr) : Prop := p = none ∨ ∃ g, p = some ⟨g, 0, none⟩ ∧ Row w g 116 #[.slice none 0 0, .slice none 0 0, .slice none 0 0, .map none, wv 0, wv 0, wv 0, wv 0]
theorem NoMem.below {w w' : World} {p : Option Addr} (h : NoMem w p) (hb : Below w.heap.size w w') : NoMem w' p := by
  rcases h with h | ⟨g, h, hr⟩
  · exact .inl h
  · exact .inr ⟨g, h, hr.below hb hr.lt⟩

theorem none_no {p : Option Addr} {w : World} (h : NoMem w p) : Calls Tryz.prog 57 #[.pointer p] w fun e w' => e = .returned (.bool true) ∧ w = w' := by
  rcases h with rfl | ⟨g, rfl, hr⟩
  · go_enter Tryz.func57, Tryz.ntmps57
    go_wp2
    go_ret
    exact ⟨rfl, rfl⟩
  · have h1 := hr.cell 1
    simp only [List.getElem?_toArray, List.getElem?_cons_succ, List.getElem?_cons_zero] at h1
    go_enter Tryz.func57, Tryz.ntmps57
    go_wp2
    go_ret
    exact ⟨rfl, rfl⟩
theorem none_yes {w : World} {y : Lay} {s : St} (h : MemAt w y s) : Calls Tryz.prog 57 #[.pointer (some ⟨y.g, 0, none⟩)] w fun e w' => e = .returned (.bool false) ∧ w = w' := by
  have h1 := h.row.cell 1
  simp only [List.getElem?_toArray, List.getElem?_cons_succ, List.getElem?_cons_zero] at h1
  have hp := h.pos
  have hm := h.most
  obtain ⟨N, hN⟩ : ∃ N, N = 8 * s.nl := ⟨_, rfl⟩
  rw [← hN] at h1
  have hn : ((N : Int) == 0) = false := by
    rw [Bool.eq_false_iff]
    intro hh
    have := beq_iff_eq.1 hh
    omega
  clear hN
  obtain ⟨g, hg⟩ : ∃ g, g = y.g := ⟨_, rfl⟩
  rw [← hg] at h1 ⊢
  clear hg
  go_enter Tryz.func57, Tryz.ntmps57
  go_wp2
  go_ret
  exact ⟨rfl, rfl⟩

theorem isClient_any (c : Int) (w : World) : Calls Tryz.prog 144 #[.int .i64 c] w fun e w' => e = .returned (.bool (decide (0 ≤ c ∧ c ≤ 64))) ∧ w = w' := by
  by_cases h0 : 0 ≤ c
  · by_cases h1 : c ≤ 64
    · have e : decide (0 ≤ c ∧ c ≤ 64) = true := by simp [h0, h1]
      rw [e]
      go_enter Tryz.func144, Tryz.ntmps144
      go_wp2
      go_ret
      exact ⟨rfl, rfl⟩
    · have e : decide (0 ≤ c ∧ c ≤ 64) = false := by simp [h0, h1]
      rw [e]
      go_enter Tryz.func144, Tryz.ntmps144
      go_wp2
      go_ret
      exact ⟨rfl, rfl⟩
  · have e : decide (0 ≤ c ∧ c ≤ 64) = false := by simp [h0]
    rw [e]
    go_enter Tryz.func144, Tryz.ntmps144
    go_wp2
    go_ret
    exact ⟨rfl, rfl⟩

theorem lineOf_any (a : Nat) (w : World) (ha : a < 18446744073709551616) : Calls Tryz.prog 88 #[.int .u64 (a : Int)] w fun e w' => e = .returned (.int .i64 ((a / 64 : Nat) : Int)) ∧ w = w' := by
  go_enter Tryz.func88, Tryz.ntmps88
  go_wp2
  go_ret
  exact ⟨rfl, rfl⟩

theorem size_no {p : Option Addr} {w : World} (h : NoMem w p) : Calls Tryz.prog 96 #[.pointer p] w fun e w' => e = .returned (.int .i64 0) ∧ w = w' := by
  have H := Lib.hid (none_no h)
  clear h
  go_enter Tryz.func96, Tryz.ntmps96
  go_wp2_with fail
  refine H.out.mono ?_
  rintro e w1 ⟨rfl, rfl⟩
  go_wp2
  go_ret
  exact ⟨rfl, rfl⟩
theorem size_yes {w : World} {y : Lay} {s : St} (h : MemAt w y s) : Calls Tryz.prog 96 #[.pointer (some ⟨y.g, 0, none⟩)] w fun e w' => e = .returned (.int .i64 ((64 * s.nl : Nat) : Int)) ∧ w = w' := by
  have H := Lib.hid (none_yes h)
  have h1 := h.row.cell 1
  simp only [List.getElem?_toArray, List.getElem?_cons_succ, List.getElem?_cons_zero] at h1
  have hm := h.most
  obtain ⟨N, hN⟩ : ∃ N, N = 8 * s.nl := ⟨_, rfl⟩
  rw [← hN] at h1
  rw [show 64 * s.nl = N * 8 from by omega]
  have hN2 : N ≤ 131072 := by omega
  obtain ⟨g, hg⟩ : ∃ g, g = y.g := ⟨_, rfl⟩
  rw [← hg] at h1 H ⊢
  clear hg hN hm h
  go_enter Tryz.func96, Tryz.ntmps96
  go_wp2_with fail
  refine H.out.mono ?_
  rintro e w1 ⟨rfl, rfl⟩
  go_wp2
  go_ret
  exact ⟨rfl, rfl⟩

theorem refused_no {p : Option Addr} {w : World} (h : NoMem w p) (f : Bool) (a : Int) : Calls Tryz.prog 87 #[.pointer p, .bool f, .int .u64 a] w fun e w' => e = .returned (.int .i64 1) ∧ w = w' := by
  have H := Lib.hid (none_no h)
  clear h
  go_enter Tryz.func87, Tryz.ntmps87
  go_wp2_with fail
  refine H.out.mono ?_
  rintro e w1 ⟨rfl, rfl⟩
  go_wp2
  go_ret
  exact ⟨rfl, rfl⟩
theorem refused_arg {w : World} {y : Lay} {s : St} (h : MemAt w y s) (a : Int) : Calls Tryz.prog 87 #[.pointer (some ⟨y.g, 0, none⟩), .bool false, .int .u64 a] w fun e w' => e = .returned (.int .i64 2) ∧ w = w' := by
  have H := Lib.hid (none_yes h)
  obtain ⟨g, hg⟩ : ∃ g, g = y.g := ⟨_, rfl⟩
  rw [← hg] at H ⊢
  clear hg h
  go_enter Tryz.func87, Tryz.ntmps87
  go_wp2_with fail
  refine H.out.mono ?_
  rintro e w1 ⟨rfl, rfl⟩
  go_wp2
  go_ret
  exact ⟨rfl, rfl⟩
theorem refused_range {w : World} {y : Lay} {s : St} (h : MemAt w y s) (a : Nat) (ha : a % 8 ≠ 0 ∨ 64 * s.nl ≤ a) : Calls Tryz.prog 87 #[.pointer (some ⟨y.g, 0, none⟩), .bool true, .int .u64 (a : Int)] w fun e w' => e = .returned (.int .i64 3) ∧ w = w' := by
  have H := Lib.hid (none_yes h)
  have HS := Lib.hid (size_yes h)
  have hm := h.most
  obtain ⟨g, hg⟩ : ∃ g, g = y.g := ⟨_, rfl⟩
  rw [← hg] at H HS ⊢
  obtain ⟨Z, hZ⟩ : ∃ Z, Z = 64 * s.nl := ⟨_, rfl⟩
  rw [← hZ] at ha HS
  have hZ2 : Z ≤ 1048576 := by omega
  clear hg h hZ hm
  by_cases h8 : a % 8 = 0
  · have hz : Z ≤ a := by omega
    have hn : (((a : Int) % 8) != 0) = false := by
      have : (a : Int) % 8 = 0 := by omega
      rw [this]; rfl
    clear h8 ha
    go_enter Tryz.func87, Tryz.ntmps87
    go_wp2_with fail
    refine H.out.mono ?_
    rintro e w1 ⟨rfl, rfl⟩
    go_wp2_with fail
    refine HS.out.mono ?_
    rintro e w1 ⟨rfl, rfl⟩
    go_wp2
    go_ret
    exact ⟨rfl, rfl⟩
  · have hn : (((a : Int) % 8) != 0) = true := by
      rw [bne_iff_ne]
      omega
    clear h8 ha
    go_enter Tryz.func87, Tryz.ntmps87
    go_wp2_with fail
    refine H.out.mono ?_
    rintro e w1 ⟨rfl, rfl⟩
    go_wp2
    go_ret
    exact ⟨rfl, rfl⟩
theorem refused_ok {w : World} {y : Lay} {s : St} (h : MemAt w y s) (a : Nat) (h8 : a % 8 = 0) (ha : a < 64 * s.nl) : Calls Tryz.prog 87 #[.pointer (some ⟨y.g, 0, none⟩), .bool true, .int .u64 (a : Int)] w fun e w' => e = .returned (.int .i64 0) ∧ w = w' := by
  have H := Lib.hid (none_yes h)
  have HS := Lib.hid (size_yes h)
  have hm := h.most
  obtain ⟨g, hg⟩ : ∃ g, g = y.g := ⟨_, rfl⟩
  rw [← hg] at H HS ⊢
  obtain ⟨Z, hZ⟩ : ∃ Z, Z = 64 * s.nl := ⟨_, rfl⟩
  rw [← hZ] at ha HS
  have hZ2 : Z ≤ 1048576 := by omega
  clear hg h hZ hm
  have hn : (((a : Int) % 8) != 0) = false := by
    have : (a : Int) % 8 = 0 := by omega
    rw [this]; rfl
  clear h8
  go_enter Tryz.func87, Tryz.ntmps87
  go_wp2_with fail
  refine H.out.mono ?_
  rintro e w1 ⟨rfl, rfl⟩
  go_wp2_with fail
  refine HS.out.mono ?_
  rintro e w1 ⟨rfl, rfl⟩
  go_wp2
  go_ret
  exact ⟨rfl, rfl⟩
end Go.Proofs.YtahojhaeebmpoaaGreatDoor
/- kept: how many pending stores a crash lets last; for numbers from 0 on, and any list of integers. -/
namespace Go.Proofs.YtahojhaeebmpoaaGreatDoor
open Go.RowKit
set_option linter.unusedVariables false
def iv (z : Int) : Value := .int .i64 z
def keptN (keep : List Int) (i n : Nat) : Nat := if keep = [] then 0 else (max 0 (keep.getD (i % keep.length) 0)).toNat % (n + 1)
theorem keptN_le (keep : List Int) (i n : Nat) : keptN keep i n ≤ n := by
  unfold keptN
  split
  · omega
  · have := Nat.mod_lt (max 0 (keep.getD (i % keep.length) 0)).toNat (show 0 < n + 1 by omega)
    omega
set_option maxHeartbeats 400000 in
theorem kept_any (l : List Int) (A : Option Addr) (cap i n : Nat) (w : World) (hs : Sl w A (l.map iv)) (hl : l.length ≤ 9223372036854775807) (hw : ∀ z ∈ l, (Lit.int .i64 z).wf = true) (hi : i ≤ 1000000000) (hn : n ≤ 1000000000) :
    Calls Tryz.prog 63 #[.slice A l.length cap, .int .i64 (i : Int), .int .i64 (n : Int)] w fun e w' => e = .returned (.int .i64 ((keptN l i n : Nat) : Int)) ∧ w = w' := by
  by_cases h0 : l = []
  · subst h0
    simp only [keptN, List.length_nil]
    go_enter Tryz.func63, Tryz.ntmps63
    go_wp2
    go_ret
    exact ⟨rfl, rfl⟩
  · have hlp : 0 < l.length := by cases l with
      | nil => exact absurd rfl h0
      | cons a t => simp
    have hm : i % l.length < l.length := Nat.mod_lt _ hlp
    obtain ⟨a, rfl, hc⟩ := hs.at_ (i := i % l.length) (by simpa using hm)
    rw [List.getElem_map] at hc
    obtain ⟨K, hK⟩ : ∃ K, K = l[i % l.length] := ⟨_, rfl⟩
    have hwK := hw K (by rw [hK]; exact List.getElem_mem _)
    have hwk : -9223372036854775808 ≤ K ∧ K ≤ 9223372036854775807 := by
      simp only [Lit.wf, Bool.and_eq_true, decide_eq_true_eq] at hwK
      exact hwK
    rw [← hK] at hc
    have e : keptN l i n = (max 0 K).toNat % (n + 1) := by
      unfold keptN
      rw [if_neg h0, List.getD_eq_getElem?_getD, List.getElem?_eq_getElem hm, Option.getD_some, ← hK]
    rw [e]
    have hj : ((i : Int) % (l.length : Int)).toNat = i % l.length := by omega
    obtain ⟨L, hL⟩ : ∃ L, L = l.length := ⟨_, rfl⟩
    rw [← hL] at hc hm hj hlp hl ⊢
    unfold iv at hc
    have hL0 : ((L : Int) == 0) = false := by rw [Bool.eq_false_iff]; intro hh; have := beq_iff_eq.1 hh; omega
    have hb1 : (0 : Int) ≤ (i : Int) % (L : Int) := by omega
    have hb2 : (i : Int) % (L : Int) < (L : Int) := by have := Int.emod_lt_of_pos (i : Int) (show (0 : Int) < (L : Int) by omega); exact this
    clear hK hL e hs hw h0
    go_enter Tryz.func63, Tryz.ntmps63
    go_wp2
    · have e : max 0 K = K := by omega
      go_ret
      exact ⟨ret_int (by rw [e]), rfl⟩
    · have e : max 0 K = 0 := by omega
      go_ret
      exact ⟨ret_int (by rw [e]; simp), rfl⟩
end Go.Proofs.YtahojhaeebmpoaaGreatDoor
