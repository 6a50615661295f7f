/- Texts of this claim, packed: PSt, PSmall, PLem, PMarks, PRange, PKept, 7St, 7Fn, SiG, 7Try, SiGc. -/
import Derived.Test.YtkbklooocdfcfaaGreatDoorPz05
import Derived.Maps.OwnSet
import Derived.Maps.Ext
import Derived.Maps.RangeWalk
import Derived.Deep.Draws
import Derived.WalkMore
set_option linter.unusedVariables false
set_option maxRecDepth 100000
set_option maxHeartbeats 6400000
namespace Go.Proofs.YtkbklooocdfcfaaGreatDoor
open Go.RowKit Go.Maps
structure St where
 nl : Nat
 lasted : List Nat
 view : List Nat
 pend : List (List (Nat × Nat))
 mm : Nat -> Nat -> Nat
 ld : Nat
 st : Nat
 fl : Nat
 fe : Nat
structure Lay where
 g : Nat
 gl : Nat
 gv : Nat
 gp : Nat
 mb : Nat
 cl : Nat
 cv : Nat
 cp : Nat
 ps : List Value
def flat (l : List (Nat × Nat)) : List Value := l.flatMap fun p => [wv p.1, wv p.2]
theorem flat_length (l : List (Nat × Nat)) : (flat l).length = 2 * l.length := by
 unfold flat
 induction l with
 | nil => rfl
 | cons a t ih => simp [List.flatMap_cons, ih]; omega
theorem flat_append (a b : List (Nat × Nat)) : flat (a ++ b) = flat a ++ flat b := by simp [flat]
theorem flat_cons (p : Nat × Nat) (l : List (Nat × Nat)) : flat (p :: l) = wv p.1 :: wv p.2 :: flat l := by simp [flat]
theorem flat_ones (l : List (Nat × Nat)) : ∀ u ∈ flat l, u.oneCell' = true := by
 intro u hu
 simp only [flat, List.mem_flatMap] at hu
 obtain ⟨p, _, hu⟩ := hu
 simp at hu
 rcases hu with rfl | rfl <;> rfl
theorem flat_get (l : List (Nat × Nat)) (j : Nat) (h : j < l.length) : (flat l)[2 * j]? = some (wv l[j].1) /\ (flat l)[2 * j + 1]? = some (wv l[j].2) := by
 induction l generalizing j with
 | nil => simp at h
 | cons p t ih =>
  rw [flat_cons]
  cases j with
  | zero => exact ⟨rfl, rfl⟩
  | succ j =>
   have := ih j (by simpa using h)
   rw [show 2 * (j + 1) = 2 * j + 1 + 1 from by omega]
   simpa using this
theorem flat_drop (l : List (Nat × Nat)) (n : Nat) : (flat l).drop (2 * n) = flat (l.drop n) := by
 induction n generalizing l with
 | zero => rfl
 | succ n ih =>
  cases l with
  | nil => simp [flat]
  | cons p t =>
   rw [flat_cons, show 2 * (n + 1) = 2 * n + 1 + 1 from by omega]
   simpa using ih t
def Tail (w : World) (v : Value) (l : List (Nat × Nat)) : Prop :=
 (v = .slice none 0 0 /\ l = []) \/
 ∃ h off cap cur, v = .slice (some ⟨h, off, none⟩) l.length cap /\ Row w h 165 cur /\ 0 < l.length /\ l.length <= cap /\ cap <= maxLen /\ off + cap * 2 <= cur.size /\ (cur.toList.drop off).take (l.length * 2) = flat l
def mkV (f : Nat -> Nat) : Value := .agg (Array.ofFn fun c : Fin 65 => .int .i64 (f c.val : Int))
def mkD (f : Nat -> Nat) : DataW Unit := .agg ((List.range 65).map fun c => .lit (.int .i64 (f c : Int)))
noncomputable def mkR (v : Value) : Option (DataW Unit × List MemPlace) :=
 open Classical in if h : ∃ f : Nat -> Nat, v = mkV f /\ (∀ c, f c <= 9223372036854775807) then some (mkD h.choose, []) else none
def someMk (f : Nat -> Nat) : Prop := ∃ c, c < 65 /\ f c ≠ 0
theorem mkV_inj {f g : Nat -> Nat} (h : mkV f = mkV g) : ∀ c, c < 65 -> f c = g c := by
 intro c hc
 unfold mkV at h
 have h1 := Value.agg.inj h
 have h2 := congrArg (fun a : Array Value => a[c]?) h1
 simp [hc] at h2
 omega
theorem mkD_inj {f g : Nat -> Nat} (h : mkD f = mkD g) : ∀ c, c < 65 -> f c = g c := by
 intro c hc
 unfold mkD at h
 have h1 := DataW.agg.inj h
 have h2 := congrArg (fun a : List (DataW Unit) => a[c]?) h1
 simp [hc] at h2
 omega
theorem mkD_of {f g : Nat -> Nat} (h : ∀ c, c < 65 -> f c = g c) : mkD f = mkD g := by
 unfold mkD
 congr 1
 apply List.map_congr_left
 intro c hc
 rw [h c (by simpa using hc)]
theorem mkV_of {f g : Nat -> Nat} (h : ∀ c, c < 65 -> f c = g c) : mkV f = mkV g := by
 have e : (fun c : Fin 65 => Value.int .i64 (f c.val : Int)) = fun c : Fin 65 => Value.int .i64 (g c.val : Int) := funext fun c => by rw [h c.val c.isLt]
 unfold mkV
 rw [e]
theorem mkR_mk {f : Nat -> Nat} (h : ∀ c, f c <= 9223372036854775807) : mkR (mkV f) = some (mkD f, []) := by
 unfold mkR
 have hx : ∃ g : Nat -> Nat, mkV f = mkV g /\ (∀ c, g c <= 9223372036854775807) := ⟨f, rfl, h⟩
 rw [dif_pos hx]
 rw [mkD_of (fun c hc => (mkV_inj hx.choose_spec.1 c hc).symm)]
theorem mkR_inv {v : Value} {y : DataW Unit × List MemPlace} (h : mkR v = some y) : ∃ f, v = mkV f /\ y = (mkD f, []) /\ (∀ c, f c <= 9223372036854775807) := by
 unfold mkR at h
 split at h
 ·rename_i hx
  cases h
  exact ⟨_, hx.choose_spec.1, rfl, hx.choose_spec.2⟩
 ·cases h
theorem keyed : Keyed Tryz.prog 3 := int_keyed Tryz.underlying3
def key (j : Nat) : Lit := .int .i64 (j : Int)
def MarksAt (w : World) (mb nl : Nat) (m : Nat -> Nat -> Nat) : Prop :=
 ∃ D : DataW Unit, w.ownsMap Tryz.prog 3 mkR mb (Maps.size D) D /\ (∀ k, Maps.has D k = true -> ∃ j, j < nl /\ k = key j) /\
  (∀ j, j < nl -> (Maps.has D (key j) = true ↔ someMk (m j))) /\ (∀ j, j < nl -> ∀ z, Maps.has D (key j) = true -> D.atKey (key j) z = mkD (m j))
structure MemAt (w : World) (y : Lay) (s : St) : Prop where
 row : Row w y.g 118 #[.slice (some ⟨y.gl, 0, none⟩) (8 * s.nl) y.cl, .slice (some ⟨y.gv, 0, none⟩) (8 * s.nl) y.cv, .slice (some ⟨y.gp, 0, none⟩) s.nl y.cp, .map (some y.mb), wv s.ld, wv s.st, wv s.fl, wv s.fe]
 las : w.ownsRow 0 29 1 (.slice (some ⟨y.gl, 0, none⟩) (8 * s.nl) y.cl) (8 * s.nl) (s.lasted.map wv)
 vie : w.ownsRow 0 29 1 (.slice (some ⟨y.gv, 0, none⟩) (8 * s.nl) y.cv) (8 * s.nl) (s.view.map wv)
 ne : y.gl ≠ y.gv
 pen : w.ownsRow 0 28 1 (.slice (some ⟨y.gp, 0, none⟩) s.nl y.cp) s.nl y.ps
 plen : s.pend.length = s.nl
 tails : ∀ j (h : j < s.nl) (v : Value) (l : List (Nat × Nat)), y.ps[j]? = some v -> s.pend[j]? = some l -> Tail w v l
 apart : ∀ (i j : Nat) (v u : Value) (g : Nat), i ≠ j -> y.ps[i]? = some v -> y.ps[j]? = some u -> v.ownBlock = some g -> u.ownBlock ≠ some g
 marks : MarksAt w y.mb s.nl s.mm
 pos : 0 < s.nl
 most : s.nl <= 16384
def Lay.fp (y : Lay) (k : Nat) : Prop := k = y.g \/ k = y.gl \/ k = y.gv \/ k = y.gp \/ k = y.mb \/ ∃ (j : Nat) (v : Value), y.ps[j]? = some v /\ v.ownBlock = some k
structure Turn (w w' : World) (y y' : Lay) : Prop where
 g : y'.g = y.g
 but : But w w' y.fp
 fp : ∀ k, y'.fp k -> y.fp k \/ w.heap.size <= k
theorem Turn.refl (w : World) (y : Lay) : Turn w w y y := ⟨rfl, But.refl w _, fun _ h => .inl h⟩
theorem Turn.trans {w w1 w2 : World} {y y1 y2 : Lay} (h : Turn w w1 y y1) (h2 : Turn w1 w2 y1 y2) : Turn w w2 y y2 :=
 ⟨h2.g.trans h.g, h.but.trans h2.but h.fp, fun k hk => by
  rcases h2.fp k hk with h3 | h3
  ·exact h.fp k h3
  ·exact .inr (Nat.le_trans h.but.size h3)⟩
theorem Turn.of_below {w w' : World} (y : Lay) (h : Below w.heap.size w w') : Turn w w' y y := ⟨rfl, But.of_below h _, fun _ h => .inl h⟩
end Go.Proofs.YtkbklooocdfcfaaGreatDoor
namespace Go.Proofs.YtkbklooocdfcfaaGreatDoor
open Go.RowKit
def NoMem (w : World) (p : Option Addr) : Prop := p = none \/ ∃ g, p = some ⟨g, 0, none⟩ /\ Row w g 118 #[.slice none 0 0, .slice none 0 0, .slice none 0 0, .map none, wv 0, wv 0, wv 0, wv 0]
theorem none_no {p : Option Addr} {w : World} (h : NoMem w p) : Calls Tryz.prog 63 #[.pointer p] w fun e w' => e = .returned (.bool true) /\ w = w' := by
 rcases h with rfl | ⟨g, rfl, hr⟩
 ·go_enter Tryz.func63, Tryz.ntmps63
  go_wp2
  go_ret
  exact ⟨rfl, rfl⟩
 ·have h1 := hr.cell 1
  simp only [List.getElem?_toArray, List.getElem?_cons_succ, List.getElem?_cons_zero] at h1
  go_enter Tryz.func63, Tryz.ntmps63
  go_wp2
  go_ret
  exact ⟨rfl, rfl⟩
theorem none_yes {w : World} {y : Lay} {s : St} (h : MemAt w y s) : Calls Tryz.prog 63 #[.pointer (some ⟨y.g, 0, none⟩)] w fun e w' => e = .returned (.bool false) /\ w = w' := by
 have h1 := h.row.cell 1
 simp only [List.getElem?_toArray, List.getElem?_cons_succ, List.getElem?_cons_zero] at h1
 have hp := h.pos
 have hm := h.most
 obtain ⟨N, hN⟩ : ∃ N, N = 8 * s.nl := ⟨_, rfl⟩
 rw [<- hN] at h1
 have hn : ((N : Int) == 0) = false := by
  rw [Bool.eq_false_iff]
  intro hh
  have := beq_iff_eq.1 hh
  omega
 clear hN
 obtain ⟨g, hg⟩ : ∃ g, g = y.g := ⟨_, rfl⟩
 rw [<- hg] at h1 ⊢
 clear hg
 go_enter Tryz.func63, Tryz.ntmps63
 go_wp2
 go_ret
 exact ⟨rfl, rfl⟩
theorem isClient_any (c : Int) (w : World) : Calls Tryz.prog 179 #[.int .i64 c] w fun e w' => e = .returned (.bool (decide (0 <= c /\ c <= 64))) /\ w = w' := by
 by_cases h0 : 0 <= c
 ·by_cases h1 : c <= 64
  ·have e : decide (0 <= c /\ c <= 64) = true := by simp [h0, h1]
   rw [e]
   go_enter Tryz.func179, Tryz.ntmps179
   go_wp2
   go_ret
   exact ⟨rfl, rfl⟩
  ·have e : decide (0 <= c /\ c <= 64) = false := by simp [h0, h1]
   rw [e]
   go_enter Tryz.func179, Tryz.ntmps179
   go_wp2
   go_ret
   exact ⟨rfl, rfl⟩
 ·have e : decide (0 <= c /\ c <= 64) = false := by simp [h0]
  rw [e]
  go_enter Tryz.func179, Tryz.ntmps179
  go_wp2
  go_ret
  exact ⟨rfl, rfl⟩
theorem lineOf_any (a : Nat) (w : World) (ha : a < 18446744073709551616) : Calls Tryz.prog 164 #[.int .u64 (a : Int)] w fun e w' => e = .returned (.int .i64 ((a / 64 : Nat) : Int)) /\ w = w' := by
 go_enter Tryz.func164, Tryz.ntmps164
 go_wp2
 go_ret
 exact ⟨rfl, rfl⟩
theorem size_no {p : Option Addr} {w : World} (h : NoMem w p) : Calls Tryz.prog 30 #[.pointer p] w fun e w' => e = .returned (.int .i64 0) /\ w = w' := by
 have H := Lib.hid (none_no h)
 clear h
 go_enter Tryz.func30, Tryz.ntmps30
 go_wp2_with fail
 refine H.out.mono ?_
 rintro e w1 ⟨rfl, rfl⟩
 go_wp2
 go_ret
 exact ⟨rfl, rfl⟩
theorem size_yes {w : World} {y : Lay} {s : St} (h : MemAt w y s) : Calls Tryz.prog 30 #[.pointer (some ⟨y.g, 0, none⟩)] w fun e w' => e = .returned (.int .i64 ((64 * s.nl : Nat) : Int)) /\ w = w' := by
 have H := Lib.hid (none_yes h)
 have h1 := h.row.cell 1
 simp only [List.getElem?_toArray, List.getElem?_cons_succ, List.getElem?_cons_zero] at h1
 have hm := h.most
 obtain ⟨N, hN⟩ : ∃ N, N = 8 * s.nl := ⟨_, rfl⟩
 rw [<- hN] at h1
 rw [show 64 * s.nl = N * 8 from by omega]
 have hN2 : N <= 131072 := by omega
 obtain ⟨g, hg⟩ : ∃ g, g = y.g := ⟨_, rfl⟩
 rw [<- hg] at h1 H ⊢
 clear hg hN hm h
 go_enter Tryz.func30, Tryz.ntmps30
 go_wp2_with fail
 refine H.out.mono ?_
 rintro e w1 ⟨rfl, rfl⟩
 go_wp2
 go_ret
 exact ⟨rfl, rfl⟩
theorem refused_range {w : World} {y : Lay} {s : St} (h : MemAt w y s) (a : Nat) (ha : a % 8 ≠ 0 \/ 64 * s.nl <= a) : Calls Tryz.prog 127 #[.pointer (some ⟨y.g, 0, none⟩), .bool true, .int .u64 (a : Int)] w fun e w' => e = .returned (.int .i64 3) /\ w = w' := by
 have H := Lib.hid (none_yes h)
 have HS := Lib.hid (size_yes h)
 have hm := h.most
 obtain ⟨g, hg⟩ : ∃ g, g = y.g := ⟨_, rfl⟩
 rw [<- hg] at H HS ⊢
 obtain ⟨Z, hZ⟩ : ∃ Z, Z = 64 * s.nl := ⟨_, rfl⟩
 rw [<- hZ] at ha HS
 have hZ2 : Z <= 1048576 := by omega
 clear hg h hZ hm
 by_cases h8 : a % 8 = 0
 ·have hz : Z <= a := by omega
  have hn : (((a : Int) % 8) != 0) = false := by
   have : (a : Int) % 8 = 0 := by omega
   rw [this]; rfl
  clear h8 ha
  go_enter Tryz.func127, Tryz.ntmps127
  go_wp2_with fail
  refine H.out.mono ?_
  rintro e w1 ⟨rfl, rfl⟩
  go_wp2_with fail
  refine HS.out.mono ?_
  rintro e w1 ⟨rfl, rfl⟩
  go_wp2
  go_ret
  exact ⟨rfl, rfl⟩
 ·have hn : (((a : Int) % 8) != 0) = true := by
   rw [bne_iff_ne]
   omega
  clear h8 ha
  go_enter Tryz.func127, Tryz.ntmps127
  go_wp2_with fail
  refine H.out.mono ?_
  rintro e w1 ⟨rfl, rfl⟩
  go_wp2
  go_ret
  exact ⟨rfl, rfl⟩
theorem refused_ok {w : World} {y : Lay} {s : St} (h : MemAt w y s) (a : Nat) (h8 : a % 8 = 0) (ha : a < 64 * s.nl) : Calls Tryz.prog 127 #[.pointer (some ⟨y.g, 0, none⟩), .bool true, .int .u64 (a : Int)] w fun e w' => e = .returned (.int .i64 0) /\ w = w' := by
 have H := Lib.hid (none_yes h)
 have HS := Lib.hid (size_yes h)
 have hm := h.most
 obtain ⟨g, hg⟩ : ∃ g, g = y.g := ⟨_, rfl⟩
 rw [<- hg] at H HS ⊢
 obtain ⟨Z, hZ⟩ : ∃ Z, Z = 64 * s.nl := ⟨_, rfl⟩
 rw [<- hZ] at ha HS
 have hZ2 : Z <= 1048576 := by omega
 clear hg h hZ hm
 have hn : (((a : Int) % 8) != 0) = false := by
  have : (a : Int) % 8 = 0 := by omega
  rw [this]; rfl
 clear h8
 go_enter Tryz.func127, Tryz.ntmps127
 go_wp2_with fail
 refine H.out.mono ?_
 rintro e w1 ⟨rfl, rfl⟩
 go_wp2_with fail
 refine HS.out.mono ?_
 rintro e w1 ⟨rfl, rfl⟩
 go_wp2
 go_ret
 exact ⟨rfl, rfl⟩
end Go.Proofs.YtkbklooocdfcfaaGreatDoor
namespace Go.Proofs.YtkbklooocdfcfaaGreatDoor
open Go.RowKit Go.Maps
theorem cell_far {w : World} {p q : Addr} (h : p.block ≠ q.block) (u : Value) : (w.setCell p u).cell? q = w.cell? q :=
 World.cell?_of_block (heap_setCell_other w p q.block u (Ne.symm h))
theorem cell_else {w : World} {g i j : Nat} (h : i ≠ j) (u : Value) : (w.setCell ⟨g, i, none⟩ u).cell? ⟨g, j, none⟩ = w.cell? ⟨g, j, none⟩ :=
 World.cell?_setCell_other _ _ _ _ (fun e => h (by injection e))
theorem frozen_grown {w w' : World} {row : Option Nat} (hg : w.grownBy w' row) {p : Addr} (hl : p.block < w.heap.size) (hn : some p.block ≠ row) (hf : w.frozen? p = false) : w'.frozen? p = false := by
 rw [World.frozen?_of_block (hg.block _ hl hn)]; exact hf
theorem frozen_alloc {w : World} {p : Addr} (hl : p.block < w.heap.size) (o : Obj) : (w.alloc o).frozen? p = w.frozen? p := World.frozen?_of_block (Below.heap_alloc w o p.block hl)
theorem Row.ne {w : World} {g g' : Nat} {t t' : TypeId} {cs cs' : Array Value} (h : Row w g t cs) (h' : Row w g' t' cs') (hne : t ≠ t') : g ≠ g' := by
 rintro rfl
 unfold Row at h h'
 rw [h] at h'
 injection h' with h'
 injection h' with _ ht
 exact hne ht
theorem Row.ne_map {w : World} {g g' : Nat} {t : TypeId} {cs : Array Value} {es : Array MapEntry} {c : Nat} (h : Row w g t cs) (h' : w.heap[g']? = some (.map es c)) : g ≠ g' := by
 rintro rfl
 unfold Row at h
 rw [h] at h'
 injection h' with h'
 cases h'
theorem Row.same {w w' : World} {g : Nat} {t : TypeId} {cs : Array Value} (h : Row w g t cs) (hk : w'.heap[g]? = w.heap[g]?) : Row w' g t cs := hk.trans h
theorem own_at {w : World} {B n g c : Nat} {e : TypeId} {xs : List Value} (h : w.ownsRow B e 1 (.slice (some ⟨g, 0, none⟩) n c) n xs) : ∃ cur, Row w g e cur := by
 rcases h.2 with ⟨h0, _⟩ | ⟨g', cap, cur, h0, _, hh, _⟩
 ·cases h0
 ·simp only [Value.slice.injEq, Option.some.injEq, Addr.mk.injEq, and_true, true_and] at h0
  obtain ⟨rfl, rfl⟩ := h0
  exact ⟨cur, hh⟩
theorem own_same {w w' : World} {B n g c : Nat} {e : TypeId} {xs : List Value} (h : w.ownsRow B e 1 (.slice (some ⟨g, 0, none⟩) n c) n xs) (hk : w'.heap[g]? = w.heap[g]?) : w'.ownsRow B e 1 (.slice (some ⟨g, 0, none⟩) n c) n xs := by
 refine ⟨h.1, ?_⟩
 rcases h.2 with h0 | ⟨g', cap, cur, h0, hg, hh, hr⟩
 ·exact .inl h0
 ·have e1 := h0
  simp only [Value.slice.injEq, Option.some.injEq, Addr.mk.injEq, and_true, true_and] at e1
  obtain ⟨rfl, rfl⟩ := e1
  exact .inr ⟨g, c, cur, rfl, hg, hk.trans hh, hr⟩
theorem own_lt {w : World} {B n g c : Nat} {e : TypeId} {xs : List Value} (h : w.ownsRow B e 1 (.slice (some ⟨g, 0, none⟩) n c) n xs) : g < w.heap.size := (h.lt g rfl).2
theorem Tail.row {w : World} {v : Value} {l : List (Nat × Nat)} {h : Nat} (ht : Tail w v l) (hb : v.ownBlock = some h) : ∃ cur, Row w h 165 cur := by
 rcases ht with ⟨rfl, _⟩ | ⟨h', off, cap, cur, rfl, hr, _⟩
 ·cases hb
 ·have : h' = h := by simpa [Value.ownBlock] using hb
  subst this
  exact ⟨cur, hr⟩
theorem Tail.same {w w' : World} {v : Value} {l : List (Nat × Nat)} (ht : Tail w v l) (hk : ∀ h, v.ownBlock = some h -> w'.heap[h]? = w.heap[h]?) : Tail w' v l := by
 rcases ht with h0 | ⟨h', off, cap, cur, rfl, hr, hrest⟩
 ·exact .inl h0
 ·exact .inr ⟨h', off, cap, cur, rfl, hr.same (hk h' rfl), hrest⟩
theorem Tail.len {w : World} {v : Value} {l : List (Nat × Nat)} (ht : Tail w v l) : ∃ A c, v = .slice A l.length c /\ l.length <= c := by
 rcases ht with ⟨rfl, rfl⟩ | ⟨h', off, cap, cur, rfl, _, _, hlc, _⟩
 ·exact ⟨_, _, rfl, Nat.le_refl _⟩
 ·exact ⟨_, _, rfl, hlc⟩
theorem MarksAt.same {w w' : World} {mb nl : Nat} {m : Nat -> Nat -> Nat} (h : MarksAt w mb nl m) (hk : w'.heap[mb]? = w.heap[mb]?) : MarksAt w' mb nl m := by
 obtain ⟨D, ⟨es, c, hb, hr⟩, h2⟩ := h
 exact ⟨D, ⟨es, c, hk.trans hb, hr⟩, h2⟩
theorem MarksAt.map {w : World} {mb nl : Nat} {m : Nat -> Nat -> Nat} (h : MarksAt w mb nl m) : ∃ es c, w.heap[mb]? = some (.map es c) := by
 obtain ⟨D, ⟨es, c, hb, hr⟩, h2⟩ := h
 exact ⟨es, c, hb⟩
theorem MarksAt.lt {w : World} {mb nl : Nat} {m : Nat -> Nat -> Nat} (h : MarksAt w mb nl m) : mb < w.heap.size := by
 obtain ⟨es, c, hb⟩ := h.map
 exact (Array.getElem?_eq_some_iff.1 hb).1
theorem ps_get {w : World} {y : Lay} {s : St} (h : MemAt w y s) {j : Nat} (hj : j < s.nl) : ∃ v l, y.ps[j]? = some v /\ s.pend[j]? = some l /\ Tail w v l := by
 have h1 : y.ps.length = s.nl := by have := h.pen.1; omega
 have h2 := h.plen
 exact ⟨_, _, List.getElem?_eq_getElem (by omega), List.getElem?_eq_getElem (by omega), h.tails j hj _ _ (List.getElem?_eq_getElem (by omega)) (List.getElem?_eq_getElem (by omega))⟩
theorem ps_len {w : World} {y : Lay} {s : St} (h : MemAt w y s) : y.ps.length = s.nl := by have := h.pen.1; omega
theorem ps_row {w : World} {y : Lay} {s : St} (h : MemAt w y s) {j : Nat} {v : Value} {k : Nat} (hv : y.ps[j]? = some v) (hk : v.ownBlock = some k) : ∃ cur, Row w k 165 cur := by
 have hj : j < s.nl := by
  have := ps_len h
  have := (List.getElem?_eq_some_iff.1 hv).1
  omega
 obtain ⟨v', l, h1, h2, h3⟩ := ps_get h hj
 rw [hv] at h1
 cases h1
 exact h3.row hk
structure Differ (y : Lay) : Prop where
 g_gl : y.g ≠ y.gl
 g_gv : y.g ≠ y.gv
 g_gp : y.g ≠ y.gp
 g_mb : y.g ≠ y.mb
 gl_gv : y.gl ≠ y.gv
 gl_gp : y.gl ≠ y.gp
 gl_mb : y.gl ≠ y.mb
 gv_gp : y.gv ≠ y.gp
 gv_mb : y.gv ≠ y.mb
 gp_mb : y.gp ≠ y.mb
 tail : ∀ (j : Nat) (v : Value) (k : Nat), y.ps[j]? = some v -> v.ownBlock = some k -> k ≠ y.g /\ k ≠ y.gl /\ k ≠ y.gv /\ k ≠ y.gp /\ k ≠ y.mb
theorem MemAt.differ {w : World} {y : Lay} {s : St} (h : MemAt w y s) : Differ y := by
 obtain ⟨cl, hl⟩ := own_at h.las
 obtain ⟨cv, hv⟩ := own_at h.vie
 obtain ⟨cp, hp⟩ := own_at h.pen
 obtain ⟨es, c, hm⟩ := h.marks.map
 refine ⟨h.row.ne hl (by decide), h.row.ne hv (by decide), h.row.ne hp (by decide), h.row.ne_map hm, h.ne, hl.ne hp (by decide), hl.ne_map hm, hv.ne hp (by decide), hv.ne_map hm, hp.ne_map hm, ?_⟩
 intro j v k hv' hk
 obtain ⟨cur, hr⟩ := ps_row h hv' hk
 exact ⟨hr.ne h.row (by decide), hr.ne hl (by decide), hr.ne hv (by decide), hr.ne hp (by decide), hr.ne_map hm⟩
theorem MemAt.lt {w : World} {y : Lay} {s : St} (h : MemAt w y s) : ∀ k, y.fp k -> k < w.heap.size := by
 rintro k (rfl | rfl | rfl | rfl | rfl | ⟨j, v, hv, hk⟩)
 ·exact h.row.lt
 ·exact own_lt h.las
 ·exact own_lt h.vie
 ·exact own_lt h.pen
 ·exact h.marks.lt
 ·obtain ⟨cur, hr⟩ := ps_row h hv hk
  exact hr.lt
theorem MemAt.same {w w' : World} {y : Lay} {s : St} (h : MemAt w y s) (hk : ∀ k, y.fp k -> w'.heap[k]? = w.heap[k]?) : MemAt w' y s := by
 refine ⟨h.row.same (hk _ (.inl rfl)), own_same h.las (hk _ (.inr (.inl rfl))), own_same h.vie (hk _ (.inr (.inr (.inl rfl)))), h.ne, own_same h.pen (hk _ (.inr (.inr (.inr (.inl rfl))))), h.plen, ?_, h.apart, h.marks.same (hk _ (.inr (.inr (.inr (.inr (.inl rfl)))))), h.pos, h.most⟩
 intro j hj v l hv hl
 exact (h.tails j hj v l hv hl).same fun k hk' => hk k (.inr (.inr (.inr (.inr (.inr ⟨j, v, hv, hk'⟩)))))
theorem MemAt.below {w w' : World} {y : Lay} {s : St} (h : MemAt w y s) (hb : Below w.heap.size w w') : MemAt w' y s := h.same fun k hk => hb.block k (h.lt k hk)
theorem MemAt.but {w w' : World} {y : Lay} {s : St} {fp : Nat -> Prop} (h : MemAt w y s) (hb : But w w' fp) (hd : ∀ k, y.fp k -> ¬ fp k) : MemAt w' y s := h.same fun k hk => hb.block k (h.lt k hk) (hd k hk)
theorem own_stored {w : World} {B n g c : Nat} {e : TypeId} {xs : List Value} (h : w.ownsRow B e 1 (.slice (some ⟨g, 0, none⟩) n c) n xs) (j : Nat) (u : Value) : (w.setCell ⟨g, j, none⟩ u).ownsRow B e 1 (.slice (some ⟨g, 0, none⟩) n c) n (xs.set j u) := by
 rcases h.2 with ⟨h0, _⟩ | ⟨g', cap, cur, h0, hg, hh, hnc, hm, hsz, htk⟩
 ·cases h0
 ·simp only [Value.slice.injEq, Option.some.injEq, Addr.mk.injEq, and_true, true_and] at h0
  obtain ⟨rfl, rfl⟩ := h0
  refine ⟨by simpa using h.1, .inr ⟨g, c, _, rfl, hg, heap_setCell_same w g j cur e u hh, hnc, hm, by simpa using hsz, ?_⟩⟩
  rw [Array.toList_setIfInBounds, <- htk, List.take_set]
theorem zeroMk (W : World) : (zeroValue 255).run Tryz.prog W = .ok (mkV fun _ => 0) W := by kernel_rfl
theorem key_inj {i j : Nat} (h : key i = key j) : i = j := by
 unfold key at h
 injection h with _ h
 omega
theorem key_is (i : Nat) : WideAt.IsKeyLit (key i) := by
 unfold key WideAt.IsKeyLit
 trivial
theorem key_of {i : Nat} (h : i <= 9223372036854775807) : keyOf Tryz.prog 3 (.int .i64 (i : Int)) = some (key i) := by
 refine keyOf_int_mk Tryz.underlying3 ?_
 simp only [Lit.wf, Bool.and_eq_true, decide_eq_true_eq]
 exact ⟨by show (-9223372036854775808 : Int) <= _; omega, by show _ <= (9223372036854775807 : Int); omega⟩
def upd (m : Nat -> Nat -> Nat) (i : Nat) (f : Nat -> Nat) : Nat -> Nat -> Nat := fun j => if j = i then f else m j
theorem own_tight {w : World} {P : Program} {k : TypeId} {R : Value -> Option (DataW Unit × List MemPlace)} {b n : Nat} {D : DataW Unit} (h : w.ownsMap P k R b n D) : w.ownsMap P k R b (Maps.size D) D := by
 obtain ⟨es, c, hb, F, hs, hD⟩ := h
 refine ⟨es, c, hb, F, ?_, hD⟩
 rw [hD]
 simp [Maps.size, length_sorted]
theorem same_refl {a : Lit} (h : WideAt.IsKeyLit a) : a.sameKey a = true := by
 cases a <;> first | (simp [Lit.sameKey]; done) | exact h.elim
theorem marks_size {w : World} {mb nl : Nat} {D : DataW Unit} (h : w.ownsMap Tryz.prog 3 mkR mb (Maps.size D) D) (hk : ∀ k, Maps.has D k = true -> ∃ j, j < nl /\ k = key j) : Maps.size D <= nl := by
 obtain ⟨es, rfl, hp, hl⟩ := h.entries keyed
 have h1 : (es.map Prod.fst).Nodup := by
  rw [List.nodup_iff_pairwise_ne]
  exact List.pairwise_map.2 hp
 have h2 : es.map Prod.fst ⊆ (List.range nl).map key := by
  intro k hk'
  obtain ⟨p, hp', rfl⟩ := List.mem_map.1 hk'
  have : Maps.has (.map es) p.1 = true := by
   rw [Maps.has_eq, List.any_eq_true]
   exact ⟨p, hp', by have := hl p hp'; exact same_refl this⟩
  obtain ⟨j, hj, e⟩ := hk _ this
  rw [e]
  exact List.mem_map.2 ⟨j, by simpa using hj, rfl⟩
 have h3 := List.Nodup.length_le_of_subset h1 h2
 simpa [Maps.size_eq] using h3
theorem not_some {f : Nat -> Nat} (h : ¬ someMk f) : ∀ c, c < 65 -> f c = 0 := by
 intro c hc
 by_cases e : f c = 0
 ·exact e
 ·exact absurd ⟨c, hc, e⟩ h
theorem marks_val {w : World} {mb nl : Nat} {m : Nat -> Nat -> Nat} {D : DataW Unit} (hs : ∀ j, j < nl -> (Maps.has D (key j) = true ↔ someMk (m j))) (ha : ∀ j, j < nl -> ∀ z, Maps.has D (key j) = true -> D.atKey (key j) z = mkD (m j))
  {i : Nat} (hi : i < nl) {v : Value} {ps : List MemPlace} (hv : mkR v = some (D.atKey (key i) (mkD fun _ => 0), ps)) : v = mkV (m i) := by
 obtain ⟨f, rfl, he, _⟩ := mkR_inv hv
 injection he with he _
 refine mkV_of fun c hc => ?_
 by_cases hh : Maps.has D (key i) = true
 ·rw [ha i hi _ hh] at he
  exact (mkD_inj he c hc).symm
 ·have hn : Maps.has D (key i) = false := by simpa using hh
  rw [atKey_of_not_has hn] at he
  rw [<- mkD_inj he c hc, not_some (fun hx => hh ((hs i hi).2 hx)) c hc]
theorem marks_look {w : World} {mb nl i : Nat} {m : Nat -> Nat -> Nat} (h : MarksAt w mb nl m) (hi : i < nl) (hb : nl <= 16384) :
  (Instr.lookup 114 (.map (some mb)) (.int .i64 (i : Int)) false).run Tryz.prog w = .ok (mkV (m i)) w := by
 obtain ⟨D, hown, hk, hs, ha⟩ := h
 obtain ⟨v, ps, hrun, hv⟩ := hown.lookup keyed Tryz.underlying114 (zeroMk w) (mkR_mk (f := fun _ => 0) (fun _ => by omega)) (key_of (i := i) (by omega))
 rw [hrun, marks_val (w := w) (mb := mb) hs ha hi hv]
theorem marks_look_ok {w : World} {mb nl i : Nat} {m : Nat -> Nat -> Nat} (h : MarksAt w mb nl m) (hi : i < nl) (hb : nl <= 16384) :
  ∃ b : Bool, (b = true ↔ someMk (m i)) /\ (Instr.lookup 114 (.map (some mb)) (.int .i64 (i : Int)) true).run Tryz.prog w = .ok (.tuple #[mkV (m i), .bool b]) w := by
 obtain ⟨D, hown, hk, hs, ha⟩ := h
 obtain ⟨v, ps, hrun, hv⟩ := hown.look_ok keyed Tryz.underlying114 (zeroMk w) (mkR_mk (f := fun _ => 0) (fun _ => by omega)) (key_of (i := i) (by omega))
 exact ⟨_, hs i hi, by rw [hrun, marks_val (w := w) (mb := mb) hs ha hi hv]⟩
theorem marks_put {w : World} {mb nl i : Nat} {m : Nat -> Nat -> Nat} {f : Nat -> Nat} (h : MarksAt w mb nl m) (hi : i < nl) (hb : nl <= 16384) (hf : someMk f) (hw : ∀ c, f c <= 9223372036854775807) :
  ∃ w', (Instr.mapUpdate 114 (.map (some mb)) (.int .i64 (i : Int)) (mkV f)).run Tryz.prog w = .ok () w' /\ MarksAt w' mb nl (upd m i f) /\ w.grownBy w' (some mb) := by
 obtain ⟨D, hown, hk, hs, ha⟩ := h
 have hz := marks_size hown hk
 obtain ⟨w', hrun, ho, hg⟩ := hown.update keyed Tryz.underlying114 (by unfold maxLen; omega) (key_of (i := i) (by omega)) (mkR_mk hw)
 refine ⟨w', hrun, ⟨_, own_tight ho, ?_, ?_, ?_⟩, hg⟩
 ·intro k hk'
  by_cases e : k = key i
  ·exact ⟨i, hi, e⟩
  ·rw [has_put_other e] at hk'
   exact hk k hk'
 ·intro j hj
  by_cases e : j = i
  ·subst e
   simp only [upd, if_true]
   exact ⟨fun _ => hf, fun _ => has_put_same hown.isMap (key_is _) _⟩
  ·rw [has_put_other (fun e' => e (key_inj e')), hs j hj]
   simp only [upd, if_neg e]
 ·intro j hj z hh
  by_cases e : j = i
  ·subst e
   simp only [upd, if_true]
   exact atKey_put_same hown.isMap (key_is _) _ _
  ·have e' : key j ≠ key i := fun e' => e (key_inj e')
   rw [has_put_other e'] at hh
   rw [atKey_put_other e']
   simp only [upd, if_neg e]
   exact ha j hj z hh
theorem marks_del {w : World} {mb nl i : Nat} {ty : TypeId} {m : Nat -> Nat -> Nat} {f : Nat -> Nat} (h : MarksAt w mb nl m) (hi : i < nl) (hb : nl <= 16384) (hf : ¬ someMk f) :
  ∃ w', (Builtin.delete_ #[114, 3] ty #[.map (some mb), .int .i64 (i : Int)]).run Tryz.prog w = .ok (.tuple #[]) w' /\ MarksAt w' mb nl (upd m i f) /\ w.grownBy w' (some mb) := by
 obtain ⟨D, hown, hk, hs, ha⟩ := h
 obtain ⟨w', hrun, ho, ht⟩ := hown.drop keyed Tryz.underlying114 (key_of (i := i) (by omega)) ty
 refine ⟨w', hrun, ⟨_, own_tight ho, ?_, ?_, ?_⟩, ht.grown⟩
 ·intro k hk'
  by_cases e : k = key i
  ·subst e
   rw [has_del_same] at hk'
   cases hk'
  ·rw [has_del_other e] at hk'
   exact hk k hk'
 ·intro j hj
  by_cases e : j = i
  ·subst e
   simp only [upd, if_true]
   rw [has_del_same]
   exact ⟨fun h => (by cases h), fun h => absurd h hf⟩
  ·rw [has_del_other (fun e' => e (key_inj e')), hs j hj]
   simp only [upd, if_neg e]
 ·intro j hj z hh
  by_cases e : j = i
  ·subst e
   rw [has_del_same] at hh
   cases hh
  ·have e' : key j ≠ key i := fun e' => e (key_inj e')
   rw [has_del_other e'] at hh
   rw [atKey_del_other e']
   simp only [upd, if_neg e]
   exact ha j hj z hh
def marr (f : Nat -> Nat) : Array Value := Array.ofFn fun c : Fin 65 => .int .i64 (f c.val : Int)
theorem mkV_marr (f : Nat -> Nat) : mkV f = .agg (marr f) := rfl
theorem marr_size (f : Nat -> Nat) : (marr f).size = 65 := by simp [marr]
theorem marr_get (f : Nat -> Nat) (c : Nat) (h : c < 65) : (marr f)[c]? = some (.int .i64 (f c : Int)) := by simp [marr, h]
theorem marr_one (f : Nat -> Nat) : (marr f).all (·.oneCell') = true := by
 rw [Array.all_eq_true]
 intro i hi
 simp [marr, Value.oneCell']
theorem size255 : (Tryz.prog.info? 255).map (·.size) = some 65 := by kernel_rfl
theorem marr_fit (f : Nat -> Nat) : (Tryz.prog.info? 255).map (·.size) = some (marr f).size := by rw [marr_size]; exact size255
theorem marr_set (f : Nat -> Nat) (c n : Nat) (h : c < 65) : (marr f).setIfInBounds c (.int .i64 (n : Int)) = marr fun k => if k = c then n else f k := by
 apply Array.ext
 ·simp [marr]
 ·intro i h1 h2
  simp [marr] at h2
  rw [Array.getElem_setIfInBounds]
  ·by_cases e : c = i
   ·subst e
    simp [marr]
   ·have e' : ¬ i = c := fun x => e x.symm
    simp [marr, e, e']
  ·simpa [marr] using h1
structure St.Ok (s : St) : Prop where
 las : ∀ x ∈ s.lasted, x < 18446744073709551616
 vie : ∀ x ∈ s.view, x < 18446744073709551616
 put : ∀ (j : Nat) (l : List (Nat × Nat)), s.pend[j]? = some l -> ∀ p ∈ l, p.1 % 8 = 0 /\ p.1 / 64 = j /\ p.2 < 18446744073709551616
 few : ∀ l ∈ s.pend, l.length <= 1000000000
 mks : ∀ j c, s.mm j c <= (s.pend.getD j []).length
 num : s.ld < 9223372036854775808 /\ s.st < 9223372036854775808 /\ s.fl < 9223372036854775808 /\ s.fe < 9223372036854775808
theorem St.Ok.mk_le {s : St} (h : s.Ok) (j c : Nat) : s.mm j c <= 1000000000 := by
 refine Nat.le_trans (h.mks j c) ?_
 rw [List.getD_eq_getElem?_getD]
 cases e : s.pend[j]? with
 | none => simp
 | some l => exact h.few l (List.mem_of_getElem? e)
end Go.Proofs.YtkbklooocdfcfaaGreatDoor
namespace Go.Proofs.YtkbklooocdfcfaaGreatDoor
open Go.RowKit Go.Maps Go.ChangeMaps Go.MapKept
open Go.WideElems (Fit rd rg pl rd_val rd_key rg_of)
def MapStep (w w' : World) (b : Nat) : Prop :=
 ∀ es clock, w.heap[b]? = some (.map es clock) -> ∃ es' : Array MapEntry, w'.heap[b]? = some (.map es' clock) /\ ∀ x' ∈ es'.toList, ∃ x ∈ es.toList, x.born = x'.born /\ x.key = x'.key
theorem MapStep.same {w w' : World} {b : Nat} (h : w'.heap[b]? = w.heap[b]?) : MapStep w w' b := fun es c he => ⟨es, h.trans he, fun x hx => ⟨x, hx, rfl, rfl⟩⟩
theorem MapStep.trans {w w1 w2 : World} {b : Nat} (h : MapStep w w1 b) (h2 : MapStep w1 w2 b) : MapStep w w2 b := by
 intro es c he
 obtain ⟨es1, h1, hx1⟩ := h es c he
 obtain ⟨es2, h3, hx2⟩ := h2 es1 c h1
 refine ⟨es2, h3, fun x hx => ?_⟩
 obtain ⟨x1, m1, b1, k1⟩ := hx2 x hx
 obtain ⟨x0, m0, b0, k0⟩ := hx1 x1 m1
 exact ⟨x0, m0, b0.trans b1, k0.trans k1⟩
theorem own_one {w : World} {P : Program} {k : TypeId} {R : Value -> Option (DataW Unit × List MemPlace)} {b n n' : Nat} {D D' : DataW Unit} (h : w.ownsMap P k R b n D) (h' : w.ownsMap P k R b n' D') : D = D' := by
 obtain ⟨es, c, hb, _, _, rfl⟩ := h
 obtain ⟨es', c', hb', _, _, rfl⟩ := h'
 rw [hb] at hb'
 injection hb' with hb'
 injection hb' with e1 e2
 rw [e1]
section
variable {P : Program} {k : TypeId} {R : Value -> Option (DataW Unit × List MemPlace)} {w w' : World} {b r n n' : Nat} {D D' : DataW Unit} {left : Lit -> Bool} {cnt : Nat}
theorem has_entry {es : Array MapEntry} {c : Nat} (K : Keyed P k) (F : Fit P k R es c) (kl : Lit) : Maps.has (.map ((es.toList.map (rg P k R)).foldr DataW.insert [])) kl = true ↔ ∃ x ∈ es.toList, (rg P k R x).1 = kl := by
 rw [Maps.has_eq, List.any_eq_true]
 constructor
 ·rintro ⟨p, hp, hs⟩
  obtain ⟨x, hx, rfl⟩ := List.mem_map.1 (mem_sorted.1 hp)
  exact ⟨x, hx, WideAt.sameKey_eq hs⟩
 ·rintro ⟨x, hx, rfl⟩
  refine ⟨_, mem_sorted.2 (List.mem_map.2 ⟨x, hx, rfl⟩), ?_⟩
  obtain ⟨y, hy⟩ := F.reads x hx
  rw [rg_of hy]
  exact WideAt.sameKey_self (K.key (rd_key hy))
theorem rg_key {es : Array MapEntry} {c : Nat} (F : Fit P k R es c) {x : MapEntry} (hx : x ∈ es.toList) : keyOf P k x.key = some (rg P k R x).1 := by
 obtain ⟨y, hy⟩ := F.reads x hx
 rw [rg_of hy]
 exact rd_key hy
theorem left_has (h : w.ranges P k R b r n D left cnt) (K : Keyed P k) {kl : Lit} (hl : left kl = true) : Maps.has D kl = true := by
 obtain ⟨es, clock, since, seen, c0, hb, F, hs, rfl, hr, hold, hc, hl1, hl2, _⟩ := h
 exact (has_entry K F kl).2 (hl2 kl hl)
theorem ranges_step (h : w.ranges P k R b r n D left cnt) (K : Keyed P k) (hst : MapStep w w' b) (hr' : w'.heap[r]? = w.heap[r]?) (hown : w'.ownsMap P k R b n' D') :
  ∃ cnt', w'.ranges P k R b r n' D' (fun kl => left kl && Maps.has D' kl) cnt' /\ cnt' <= cnt := by
 obtain ⟨es, clock, since, seen, c0, hb, F, hs, rfl, hr, hold, hc, hl1, hl2, h1, h2⟩ := h
 obtain ⟨es', hb', hx'⟩ := hst es clock hb
 obtain ⟨es2, c2, hb2, F', hs', rfl⟩ := hown
 rw [hb'] at hb2
 injection hb2 with hb2
 injection hb2 with e1 e2
 subst e1 e2
 have same : ∀ x ∈ es.toList, ∀ x' ∈ es'.toList, x.key = x'.key -> (rg P k R x').1 = (rg P k R x).1 := by
  intro x hx x' hx' e
  obtain ⟨y, hy⟩ := F.reads x hx
  obtain ⟨y', hy'⟩ := F'.reads x' hx'
  rw [rg_of hy, rg_of hy']
  have m1 := rd_key hy
  have m2 := rd_key hy'
  rw [e, m2] at m1
  exact Option.some.inj m1
 refine ⟨(leftOf es' seen).size, ⟨es', clock, since, seen, c0, hb', F', hs', rfl, hr'.trans hr, ?_, rfl, ?_, ?_, h1, h2⟩, ?_⟩
 ·intro x hx
  obtain ⟨x0, m0, b0, _⟩ := hx' x hx
  rw [<- b0]
  exact hold x0 m0
 ·intro x hx
  obtain ⟨x0, m0, b0, k0⟩ := hx' x hx
  dsimp only
  rw [(has_entry K F' _).2 ⟨x, hx, rfl⟩, Bool.and_true, same x0 m0 x hx k0, hl1 x0 m0, b0]
 ·intro kl hkl
  simp only [Bool.and_eq_true] at hkl
  exact (has_entry K F' kl).1 hkl.2
 ·subst hc
  have e1 : ∀ a : Array MapEntry, (leftOf a seen).size = ((a.toList.filter fun e => !seen.contains e.born).map MapEntry.born).length := fun a => by
   unfold leftOf
   rw [<- Array.toList_filter, List.length_map, Array.length_toList]
  rw [e1, e1]
  refine List.Nodup.length_le_of_subset ?_ ?_
  ·have := F'.stamped.2.1
   exact (List.Sublist.map _ List.filter_sublist).nodup this
  ·intro q hq
   obtain ⟨x, hx, rfl⟩ := List.mem_map.1 hq
   rw [List.mem_filter] at hx
   obtain ⟨x0, m0, b0, _⟩ := hx' x hx.1
   exact List.mem_map.2 ⟨x0, List.mem_filter.2 ⟨m0, by rw [b0]; exact hx.2⟩, b0⟩
end
theorem put_step {w w' : World} {mb nl i : Nat} {m : Nat -> Nat -> Nat} {f : Nat -> Nat} (h : MarksAt w mb nl m) (hi : i < nl) (hb : nl <= 16384) (hs : someMk (m i))
  (hrun : (Instr.mapUpdate 114 (.map (some mb)) (.int .i64 (i : Int)) (mkV f)).run Tryz.prog w = .ok () w') : MapStep w w' mb := by
 obtain ⟨D, ⟨es, clock, hmb, F, hsz, rfl⟩, hk, hs2, ha⟩ := h
 have hkey := key_of (i := i) (by omega)
 have hthere := (hs2 i hi).2 hs
 obtain ⟨x0, hx0, hk0⟩ := (has_entry keyed F _).1 hthere
 have hkeys : ∀ e ∈ es.toList, ∃ l, keyOf Tryz.prog 3 e.key = some l := fun e he => by
  obtain ⟨y, hy⟩ := F.reads e he
  exact ⟨_, rd_key hy⟩
 rcases keyed.find w hkey es.toList hkeys with ⟨h1, h2⟩ | ⟨j, e0, h1, h2, h3⟩
 ·exfalso
  have m := rg_key F hx0
  rw [hk0] at m
  exact h2 x0 hx0 (keyed.inj m hkey)
 ·have hj : es[j]? = some e0 := by simpa using h2
  have hrun2 : (Instr.mapUpdate 114 (.map (some mb)) (.int .i64 (i : Int)) (mkV f)).run Tryz.prog w = .ok () (setBlock w mb (.map (es.modify j (fun e' => { e' with key := .int .i64 (i : Int), val := mkV f })) clock)) := by
   simp [Instr.mapUpdate, run_underlying Tryz.underlying114, MapKept.run_getObj_map hmb, keyed.check w false hkey, h1, hj, h3, keyed.stays w hkey, MapKept.run_setObj_map _ hmb, Result.andThen, setBlock]
  rw [hrun2] at hrun
  injection hrun with _ hw
  subst hw
  intro es2 c2 he2
  rw [hmb] at he2
  injection he2 with he2
  injection he2 with e1 e2
  subst e1 e2
  refine ⟨_, heap_setBlock_same hmb _, fun x' hx' => ?_⟩
  rw [Array.toList_modify] at hx'
  obtain ⟨q, hq, ex⟩ := List.getElem_of_mem hx'
  have hq' : q < es.toList.length := by simpa using hq
  refine ⟨es.toList[q], List.getElem_mem hq', ?_⟩
  rw [List.getElem_modify] at ex
  rw [<- ex]
  split
  ·rename_i hjq
   subst hjq
   have : es.toList[j] = e0 := by
    rw [List.getElem?_eq_getElem hq'] at h2
    exact Option.some.inj h2
   rw [this]
   exact ⟨rfl, h3⟩
  ·exact ⟨rfl, rfl⟩
theorem del_step {w w' : World} {mb nl i : Nat} {ty : TypeId} {m : Nat -> Nat -> Nat} (h : MarksAt w mb nl m) (hi : i < nl) (hb : nl <= 16384)
  (hrun : (Builtin.delete_ #[114, 3] ty #[.map (some mb), .int .i64 (i : Int)]).run Tryz.prog w = .ok (.tuple #[]) w') : MapStep w w' mb := by
 obtain ⟨D, ⟨es, clock, hmb, F, hsz, rfl⟩, hk, hs2, ha⟩ := h
 obtain ⟨es', hrun2, _, _, _, hsub, _⟩ := fit_drop_who (ty := ty) keyed Tryz.underlying114 hmb F (key_of (i := i) (by omega))
 rw [hrun2] at hrun
 injection hrun with _ hw
 subst hw
 intro es2 c2 he2
 rw [hmb] at he2
 injection he2 with he2
 injection he2 with e1 e2
 subst e1 e2
 exact ⟨es', heap_setBlock_same hmb _, fun x hx => ⟨x, hsub.subset hx, rfl, rfl⟩⟩
end Go.Proofs.YtkbklooocdfcfaaGreatDoor
namespace Go.Proofs.YtkbklooocdfcfaaGreatDoor
open Go.RowKit
def iv (z : Int) : Value := .int .i64 z
def keptN (keep : List Int) (i n : Nat) : Nat := if keep = [] then 0 else (max 0 (keep.getD (i % keep.length) 0)).toNat % (n + 1)
end Go.Proofs.YtkbklooocdfcfaaGreatDoor
namespace Go.Proofs.YtkbklooocdfcfaaGreatDoor
open Go.RowKit Go.Maps
structure Lk where
 n : Nat
 hm : Nat -> Option Nat
 wt : Nat -> Nat
 sz : Nat
structure Lk.Ok (s : Lk) : Prop where
 n1 : 1 <= s.n
 n2 : s.n <= 64
 h0 : s.hm 0 = none
 hc : ∀ id c, s.hm id = some c -> c < s.n /\ id < 18446744073709551616
 wb : ∀ c, s.wt c < 18446744073709551616
 wo : ∀ c, s.n <= c -> s.wt c = 0
 hw : ∀ c, s.wt c ≠ 0 -> s.hm (s.wt c) ≠ some c
 zs : s.sz <= 1000000
def kR : Value -> Option (DataW Unit × List MemPlace)
 | .int .i64 n => some (.lit (.int .i64 n), [])
 | _ => none
def akey (id : Nat) : Lit := .int .u64 (id : Int)
theorem akeyed : Keyed Tryz.prog 30 := int_keyed Tryz.underlying30
theorem akey_inj {i j : Nat} (h : akey i = akey j) : i = j := by
 unfold akey at h
 injection h with _ h
 omega
theorem akey_is (i : Nat) : WideAt.IsKeyLit (akey i) := by
 unfold akey WideAt.IsKeyLit
 trivial
theorem akey_of {i : Nat} (h : i < 18446744073709551616) : keyOf Tryz.prog 30 (.int .u64 (i : Int)) = some (akey i) := by
 refine keyOf_int_mk Tryz.underlying30 ?_
 simp only [Lit.wf, Bool.and_eq_true, decide_eq_true_eq]
 exact ⟨by show (0 : Int) <= _; omega, by show _ <= (18446744073709551615 : Int); omega⟩
theorem zeroInt (W : World) : (zeroValue 3).run Tryz.prog W = .ok (.int .i64 0) W := by kernel_rfl
def HasAt (w : World) (b : Nat) (hm : Nat -> Option Nat) (sz : Nat) : Prop :=
 ∃ D : DataW Unit, w.ownsMap Tryz.prog 30 kR b sz D /\ (∀ k, Maps.has D k = true -> ∃ id, id < 18446744073709551616 /\ k = akey id) /\
  (∀ id, id < 18446744073709551616 -> Maps.has D (akey id) = (hm id).isSome) /\ (∀ id c, id < 18446744073709551616 -> hm id = some c -> ∀ z, D.atKey (akey id) z = .lit (.int .i64 (c : Int)))
theorem HasAt.map {w : World} {b sz : Nat} {hm : Nat -> Option Nat} (h : HasAt w b hm sz) : ∃ es c, w.heap[b]? = some (.map es c) := by
 obtain ⟨D, ⟨es, c, hb, hr⟩, h2⟩ := h
 exact ⟨es, c, hb⟩
theorem HasAt.lt {w : World} {b sz : Nat} {hm : Nat -> Option Nat} (h : HasAt w b hm sz) : b < w.heap.size := by
 obtain ⟨es, c, hb⟩ := h.map
 exact (Array.getElem?_eq_some_iff.1 hb).1
theorem HasAt.same {w w' : World} {b sz : Nat} {hm : Nat -> Option Nat} (h : HasAt w b hm sz) (hk : w'.heap[b]? = w.heap[b]?) : HasAt w' b hm sz := by
 obtain ⟨D, ⟨es, c, hb, hr⟩, h2⟩ := h
 exact ⟨D, ⟨es, c, hk.trans hb, hr⟩, h2⟩
theorem kR_inv {v : Value} {y : DataW Unit × List MemPlace} (h : kR v = some y) : ∃ n, v = .int .i64 n /\ y = (.lit (.int .i64 n), []) := by
 unfold kR at h
 split at h
 ·cases h
  exact ⟨_, rfl, rfl⟩
 ·cases h
def hV (o : Option Nat) : Value := .int .i64 ((o.getD 0 : Nat) : Int)
theorem has_val {hm : Nat -> Option Nat} {D : DataW Unit} {id : Nat} (hi : id < 18446744073709551616) (h1 : Maps.has D (akey id) = (hm id).isSome) (h2 : ∀ c, hm id = some c -> ∀ z, D.atKey (akey id) z = .lit (.int .i64 (c : Int)))
  {v : Value} {ps : List MemPlace} (hv : kR v = some (D.atKey (akey id) (.lit (.int .i64 0)), ps)) : v = hV (hm id) := by
 obtain ⟨n, rfl, he⟩ := kR_inv hv
 injection he with he _
 cases e : hm id with
 | none =>
  rw [e] at h1
  rw [atKey_of_not_has h1] at he
  injection he with he
  injection he with _ he
  rw [<- he]
  rfl
 | some c =>
  rw [h2 c e] at he
  injection he with he
  injection he with _ he
  rw [<- he]
  rfl
theorem has_look_ok {w : World} {b sz id : Nat} {hm : Nat -> Option Nat} (h : HasAt w b hm sz) (hi : id < 18446744073709551616) :
  (Instr.lookup 183 (.map (some b)) (.int .u64 (id : Int)) true).run Tryz.prog w = .ok (.tuple #[hV (hm id), .bool (hm id).isSome]) w := by
 obtain ⟨D, hown, hk, hs, ha⟩ := h
 obtain ⟨v, ps, hrun, hv⟩ := hown.look_ok akeyed Tryz.underlying183 (zeroInt w) (show kR (.int .i64 0) = some (.lit (.int .i64 0), []) from rfl) (akey_of hi)
 rw [hrun, has_val hi (hs id hi) (fun c hc => ha id c hi hc) hv, hs id hi]
def setH (hm : Nat -> Option Nat) (id : Nat) (o : Option Nat) : Nat -> Option Nat := fun j => if j = id then o else hm j
theorem has_put {w : World} {b sz id c : Nat} {hm : Nat -> Option Nat} (h : HasAt w b hm sz) (hz : sz <= 1000000) (hi : id < 18446744073709551616) :
  ∃ w', (Instr.mapUpdate 183 (.map (some b)) (.int .u64 (id : Int)) (.int .i64 (c : Int))).run Tryz.prog w = .ok () w' /\ HasAt w' b (setH hm id (some c)) (sz + 1) /\ w.grownBy w' (some b) := by
 obtain ⟨D, hown, hk, hs, ha⟩ := h
 obtain ⟨w', hrun, ho, hg⟩ := hown.update akeyed Tryz.underlying183 (by unfold maxLen; omega) (akey_of hi) (show kR (.int .i64 (c : Int)) = some (.lit (.int .i64 (c : Int)), []) from rfl)
 refine ⟨w', hrun, ⟨_, ho, ?_, ?_, ?_⟩, hg⟩
 ·intro k hk'
  by_cases e : k = akey id
  ·exact ⟨id, hi, e⟩
  ·rw [has_put_other e] at hk'
   exact hk k hk'
 ·intro j hj
  by_cases e : j = id
  ·subst e
   simp only [setH, if_true]
   exact has_put_same hown.isMap (akey_is _) _
  ·rw [has_put_other (fun e' => e (akey_inj e')), hs j hj]
   simp only [setH, if_neg e]
 ·intro j c' hj hc z
  by_cases e : j = id
  ·subst e
   simp only [setH, if_true, Option.some.injEq] at hc
   subst hc
   exact atKey_put_same hown.isMap (akey_is _) _ _
  ·have e' : akey j ≠ akey id := fun e' => e (akey_inj e')
   rw [atKey_put_other e']
   simp only [setH, if_neg e] at hc
   exact ha j c' hj hc z
def ktcells (n : Nat) (m : Option Nat) (wt : Nat -> Nat) : Array Value := #[.int .i64 (n : Int), .map m] ++ Array.ofFn fun i : Fin 64 => wv (wt i.val)
theorem tcells_0 (n : Nat) (m : Option Nat) (wt : Nat -> Nat) : (ktcells n m wt)[0]? = some (.int .i64 (n : Int)) := by simp [ktcells, Array.getElem?_append]
theorem tcells_1 (n : Nat) (m : Option Nat) (wt : Nat -> Nat) : (ktcells n m wt)[1]? = some (.map m) := by simp [ktcells, Array.getElem?_append]
theorem tcells_w (n : Nat) (m : Option Nat) (wt : Nat -> Nat) {c : Nat} (h : c < 64) : (ktcells n m wt)[2 + c]? = some (.int .u64 (wt c : Int)) := by
 rw [ktcells, Array.getElem?_append_right (by simp)]
 simp [h, wv]
def setW (wt : Nat -> Nat) (c a : Nat) : Nat -> Nat := fun i => if i = c then a else wt i
theorem ktcells_set (n : Nat) (m : Option Nat) (wt : Nat -> Nat) (c a : Nat) (h : c < 64) : (ktcells n m wt).setIfInBounds (2 + c) (.int .u64 (a : Int)) = ktcells n m (setW wt c a) := by
 apply Array.ext
 ·simp [ktcells]
 ·intro i h1 h2
  rw [Array.getElem_setIfInBounds (by simpa using h1)]
  by_cases e : 2 + c = i
  ·subst e
   rw [if_pos rfl]
   have := tcells_w n m (setW wt c a) h
   rw [Array.getElem?_eq_getElem h2] at this
   simpa [setW] using this.symm
  ·rw [if_neg e]
   by_cases hi : i < 2
   ·simp only [ktcells]
    rw [Array.getElem_append_left (by simpa using hi), Array.getElem_append_left (by simpa using hi)]
   ·simp only [ktcells]
    rw [Array.getElem_append_right (by simp; omega), Array.getElem_append_right (by simp; omega)]
    have e' : ¬ i - 2 = c := by omega
    simp [setW, e']
structure KAt (w : World) (g b : Nat) (s : Lk) : Prop where
 row : Row w g 186 (ktcells s.n (some b) s.wt)
 mp : HasAt w b s.hm s.sz
 ok : s.Ok
theorem KAt.ne {w : World} {g b : Nat} {s : Lk} (h : KAt w g b s) : g ≠ b := by
 rintro rfl
 obtain ⟨es, c, hb⟩ := h.mp.map
 have hr := h.row
 unfold Row at hr
 rw [hb] at hr
 injection hr with hr
 cases hr
theorem KAt.same {w w' : World} {g b : Nat} {s : Lk} (h : KAt w g b s) (hg : w'.heap[g]? = w.heap[g]?) (hb : w'.heap[b]? = w.heap[b]?) : KAt w' g b s :=
 ⟨(show w'.heap[g]? = _ from hg.trans h.row), h.mp.same hb, h.ok⟩
theorem KAt.below {w w' : World} {g b : Nat} {s : Lk} (h : KAt w g b s) (hb : Below w.heap.size w w') : KAt w' g b s := h.same (hb.block _ h.row.lt) (hb.block _ h.mp.lt)
def kfp (g b k : Nat) : Prop := k = g \/ k = b
theorem KAt.but {w w' : World} {g b : Nat} {s : Lk} {fp : Nat -> Prop} (h : KAt w g b s) (hb : But w w' fp) (h1 : ¬ fp g) (h2 : ¬ fp b) : KAt w' g b s := h.same (hb.block _ h.row.lt h1) (hb.block _ h.mp.lt h2)
theorem KAt.cn {w : World} {g b : Nat} {s : Lk} (h : KAt w g b s) : w.cell? ⟨g, 0, none⟩ = some (.int .i64 (s.n : Int)) := by rw [h.row.cell]; exact tcells_0 _ _ _
theorem KAt.cm {w : World} {g b : Nat} {s : Lk} (h : KAt w g b s) : w.cell? ⟨g, 1, none⟩ = some (.map (some b)) := by rw [h.row.cell]; exact tcells_1 _ _ _
theorem KAt.cw {w : World} {g b : Nat} {s : Lk} (h : KAt w g b s) {c : Nat} (hc : c < 64) : w.cell? ⟨g, 2 + c, none⟩ = some (.int .u64 (s.wt c : Int)) := by rw [h.row.cell]; exact tcells_w _ _ _ hc
theorem KAt.free {w : World} {g b : Nat} {s : Lk} (h : KAt w g b s) (i : Nat) : w.frozen? ⟨g, i, none⟩ = false := h.row.free i
def NoTab (w : World) (p : Option Addr) : Prop := p = none \/ ∃ g, p = some ⟨g, 0, none⟩ /\ Row w g 186 (ktcells 0 none fun _ => 0)
end Go.Proofs.YtkbklooocdfcfaaGreatDoor
namespace Go.Proofs.YtkbklooocdfcfaaGreatDoor
open Go.RowKit
theorem clients_yes {w : World} {g b : Nat} {s : Lk} (h : KAt w g b s) : Calls Tryz.prog 158 #[.pointer (some ⟨g, 0, none⟩)] w fun e w' => e = .returned (.int .i64 (s.n : Int)) /\ w = w' := by
 have h1 := h.cn
 clear h
 go_enter Tryz.func158, Tryz.ntmps158
 go_wp2
 go_ret
 exact ⟨rfl, rfl⟩
def isC (s : Lk) (c : Int) : Bool := decide (0 <= c /\ c < (s.n : Int))
theorem kis_any {w : World} {g b : Nat} {s : Lk} (h : KAt w g b s) (c : Int) : Calls Tryz.prog 159 #[.pointer (some ⟨g, 0, none⟩), .int .i64 c] w fun e w' => e = .returned (.bool (isC s c)) /\ w = w' := by
 have H := Lib.hid (clients_yes h)
 clear h
 by_cases h0 : 0 <= c
 ·by_cases h1 : c < (s.n : Int)
  ·have e : isC s c = true := by simp [isC, h0, h1]
   rw [e]
   clear e
   generalize s.n = n at *
   go_enter Tryz.func159, Tryz.ntmps159
   go_wp2_with fail
   refine H.out.mono ?_
   rintro e w1 ⟨rfl, rfl⟩
   go_wp2
   go_ret
   exact ⟨rfl, rfl⟩
  ·have e : isC s c = false := by simp [isC, h1]
   rw [e]
   clear e
   generalize s.n = n at *
   have h2 : decide (c < (n : Int)) = false := by simpa using h1
   go_enter Tryz.func159, Tryz.ntmps159
   go_wp2_with fail
   refine H.out.mono ?_
   rintro e w1 ⟨rfl, rfl⟩
   go_wp2
   go_ret
   exact ⟨rfl, rfl⟩
 ·have e : isC s c = false := by simp [isC, h0]
  rw [e]
  clear e
  go_enter Tryz.func159, Tryz.ntmps159
  go_wp2
  go_ret
  exact ⟨rfl, rfl⟩
theorem holder_any {w : World} {g b : Nat} {s : Lk} (h : KAt w g b s) {id : Nat} (hi : id < 18446744073709551616) : Calls Tryz.prog 160 #[.pointer (some ⟨g, 0, none⟩), .int .u64 (id : Int)] w fun e w' => e = .returned (.tuple #[hV (s.hm id), .bool (s.hm id).isSome]) /\ w = w' := by
 have h1 := h.cm
 have hl := has_look_ok h.mp hi
 clear h hi
 have e : hV (s.hm id) = .int .i64 ((s.hm id).getD 0 : Nat) := rfl
 rw [e] at hl ⊢
 clear e
 generalize ((s.hm id).getD 0 : Nat) = x at *
 generalize (s.hm id).isSome = y at *
 go_enter Tryz.func160, Tryz.ntmps160
 go_wp2
 go_ret2
 exact ⟨rfl, rfl⟩
theorem isC_yes {s : Lk} {c : Nat} (hc : c < s.n) : isC s (c : Int) = true := by simp [isC]; omega
def SiteAt (w : World) (g : Nat) (m s t : Option Addr) : Prop := Row w g 83 #[.pointer m, .pointer s, .pointer t]
theorem siMem_nil (w : World) : Calls Tryz.prog 27 #[.pointer none] w fun e w' => e = .returned (.pointer none) /\ w = w' := by
 go_enter Tryz.func27, Tryz.ntmps27
 go_wp2
 go_ret
 exact ⟨rfl, rfl⟩
theorem siMem_yes {w : World} {g : Nat} {m s t : Option Addr} (h : SiteAt w g m s t) : Calls Tryz.prog 27 #[.pointer (some ⟨g, 0, none⟩)] w fun e w' => e = .returned (.pointer m) /\ w = w' := by
 have h1 := Row.cell h 0
 simp only [List.getElem?_toArray, List.getElem?_cons_succ, List.getElem?_cons_zero] at h1
 clear h
 go_enter Tryz.func27, Tryz.ntmps27
 go_wp2
 go_ret
 exact ⟨rfl, rfl⟩
theorem siSlab_nil (w : World) : Calls Tryz.prog 12 #[.pointer none] w fun e w' => e = .returned (.pointer none) /\ w = w' := by
 go_enter Tryz.func12, Tryz.ntmps12
 go_wp2
 go_ret
 exact ⟨rfl, rfl⟩
theorem siSlab_yes {w : World} {g : Nat} {m s t : Option Addr} (h : SiteAt w g m s t) : Calls Tryz.prog 12 #[.pointer (some ⟨g, 0, none⟩)] w fun e w' => e = .returned (.pointer s) /\ w = w' := by
 have h1 := Row.cell h 1
 simp only [List.getElem?_toArray, List.getElem?_cons_succ, List.getElem?_cons_zero] at h1
 clear h
 go_enter Tryz.func12, Tryz.ntmps12
 go_wp2
 go_ret
 exact ⟨rfl, rfl⟩
theorem siLocks_yes {w : World} {g : Nat} {m s t : Option Addr} (h : SiteAt w g m s t) : Calls Tryz.prog 132 #[.pointer (some ⟨g, 0, none⟩)] w fun e w' => e = .returned (.pointer t) /\ w = w' := by
 have h1 := Row.cell h 2
 simp only [List.getElem?_toArray, List.getElem?_cons_succ, List.getElem?_cons_zero] at h1
 clear h
 go_enter Tryz.func132, Tryz.ntmps132
 go_wp2
 go_ret
 exact ⟨rfl, rfl⟩
def tryB (s : Lk) (c id : Nat) : Bool := match s.hm id with | none => true | some h => h == c
def tryS (s : Lk) (c id : Nat) : Lk := if tryB s c id = true then ⟨s.n, setH s.hm id (some c), setW s.wt c 0, s.sz + 1⟩ else ⟨s.n, s.hm, setW s.wt c id, s.sz⟩
theorem tryS_n (s : Lk) (c id : Nat) : (tryS s c id).n = s.n := by unfold tryS; split <;> rfl
theorem tryS_ok {s : Lk} (h : s.Ok) {c id : Nat} (hc : c < s.n) (h0 : id ≠ 0) (hi : id < 18446744073709551616) (hz : s.sz < 1000000) : (tryS s c id).Ok := by
 unfold tryS
 split
 ·rename_i hb
  refine ⟨h.n1, h.n2, ?_, ?_, ?_, ?_, ?_, by show s.sz + 1 <= _; omega⟩
  ·show setH s.hm id (some c) 0 = none
   unfold setH
   rw [if_neg (by omega)]
   exact h.h0
  ·intro i d hd
   change setH s.hm id (some c) i = some d at hd
   unfold setH at hd
   split at hd
   ·rename_i e
    cases hd
    exact ⟨hc, by omega⟩
   ·exact h.hc i d hd
  ·intro d
   show setW s.wt c 0 d < _
   unfold setW
   split
   ·omega
   ·exact h.wb d
  ·intro d hd
   show setW s.wt c 0 d = 0
   unfold setW
   split
   ·rfl
   ·exact h.wo d hd
  ·intro d hd
   change setW s.wt c 0 d ≠ 0 at hd
   show setH s.hm id (some c) (setW s.wt c 0 d) ≠ some d
   unfold setW at hd ⊢
   split at hd
   ·exact absurd rfl hd
   ·rename_i e
    rw [if_neg e]
    unfold setH
    split
    ·intro e'
     injection e' with e'
     exact e e'.symm
    ·exact h.hw d hd
 ·rename_i hb
  refine ⟨h.n1, h.n2, h.h0, h.hc, ?_, ?_, ?_, h.zs⟩
  ·intro d
   show setW s.wt c id d < _
   unfold setW
   split
   ·exact hi
   ·exact h.wb d
  ·intro d hd
   have : d ≠ c := by have : s.n <= d := hd; omega
   show setW s.wt c id d = 0
   unfold setW
   rw [if_neg this]
   exact h.wo d hd
  ·intro d hd
   change setW s.wt c id d ≠ 0 at hd
   show s.hm (setW s.wt c id d) ≠ some d
   unfold setW at hd ⊢
   split
   ·rename_i e
    subst e
    intro e'
    apply hb
    unfold tryB
    rw [e']
    simp
   ·rename_i e
    rw [if_neg e] at hd
    exact h.hw d hd
def KPost (w : World) (g b : Nat) (ok : Bool) (s' : Lk) (e : Ending) (w' : World) : Prop := e = .returned (.bool ok) /\ KAt w' g b s' /\ But w w' (kfp g b)
theorem hV_some (c : Nat) : hV (some c) = .int .i64 (c : Int) := rfl
theorem hV_none : hV none = .int .i64 0 := rfl
theorem KAt.wset {w : World} {g b : Nat} {s s' : Lk} (h : KAt w g b s) {c a : Nat} (hc : c < 64) (hs : s'.n = s.n) (hh : s'.hm = s.hm) (hw : s'.wt = setW s.wt c a) (hz : s'.sz = s.sz) (ho : s'.Ok) : KAt (w.setCell ⟨g, 2 + c, none⟩ (.int .u64 (a : Int))) g b s' := by
 refine ⟨?_, ?_, ho⟩
 ·rw [hs, hw, <- ktcells_set _ _ _ _ _ hc]
  exact h.row.set _ _
 ·rw [hh, hz]
  exact h.mp.same (heap_setCell_other w _ _ _ (fun e => h.ne e.symm))
theorem nat_eq0 {n : Nat} (h : n ≠ 0) : ((n : Int) == 0) = false := by
 rw [Bool.eq_false_iff]
 intro hh
 have := beq_iff_eq.1 hh
 omega
theorem nat_ne {n m : Nat} (h : n ≠ m) : ((n : Int) != (m : Int)) = true := by
 rw [bne_iff_ne]
 omega
theorem try_any {w : World} {g b : Nat} {s : Lk} (h : KAt w g b s) {c id : Nat} (hc : c < s.n) (h0 : id ≠ 0) (hi : id < 18446744073709551616) (hz : s.sz < 1000000) :
  Calls Tryz.prog 156 #[.pointer (some ⟨g, 0, none⟩), .int .i64 (c : Int), .int .u64 (id : Int)] w (KPost w g b (tryB s c id) (tryS s c id)) := by
 have c64 : c < 64 := by have := h.ok.n2; omega
 have hI := kis_any h (c : Int)
 rw [isC_yes hc] at hI
 have HI := Lib.hid hI
 have HH := holder_any h hi
 have HO := Lib.hid (tryS_ok h.ok hc h0 hi hz)
 have hid0 := nat_eq0 h0
 have hcell := h.cw c64
 have hfr := h.free (2 + c)
 have hcm := h.cm
 obtain ⟨w2, hput, hH2, hg2⟩ := has_put (c := c) h.mp h.ok.zs hi
 have hrow2 : Row w2 g 186 (ktcells s.n (some b) s.wt) := h.row.grown hg2 (fun e => h.ne (by injection e))
 have hcell2 : w2.cell? ⟨g, 2 + c, none⟩ = some (.int .u64 (s.wt c : Int)) := by rw [hrow2.cell]; exact tcells_w _ _ _ c64
 have hfr2 : w2.frozen? ⟨g, 2 + c, none⟩ = false := hrow2.free _
 have hbut2 : But w w2 (kfp g b) := ⟨hg2.os, hg2.tape, hg2.output, hg2.size, fun k hk hn => hg2.block k hk (fun e => hn (.inr (by injection e)))⟩
 have HR2 := Lib.hid hrow2
 have HB2 := Lib.hid hbut2
 have HH2 := Lib.hid hH2
 have HK := Lib.hid h
 cases e : s.hm id with
 | none =>
  have hb : tryB s c id = true := by unfold tryB; rw [e]
  rw [hb]
  rw [e, hV_none, Option.isSome_none] at HH
  have HH := Lib.hid HH
  have HE : Hid (∀ w3, w3 = w2.setCell ⟨g, 2 + c, none⟩ (.int .u64 0) -> KPost w g b true (tryS s c id) (.returned (.bool true)) w3) := Lib.hid (by
   rintro w3 rfl
   refine ⟨rfl, ?_, HB2.out.set (.inl rfl) _⟩
   have hs : tryS s c id = ⟨s.n, setH s.hm id (some c), setW s.wt c 0, s.sz + 1⟩ := by unfold tryS; rw [if_pos hb]
   refine ⟨?_, ?_, HO.out⟩
   ·rw [hs]
    show Row _ _ _ (ktcells s.n (some b) (setW s.wt c 0))
    rw [<- ktcells_set _ _ _ _ _ c64]
    exact HR2.out.set _ _
   ·rw [hs]
    exact HH2.out.same (heap_setCell_other w2 _ _ _ (fun e => HK.out.ne e.symm)))
  clear h hc h0 hi hz e hb hg2 hrow2 hbut2 hH2 hI
  generalize s.wt c = t at *
  go_enter Tryz.func156, Tryz.ntmps156
  go_wp2_with fail
  refine HI.out.mono ?_
  rintro e w1 ⟨rfl, rfl⟩
  go_wp2_with fail
  refine HH.out.mono ?_
  rintro e w1 ⟨rfl, rfl⟩
  go_wp2
  go_ret
  exact HE.out _ rfl
 | some x =>
  rw [e, hV_some, Option.isSome_some] at HH
  have HH := Lib.hid HH
  by_cases hx : x = c
  ·have hb : tryB s c id = true := by unfold tryB; rw [e]; simpa using hx
   rw [hb]
   have HE : Hid (∀ w3, w3 = w2.setCell ⟨g, 2 + c, none⟩ (.int .u64 0) -> KPost w g b true (tryS s c id) (.returned (.bool true)) w3) := Lib.hid (by
    rintro w3 rfl
    refine ⟨rfl, ?_, HB2.out.set (.inl rfl) _⟩
    have hs : tryS s c id = ⟨s.n, setH s.hm id (some c), setW s.wt c 0, s.sz + 1⟩ := by unfold tryS; rw [if_pos hb]
    refine ⟨?_, ?_, HO.out⟩
    ·rw [hs]
     show Row _ _ _ (ktcells s.n (some b) (setW s.wt c 0))
     rw [<- ktcells_set _ _ _ _ _ c64]
     exact HR2.out.set _ _
    ·rw [hs]
     exact HH2.out.same (heap_setCell_other w2 _ _ _ (fun e => HK.out.ne e.symm)))
   clear h hc h0 hi hz e hb hg2 hrow2 hbut2 hH2 hI
   subst hx
   generalize s.wt x = t at *
   go_enter Tryz.func156, Tryz.ntmps156
   go_wp2_with fail
   refine HI.out.mono ?_
   rintro e w1 ⟨rfl, rfl⟩
   go_wp2_with fail
   refine HH.out.mono ?_
   rintro e w1 ⟨rfl, rfl⟩
   go_wp2
   go_ret
   exact HE.out _ rfl
  ·have hb : tryB s c id = false := by unfold tryB; rw [e]; simpa using hx
   rw [hb]
   have hne := nat_ne hx
   have HE : Hid (∀ w3, w3 = w.setCell ⟨g, 2 + c, none⟩ (.int .u64 (id : Int)) -> KPost w g b false (tryS s c id) (.returned (.bool false)) w3) := Lib.hid (by
    rintro w3 rfl
    have hs : tryS s c id = ⟨s.n, s.hm, setW s.wt c id, s.sz⟩ := by unfold tryS; rw [if_neg (by rw [hb]; simp)]
    exact ⟨rfl, HK.out.wset c64 (by rw [hs]) (by rw [hs]) (by rw [hs]) (by rw [hs]) HO.out, But.set (But.refl _ _) (.inl rfl) _⟩)
   clear h hc h0 hi hz e hb hg2 hrow2 hbut2 hH2 hI hput hcell2 hfr2 hx
   generalize s.wt c = t at *
   go_enter Tryz.func156, Tryz.ntmps156
   go_wp2_with fail
   refine HI.out.mono ?_
   rintro e w1 ⟨rfl, rfl⟩
   go_wp2_with fail
   refine HH.out.mono ?_
   rintro e w1 ⟨rfl, rfl⟩
   go_wp2
   go_ret
   exact HE.out _ rfl
theorem siClients_of {w : World} {p t : Option Addr} {n : Int} (hl : Calls Tryz.prog 132 #[.pointer p] w fun e w' => e = .returned (.pointer t) /\ w = w') (hc : Calls Tryz.prog 158 #[.pointer t] w fun e w' => e = .returned (.int .i64 n) /\ w = w') :
  Calls Tryz.prog 131 #[.pointer p] w fun e w' => e = .returned (.int .i64 n) /\ w = w' := by
 have HL := Lib.hid hl
 have HC := Lib.hid hc
 clear hl hc
 go_enter Tryz.func131, Tryz.ntmps131
 go_wp2_with fail
 refine HL.out.mono ?_
 rintro e w' ⟨rfl, rfl⟩
 go_wp2_with fail
 refine HC.out.mono ?_
 rintro e w' ⟨rfl, rfl⟩
 go_wp2
 go_ret
 exact ⟨rfl, rfl⟩
end Go.Proofs.YtkbklooocdfcfaaGreatDoor
