/- Texts of this claim, packed: Mem, BWord, BRef. -/
import Derived.Test.YtkbklooocdfcfaaGreatDoorPz04
import Derived.Test.YtkbklooocdfcfaaGreatDoorRows
import Derived.WalkKit
import Derived.WalkSpells
import Derived.WalkLawsBesides
import Derived.Lib.Hide
import Derived.Laws.BitsAllLaws
import Derived.Laws.Tables
import Derived.Laws.CopyOwn
import Derived.Outline
set_option linter.unusedVariables false
set_option maxRecDepth 100000
set_option maxHeartbeats 6400000
namespace Go.Proofs.YtkbklooocdfcfaaGreatDoor
open Go.RowKit
def bv (n : Nat) : Value := .int .u8 (n : Int)
def wv (n : Nat) : Value := .int .u64 (n : Int)
def Row (w : World) (g : Nat) (t : TypeId) (cs : Array Value) : Prop := w.heap[g]? = some (.cells cs t (0, 0))
section
variable {w w' : World} {g : Nat} {t : TypeId} {cs : Array Value}
theorem Row.lt (h : Row w g t cs) : g < w.heap.size := by
 by_cases hl : g < w.heap.size
 ·exact hl
 ·have h' : w.heap[g]? = some (.cells cs t (0, 0)) := h
  rw [Array.getElem?_eq_none (by omega)] at h'
  cases h'
theorem Row.cell (h : Row w g t cs) (i : Nat) : w.cell? ⟨g, i, none⟩ = cs[i]? := cell_of_row w g i cs t (0, 0) h
theorem Row.free (h : Row w g t cs) (i : Nat) : w.frozen? ⟨g, i, none⟩ = false := frozen_of_row w g i cs t h
theorem Row.new (w : World) (t : TypeId) (cs : Array Value) : Row (w.alloc (.cells cs t)) w.heap.size t cs := heap_alloc_new w _
theorem Row.alloc (h : Row w g t cs) (o : Obj) : Row (w.alloc o) g t cs := (Below.heap_alloc w o g h.lt).trans h
theorem Row.set (h : Row w g t cs) (i : Nat) (u : Value) : Row (w.setCell ⟨g, i, none⟩ u) g t (cs.setIfInBounds i u) := heap_setCell_same w g i cs t u h
theorem Row.other (h : Row w g t cs) {p : Addr} (hp : g ≠ p.block) (u : Value) : Row (w.setCell p u) g t cs := (heap_setCell_other w p g u hp).trans h
theorem Row.below {B : Nat} (h : Row w g t cs) (hb : Below B w w') (hg : g < B) : Row w' g t cs := (hb.block g hg).trans h
theorem Row.setRow (h : Row w g t cs) (ds : Array Value) : Row (w.setRow g ds) g t ds := setRow_heap w g cs ds t (0, 0) h
end
def part (n : Nat) (p : Nat -> Bool) (f : Nat -> Value) (z : Value) : Array Value := Array.ofFn fun i : Fin n => if p i.val then f i.val else z
def Sl (w : World) (A : Option Addr) (xs : List Value) : Prop := ∀ i u, xs[i]? = some u -> ∃ a, A = some a /\ w.cell? (a.add i) = some u
theorem Sl.below {w w' : World} {A : Option Addr} {xs : List Value} (h : Sl w A xs) (hb : Below w.heap.size w w') : Sl w' A xs := by
 intro i u hu
 obtain ⟨a, e, hc⟩ := h i u hu
 exact ⟨a, e, (hb.cell (block_lt_of_cell hc)).trans hc⟩
theorem Sl.at_ {w : World} {A : Option Addr} {xs : List Value} (h : Sl w A xs) {i : Nat} (hi : i < xs.length) : ∃ a, A = some a /\ w.cell? (a.add i) = some xs[i] := h i _ (List.getElem?_eq_getElem hi)
theorem Sl.some_ {w : World} {a : Addr} {xs : List Value} (h : Sl w (some a) xs) {i : Nat} (hi : i < xs.length) : w.cell? (a.add i) = some xs[i] := by
 obtain ⟨a', e, hc⟩ := h.at_ hi
 cases e
 exact hc
theorem own_below {w w' : World} {B C n : Nat} {e : TypeId} {v : Value} {xs : List Value} (h : w.ownsRow B e 1 v n xs) (hb : Below C w w') (hC : ∀ g, v.ownBlock = some g -> g < C) : w'.ownsRow B e 1 v n xs := by
 refine ⟨h.1, ?_⟩
 rcases h.2 with h0 | ⟨g, cap, cur, rfl, hg, hh, hr⟩
 ·exact .inl h0
 ·exact .inr ⟨g, cap, cur, rfl, hg, (hb.block g (hC g rfl)).trans hh, hr⟩
theorem own_keep {w w' : World} {B n : Nat} {e : TypeId} {v : Value} {xs : List Value} (h : w.ownsRow B e 1 v n xs) (hb : Below w.heap.size w w') : w'.ownsRow B e 1 v n xs := own_below h hb fun g hg => (h.lt g hg).2
theorem wv_ones (l : List Nat) : ∀ u ∈ l.map wv, u.oneCell' = true := by
 intro u hu
 simp only [List.mem_map] at hu
 obtain ⟨n, _, rfl⟩ := hu
 rfl
def InRow (k : IntKind) (w : World) (a : Option Addr) (len cap : Nat) (zs : List Int) : Prop :=
 (a = none /\ len = 0 /\ cap = 0 /\ zs = []) \/
 ∃ x, a = some x /\ len <= cap /\ cap <= maxLen /\ zs.length = cap /\ (∀ i, i < zs.length -> w.cell? (x.add i) = some (.int k (zs.getD i 0))) /\ ∀ n ∈ zs, (Lit.int k n).wf = true
theorem sl_lit (w : World) (t : TypeId) (l : List Nat) (f : Nat -> Value) : Sl (w.alloc (.cells (l.map f).toArray t)) (some ⟨w.heap.size, 0, none⟩) (l.map f) := by
 intro i u hu
 refine ⟨_, rfl, ?_⟩
 have e : (⟨w.heap.size, 0, none⟩ : Addr).add i = ⟨w.heap.size, i, none⟩ := by unfold Addr.add; split <;> simp_all
 rw [e, cell_of_row _ _ _ _ _ _ (heap_alloc_new w _)]
 simpa using hu
theorem drew_below (w : World) : Below w.heap.size w w.drew := ⟨rfl, rfl, rfl, Nat.le_refl _, fun _ _ => rfl⟩
theorem drewN_below (w : World) (q : Nat) : Below w.heap.size w (w.drewN q) := ⟨rfl, rfl, rfl, Nat.le_refl _, fun _ _ => rfl⟩
theorem alloc_below (w : World) (o : Obj) : Below w.heap.size w (w.alloc o) := (Below.refl _ _).alloc (Nat.le_refl _) _
theorem Below.and {w w1 w2 : World} (h : Below w.heap.size w w1) (h2 : Below w1.heap.size w1 w2) : Below w.heap.size w w2 := h.trans (h2.mono h.size)
theorem Row.grown {w w' : World} {g : Nat} {t : TypeId} {cs : Array Value} {row : Option Nat} (h : Row w g t cs) (hb : w.grownBy w' row) (hne : some g ≠ row) : Row w' g t cs := (hb.block g h.lt hne).trans h
theorem own_from {w : World} {B n : Nat} {e : TypeId} {v : Value} {xs : List Value} (h : w.ownsRow B e 1 v n xs) : ∀ k, v.ownBlock = some k -> B <= k := fun k hk => (h.lt k hk).1
theorem row_sl {w : World} {g : Nat} {t : TypeId} {l : List Nat} {f : Nat -> Value} (h : Row w g t (l.map f).toArray) : Sl w (some ⟨g, 0, none⟩) (l.map f) := by
 intro i u hu
 refine ⟨_, rfl, ?_⟩
 have e : (⟨g, 0, none⟩ : Addr).add i = ⟨g, i, none⟩ := by unfold Addr.add; split <;> simp_all
 rw [e, h.cell]
 simpa using hu
theorem add_lit (g k : Nat) : (⟨g, 0, none⟩ : Addr).add k = ⟨g, k, none⟩ := by unfold Addr.add; split <;> simp_all
theorem own_some {w : World} {B n : Nat} {e : TypeId} {v : Value} {xs : List Value} (h : w.ownsRow B e 1 v n xs) (hn : 0 < n) : ∃ g cap, v = .slice (some ⟨g, 0, none⟩) n cap /\ n <= cap /\ cap <= maxLen /\ Sl w (some ⟨g, 0, none⟩) xs := by
 rcases h.2 with ⟨_, h0⟩ | ⟨g, cap, cur, rfl, _, _, hnc, hm, _, _⟩
 ·omega
 ·exact ⟨g, cap, rfl, hnc, hm, fun i u hu => ⟨_, rfl, h.cells rfl i u hu⟩⟩
theorem add_zero' (a : Addr) : a.add 0 = a := by unfold Addr.add; simp
theorem size_set (w : World) (p : Addr) (u : Value) : (w.setCell p u).heap.size = w.heap.size := by simp [World.setCell]
structure But (w w' : World) (fp : Nat -> Prop) : Prop where
 os : w'.os = w.os
 tape : w'.tape = w.tape
 output : w'.output = w.output
 size : w.heap.size <= w'.heap.size
 block : ∀ k, k < w.heap.size -> ¬ fp k -> w'.heap[k]? = w.heap[k]?
theorem But.refl (w : World) (fp : Nat -> Prop) : But w w fp := ⟨rfl, rfl, rfl, Nat.le_refl _, fun _ _ _ => rfl⟩
theorem But.mono {w w' : World} {p q : Nat -> Prop} (h : But w w' p) (hq : ∀ k, p k -> q k) : But w w' q := ⟨h.os, h.tape, h.output, h.size, fun k hk hn => h.block k hk (fun hp => hn (hq k hp))⟩
theorem But.trans {w w1 w2 : World} {p q : Nat -> Prop} (h : But w w1 p) (h2 : But w1 w2 q) (hq : ∀ k, q k -> p k \/ w.heap.size <= k) : But w w2 p :=
 ⟨h2.os.trans h.os, h2.tape.trans h.tape, h2.output.trans h.output, Nat.le_trans h.size h2.size, fun k hk hn => (h2.block k (Nat.lt_of_lt_of_le hk h.size) (fun hp => by rcases hq k hp with h | h; exact hn h; omega)).trans (h.block k hk hn)⟩
theorem But.of_below {w w' : World} (h : Below w.heap.size w w') (fp : Nat -> Prop) : But w w' fp := ⟨h.os, h.tape, h.output, h.size, fun k hk _ => h.block k hk⟩
theorem But.below {w w' : World} {fp : Nat -> Prop} (h : But w w' fp) {B : Nat} (hB : B <= w.heap.size) (hf : ∀ k, fp k -> B <= k) : Below B w w' :=
 ⟨h.os, h.tape, h.output, h.size, fun k hk => h.block k (by omega) (fun hp => by have := hf k hp; omega)⟩
theorem But.row {w w' : World} {fp : Nat -> Prop} {g : Nat} {t : TypeId} {cs : Array Value} (h : But w w' fp) (hr : Row w g t cs) (hn : ¬ fp g) : Row w' g t cs := (h.block g hr.lt hn).trans hr
theorem But.cell {w w' : World} {fp : Nat -> Prop} (h : But w w' fp) {p : Addr} {u : Value} (hc : w.cell? p = some u) (hn : ¬ fp p.block) : w'.cell? p = some u :=
 (World.cell?_of_block (h.block p.block (block_lt_of_cell hc) hn)).trans hc
theorem But.set {w w' : World} {fp : Nat -> Prop} (h : But w w' fp) {p : Addr} (hp : fp p.block) (u : Value) : But w (w'.setCell p u) fp :=
 ⟨h.os, h.tape, h.output, by rw [size_set]; exact h.size, fun k h1 h2 => (heap_setCell_other _ _ _ _ (fun e => h2 (by rw [e]; exact hp))).trans (h.block k h1 h2)⟩
theorem But.alloc {w w' : World} {fp : Nat -> Prop} (h : But w w' fp) (o : Obj) : But w (w'.alloc o) fp :=
 ⟨h.os, h.tape, h.output, Nat.le_trans h.size (by simp), fun k h1 h2 => (Below.heap_alloc w' o k (Nat.lt_of_lt_of_le h1 h.size)).trans (h.block k h1 h2)⟩
theorem But.drew {w w' : World} {fp : Nat -> Prop} (h : But w w' fp) : But w w'.drew fp := ⟨h.os, h.tape, h.output, h.size, h.block⟩
theorem shift_mk {j : Int} (h0 : 0 <= j) : Op.shift .shl .u64 1 .i64 j = pure (.int .u64 (mk j : Int)) := by
 unfold Op.shift
 rw [if_neg (by omega)]
 simp only [Int.one_mul, IntKind.wrap_u64]
 by_cases h : j <= 63
 ·have hm : min j.toNat IntKind.u64.bits = j.toNat := Nat.min_eq_left (by show j.toNat <= 64; omega)
  have hp : (2 : Nat) ^ j.toNat < 2 ^ 64 := Nat.pow_lt_pow_right (by decide) (by omega)
  rw [hm, mk_in ⟨h0, h⟩]
  have e : (2 : Int) ^ j.toNat = ((2 ^ j.toNat : Nat) : Int) := by simp
  rw [e]
  generalize (2 : Nat) ^ j.toNat = p at hp
  congr 2
  omega
 ·have hm : min j.toNat IntKind.u64.bits = 64 := Nat.min_eq_right (by show 64 <= j.toNat; omega)
  rw [hm, mk_out (fun hh => h hh.2)]
  rfl
theorem mask_any {j : Int} (hj0 : -9223372036854775808 <= j) (hj1 : j <= 9223372036854775807) (w : World) : Calls Tryz.prog 129 #[.int .i64 j] w fun e w' => e = .returned (.int .u64 (mk j : Int)) /\ w = w' := by
 by_cases h : 0 <= j
 ·have hs := shift_mk h
  obtain ⟨m, hm⟩ : ∃ m, m = mk j := ⟨_, rfl⟩
  rw [<- hm] at hs ⊢
  clear hm
  go_enter Tryz.func129, Tryz.ntmps129
  go_wp2
  go_ret
  exact ⟨rfl, rfl⟩
 ·rw [mk_out (fun hh => h hh.1)]
  go_enter Tryz.func129, Tryz.ntmps129
  go_wp2
  go_ret
  exact ⟨rfl, rfl⟩
section
variable {b : Nat} (hb : b < 18446744073709551616) {j : Int} (hj0 : -9223372036854775808 <= j) (hj1 : j <= 9223372036854775807) (w : World)
include hb hj0 hj1
theorem bHas_any : Calls Tryz.prog 99 #[wv b, .int .i64 j] w fun e w' => e = .returned (.bool (hasB b j)) /\ w = w' := by
 have HM := Lib.hid (mask_any hj0 hj1 w)
 have hm := mk_lt j
 have hq := and_mk b j
 rw [<- hq]
 have hz : (((b &&& mk j : Nat) : Int) != 0) = (b &&& mk j != 0) := by rw [Bool.eq_iff_iff]; simp
 rw [<- hz, <- u64_and_nat b (mk j) hb hm]
 generalize mk j = m at *
 clear hq hz
 unfold wv
 go_enter Tryz.func99, Tryz.ntmps99
 go_wp2_with fail
 refine HM.out.mono ?_
 rintro e w1 ⟨rfl, rfl⟩
 go_wp2
 go_ret
 exact ⟨rfl, rfl⟩
theorem bSet_any : Calls Tryz.prog 181 #[wv b, .int .i64 j] w fun e w' => e = .returned (wv (setB b j)) /\ w = w' := by
 have HM := Lib.hid (mask_any hj0 hj1 w)
 have hm := mk_lt j
 rw [<- or_mk hb j]
 unfold wv
 rw [<- u64_or_nat b (mk j) hb hm]
 generalize mk j = m at *
 go_enter Tryz.func181, Tryz.ntmps181
 go_wp2_with fail
 refine HM.out.mono ?_
 rintro e w1 ⟨rfl, rfl⟩
 go_wp2
 go_ret
 exact ⟨rfl, rfl⟩
theorem bClear_any : Calls Tryz.prog 182 #[wv b, .int .i64 j] w fun e w' => e = .returned (wv (clrB b j)) /\ w = w' := by
 have HM := Lib.hid (mask_any hj0 hj1 w)
 have hm := mk_lt j
 rw [<- andn_mk hb j]
 unfold wv
 rw [<- u64_andNot_nat b (mk j) hb hm]
 generalize mk j = m at *
 go_enter Tryz.func182, Tryz.ntmps182
 go_wp2_with fail
 refine HM.out.mono ?_
 rintro e w1 ⟨rfl, rfl⟩
 go_wp2
 go_ret
 exact ⟨rfl, rfl⟩
end
section
variable {b : Nat} (hb : b < 18446744073709551616) (j : Int) (w : World)
include hb
end
end Go.Proofs.YtkbklooocdfcfaaGreatDoor
