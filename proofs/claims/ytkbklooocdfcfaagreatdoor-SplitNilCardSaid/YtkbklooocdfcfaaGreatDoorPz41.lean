/- Texts of this claim, packed: ArM, ArM0. -/
import Derived.Test.YtkbklooocdfcfaaGreatDoorPz40
import Derived.Test.YtkbklooocdfcfaaGreatDoorPz31
import Derived.Test.YtkbklooocdfcfaaGreatDoorPz22
import Derived.Great.BuildSlice
import Derived.Great.FillDense
import Derived.Deep.AppendLies
import Derived.Deep.CutBlock
set_option linter.unusedVariables false
set_option maxRecDepth 100000
set_option maxHeartbeats 6400000
namespace Go.Proofs.YtkbklooocdfcfaaGreatDoor
open Go.RowKit
def atV (at_ : Int) (n : Nd) : List Value := .int .u64 at_ :: n.cl
theorem atV_one (at_ : Int) (n : Nd) : ∀ v ∈ atV at_ n, v.oneCell' = true := by
 intro v hv
 rcases List.mem_cons.1 hv with rfl | h
 ·rfl
 ·exact cl_one n v h
theorem atI : (Tryz.prog.info? 111).map (·.size) = some 22 := by kernel_rfl
theorem atV_put (at_ : Int) (n : Nd) {k : Nat} (hk : k < 8) (e : Int × Int) : ((atV at_ n).toArray.setIfInBounds (6 + k) (uw e.1)).setIfInBounds (14 + k) (uw e.2) = (atV at_ (n.put k e)).toArray := by
 rcases lt8 hk with rfl | rfl | rfl | rfl | rfl | rfl | rfl | rfl <;> rfl
theorem atV_key (at_ : Int) (n : Nd) {k : Nat} (hk : k < 8) : (atV at_ n).toArray[6 + k]? = some (uw (n.key k)) := by
 rcases lt8 hk with rfl | rfl | rfl | rfl | rfl | rfl | rfl | rfl <;> rfl
theorem atV_ptr (at_ : Int) (n : Nd) {k : Nat} (hk : k < 8) : (atV at_ n).toArray[14 + k]? = some (uw (n.ptr k)) := by
 rcases lt8 hk with rfl | rfl | rfl | rfl | rfl | rfl | rfl | rfl <;> rfl
theorem at_R0 {w : World} {b : Nat} {at_ : Int} {n : Nd} (h : Row w b 111 (atV at_ n).toArray) : w.rangeAt b 0 (atV at_ n) := fun j v hv => by
 rw [h.cell, List.getElem?_toArray, Nat.zero_add]
 exact hv
def leaf0 (at_ : Int) : Nd := ⟨0, 0, 0, 0, at_, 0, 0, 0, 0, 0, 0, 0, 0, 0, 0, 0, 0, 0, 0, 0, 0⟩
def zeroAt : List Value := atV 0 zeroNd
theorem show_loadA {P : Program} {ops : Array Oper} {rest : List Oper} {Q : Exit -> Act -> World -> Prop} {d : Option Nat} {t2 : TypeId} {x : Operand} {ps : String} {af : Array Edge} {g : Option (Nat × Bool)} {a : Act} {w : World} (h : wpList P ops Q (⟨d, .load 111 x, t2, ps, af, g⟩ :: rest) a w) : wpList P ops Q (⟨d, .load 111 x, t2, ps, af, g⟩ :: rest) a w := h
theorem show_storeA {P : Program} {ops : Array Oper} {rest : List Oper} {Q : Exit -> Act -> World -> Prop} {d : Option Nat} {t2 : TypeId} {x y : Operand} {ps : String} {af : Array Edge} {a : Act} {w : World} (h : wpList P ops Q (⟨d, .store 111 x y, t2, ps, af, none⟩ :: rest) a w) : wpList P ops Q (⟨d, .store 111 x y, t2, ps, af, none⟩ :: rest) a w := h
theorem show_buildA {P : Program} {ops : Array Oper} {rest : List Oper} {Q : Exit -> Act -> World -> Prop} {d : Option Nat} {t2 : TypeId} {x : Operand} {ps : String} {af : Array Edge} {a : Act} {w : World} (h : wpList P ops Q (⟨d, .buildSlice 109 1 #[(0, x)], t2, ps, af, none⟩ :: rest) a w) : wpList P ops Q (⟨d, .buildSlice 109 1 #[(0, x)], t2, ps, af, none⟩ :: rest) a w := h
theorem buildA {ops : Array Oper} {rest : List Oper} {o : Oper} {a : Act} {w : World} {Q : Exit -> Act -> World -> Prop} (hg : o.guard = none) (x : Operand) (ho : o.op = .buildSlice 109 1 #[(0, x)]) (vs : List Value) (hl : vs.length = 22) (hx : a.eval x = .agg vs.toArray)
  (h : wpList Tryz.prog ops Q rest (a.put o.dst (.slice (some ⟨w.heap.size, 0, none⟩) 1 1)) (w.alloc (.cells vs.toArray 111))) : wpList Tryz.prog ops Q (o :: rest) a w := by
 obtain ⟨ie, hie⟩ : ∃ ie, Tryz.prog.info? 111 = some ie := by
  cases hie : Tryz.prog.info? 111 with
  | none => have := atI; rw [hie] at this; cases this
  | some ie => exact ⟨ie, rfl⟩
 have hs : ie.size = 22 := by have := atI; rw [hie] at this; simpa using this
 refine wpList_buildSlice hg 109 111 1 _ ho vs.toArray ie (.agg zeroAt.toArray) Tryz.underlying109 hie ?_ (by rw [hs]; decide) (by rw [hs]; decide) ?_ h
 ·have : (Tryz.prog.info? 111).bind (·.zero) = some (.agg zeroAt.toArray) := by kernel_rfl
  rw [hie] at this
  exact this
 ·rw [hs]
  have := Go.Great.fill_whole (s := 22) (by decide) [.agg vs.toArray] ((Array.range (1 * 22)).map ((Value.agg zeroAt.toArray).cells[· % (Value.agg zeroAt.toArray).cells.size]!)) (by intro v hv; simp only [List.mem_singleton] at hv; subst hv; simpa [Value.cells] using hl) (by simp)
  simp only [List.map_cons, List.map_nil, List.zipIdx_cons, List.zipIdx_nil, List.flatMap_cons, List.flatMap_nil, List.append_nil] at this
  simpa [hx, Value.cells] using this
theorem infoAt : (Tryz.prog.info? 111).map (fun i => (i.zero, i.size, i.bytes)) = some (some (.agg zeroAt.toArray), 22, 176) := by kernel_rfl
theorem appA {ops : Array Oper} {rest : List Oper} {o : Oper} {a : Act} {w : World} {Q : Exit -> Act -> World -> Prop} (hgd : o.guard = none) (s x : Operand) (ho : o.op = .call { callee := .builtin .append, args := #[s, x], argTypes := #[109, 109] })
  (B : Nat) (v : Value) (n : Nat) (xs : List Value) (hs : a.eval s = v) (hown : w.ownsRow B 111 22 v n xs) (b : Nat) (vs : List Value) (hl : vs.length = 22) (h1 : ∀ u ∈ vs, u.oneCell' = true) (hx : a.eval x = .slice (some ⟨b, 0, none⟩) 1 1)
  (hr : Row w b 111 vs.toArray) (hn : n <= 1000) (hB : B <= w.heap.size) (h : ∀ v' w', w'.ownsRow B 111 22 v' (n + 1) (xs ++ vs) -> w.grownBy w' v.ownBlock -> wpList Tryz.prog ops Q rest (a.put o.dst v') w') : wpList Tryz.prog ops Q (o :: rest) a w := by
 obtain ⟨i0, hi, hz0, hz1, hz2⟩ := info_parts infoAt
 refine wpList_append_lies _ hgd s x 109 ho B 111 i0 (.agg zeroAt.toArray) 22 176 Tryz.underlying109 hi hz0 hz1 hz2 rfl (by decide) v n xs hs hown ⟨b, 0, none⟩ 1 1 vs hx (by omega) ?_ h1 (by decide) (by unfold maxLen; omega) (by omega) hB _ rfl ?_
 ·intro j u hu
  rw [Addr.add_lit, Nat.zero_add, hr.cell, List.getElem?_toArray]
  exact hu
 ·intro g cap w' ho' hg' _ _
  exact h _ _ ho' hg'
theorem infoLv : (Tryz.prog.info? 109).map (fun i => (i.zero, i.size, i.bytes)) = some (some (.slice none 0 0), 1, 24) := by kernel_rfl
theorem But.newSet {w w' : World} {fp : Nat -> Prop} (h : But w w' fp) {p : Addr} (hp : w.heap.size <= p.block) (u : Value) : But w (w'.setCell p u) fp :=
 ⟨h.os, h.tape, h.output, Nat.le_trans h.size (Nat.le_of_eq (size_set w' p u).symm), fun k hk hn => (heap_setCell_other w' p k u (by omega)).trans (h.block k hk hn)⟩
theorem ArAt.set {w : World} {g gb : Nat} {LV : Value} {A : Ar} (h : ArAt w g gb LV A) {p : Addr} (h1 : g ≠ p.block) (h2 : gb ≠ p.block) (u : Value) : ArAt (w.setCell p u) g gb LV A := ⟨h.row.other h1 u, h.byt.other h2 u⟩
theorem ArAt.levels {w : World} {g gb : Nat} {LV : Value} {A : Ar} (h : ArAt w g gb LV A) (V : Value) : ArAt (w.setCell ⟨g, 7, none⟩ V) g gb V A /\ But w (w.setCell ⟨g, 7, none⟩ V) (fun k => k = g \/ k = gb) :=
 ⟨⟨h.row.set 7 _, h.byt.other (p := ⟨g, 7, none⟩) (fun e => h.ne e.symm) _⟩, (But.refl w _).set (p := ⟨g, 7, none⟩) (.inl rfl) _⟩
theorem own_oneA {w : World} {B s : Nat} {e : TypeId} {v : Value} {xs : List Value} (h : w.ownsRow B e s v 1 xs) : ∃ g cap, v = .slice (some ⟨g, 0, none⟩) 1 cap /\ B <= g /\ g < w.heap.size /\ ∀ j u, xs[j]? = some u -> w.cell? ⟨g, j, none⟩ = some u := by
 obtain ⟨h1, h2⟩ := h
 rcases h2 with ⟨_, h0⟩ | ⟨g, cap, cur, rfl, hb, hh, h2, h3, h4, h5⟩
 ·omega
 ·refine ⟨g, cap, rfl, hb, (Array.getElem?_eq_some_iff.1 hh).1, fun j u hu => ?_⟩
  have := World.ownsRow.cells ⟨h1, .inr ⟨g, cap, cur, rfl, hb, hh, h2, h3, h4, h5⟩⟩ rfl j u hu
  rw [Addr.add_lit, Nat.zero_add] at this
  exact this
def LvlP (w : World) (g gb : Nat) (A : Ar) (at_ : Nat) (n : Nd) (w' : World) : Prop :=
 ∃ gl cl gr cr, ArAt w' g gb (.slice (some ⟨gl, 0, none⟩) 1 cl) A /\ w'.cell? ⟨gl, 0, none⟩ = some (.slice (some ⟨gr, 0, none⟩) 1 cr) /\ (∀ j u, (atV at_ n)[j]? = some u -> w'.cell? ⟨gr, j, none⟩ = some u) /\ w.heap.size <= gl /\ w.heap.size <= gr /\ But w w' (fun k => k = g \/ k = gb)
theorem arLevel_few {w : World} {g gb ge cap m per : Nat} {A : Ar} {l : List (Int × Int)} (h : ArAt w g gb (.slice none 0 0) A) (ok : A.Ok) (hE : ∀ k, k < m -> w.cell? ⟨ge, k * 2, none⟩ = some (.int .u64 (l.getD k (0, 0)).1) /\ w.cell? ⟨ge, k * 2 + 1, none⟩ = some (.int .u64 (l.getD k (0, 0)).2)) (hg : ge ≠ g /\ ge ≠ gb)
  (h0 : 0 < m) (hm : m <= per) (hp : per <= 8) (hc : m <= cap) (h1 : A.newNode.1 ≠ 0) (hw : WordsOk (mkN (leaf0 (A.newNode.1 : Int)) l m)) :
  Calls Tryz.prog 49 #[.pointer (some ⟨g, 0, none⟩), .int .i64 0, .slice (some ⟨ge, 0, none⟩) m cap, .int .i64 (per : Int)] w fun e w' => e = .returned (.bool true) /\
   LvlP w g gb { A.newNode.2 with f := layF A.newNode.2.f A.newNode.1 (mkN (leaf0 (A.newNode.1 : Int)) l m) } A.newNode.1 (mkN (leaf0 (A.newNode.1 : Int)) l m) w' := by
 have mixed : Tryz.prog.follows .mixedOrders = true := by kernel_rfl
 have hko := Ar.newNode_ok ok
 have HN := Lib.hid (arNewNode_any h ok)
 obtain ⟨A1, hA1⟩ : ∃ A1, A1 = A.newNode.2 := ⟨_, rfl⟩
 obtain ⟨T, hT⟩ : ∃ T, T = A.newNode.1 := ⟨_, rfl⟩
 rw [<- hA1, <- hT] at HN hko ⊢
 rw [<- hT] at h1 hw
 have hT1 := (hko.2.2 h1)
 have hA1n : A1.n <= 64 := by rw [hko.2.1]; exact ok.n
 have hTN : T + 192 <= A1.N := by have := hT1.2.1; unfold Ar.N at this ⊢; rw [hko.2.1]; exact this
 have hT5 : T <= 66560 := by unfold Ar.N at hTN; omega
 have HLAY := Lib.hid fun (W : World) (LV : Value) (hW : ArAt W g gb LV A1) => arLay_any (a := T) (n := mkN (leaf0 (T : Int)) l m) hW hA1n hTN hw
 have dT : (T == 0) = false := by simpa using h1
 have dT2 : ((T : Int) == 0) = false := by rw [Bool.eq_false_iff]; intro k; have := beq_iff_eq.1 k; omega
 have hm8 : m <= 8 := by omega
 have hpm : min ((per : Nat) : Int) ((m : Nat) : Int) = (m : Int) := by omega
 have HE := Lib.hid hE
 have HG := Lib.hid hg
 have HH := Lib.hid h
 obtain ⟨n0, hn0⟩ : ∃ n0, n0 = leaf0 (T : Int) := ⟨_, rfl⟩
 have HN0 := Lib.hid hn0
 clear h ok hE hg hko hT1 h1 hw hA1 hT hA1n hTN hn0
 go_enter Tryz.func49, Tryz.ntmps49
 go_wp2_with fail
 go_loopw [9, 10] (fun r i wr => r = .slice none 0 0 /\ i = .int .i64 0 /\ wr = w) (fun _ _ _ => 0)
 case atStart => exact ⟨rfl, rfl, rfl⟩
 case round =>
  obtain ⟨rfl, rfl, rfl⟩ := hrel
  go_wp2_with fail
  refine HN.out.mono ?_
  rintro e w1 ⟨rfl, h1, hb1⟩
  have H1 := Lib.hid h1
  have HB1 := Lib.hid hb1
  clear h1 hb1
  go_upto_region 10 with (first
   | ((with_reducible refine show_storeA ?_); refine wpList_store_row rfl _ _ _ rfl w1.heap.size (atV (T : Int) (leaf0 (T : Int))) rfl rfl (Row.new w1 111 zeroAt.toArray) rfl atI (atV_one _ _) ?_))
  obtain ⟨W2, hW2⟩ : ∃ W2, W2 = (w1.alloc (.cells #[.int .u64 0, .int .i64 0, .int .u64 0, .int .u64 0, .int .u64 0, .int .u64 0, .int .u64 0, .int .u64 0, .int .u64 0, .int .u64 0, .int .u64 0, .int .u64 0, .int .u64 0, .int .u64 0, .int .u64 0, .int .u64 0, .int .u64 0, .int .u64 0, .int .u64 0, .int .u64 0, .int .u64 0, .int .u64 0] 111)).setCells w1.heap.size 0 (atV (T : Int) (leaf0 (T : Int))) := ⟨_, rfl⟩
  rw [<- hW2]
  have HR2 := Lib.hid (show Row W2 w1.heap.size 111 (atV (T : Int) (leaf0 (T : Int))).toArray by rw [hW2]; exact row_setCells (Row.new w1 111 zeroAt.toArray) rfl)
  have hb2 : Below w1.heap.size w1 W2 := by rw [hW2]; exact setCells_low _ (Nat.le_refl _) (alloc_low _ _)
  have HA2 := Lib.hid (H1.out.below hb2)
  have HB2 := Lib.hid (HB1.out.trans (But.of_below hb2 _) fun k hk => .inl hk)
  have hgs : w1.heap.size < W2.heap.size := HR2.out.lt
  have hge : ge < wr.heap.size := wr.block_lt_of_cell? _ (HE.out 0 h0).1
  have hsz := HB1.out.size
  have HEW := Lib.hid (show ∀ W, But wr W (fun k => k = g \/ k = gb) -> ∀ k, k < m -> W.cell? ⟨ge, k * 2, none⟩ = some (.int .u64 (l.getD k (0, 0)).1) /\ W.cell? ⟨ge, k * 2 + 1, none⟩ = some (.int .u64 (l.getD k (0, 0)).2) from fun W hW k hk => ⟨hW.cell (HE.out k hk).1 (fun e => e.elim HG.out.1 HG.out.2), hW.cell (HE.out k hk).2 (fun e => e.elim HG.out.1 HG.out.2)⟩)
  obtain ⟨gx, hgx⟩ : ∃ gx, gx = w1.heap.size := ⟨_, rfl⟩
  rw [<- hgx] at HR2 hgs ⊢
  have HNE := Lib.hid (show gx ≠ g /\ gx ≠ gb /\ wr.heap.size <= gx /\ ge ≠ gx from by
   have := HH.out.row.lt
   have := HH.out.byt.lt
   omega)
  have ek0 := (HEW.out W2 HB2.out 0 h0).1
  have fx2 := HR2.out.free 2
  have cx2 : W2.cell? ⟨gx, 2, none⟩ = some (.int .u64 0) := HR2.out.cell 2
  obtain ⟨key0, hk0⟩ : ∃ key0, key0 = (l.getD 0 (0, 0)).1 := ⟨_, rfl⟩
  rw [<- hk0, show 0 * 2 = 0 from rfl] at ek0
  have hne0 : ge ≠ gx := HNE.out.2.2.2
  clear hW2 hb2 hgx hk0 HB1 H1 HN hsz hge
  go_upto_region 18 with (fail)
  have HR3 := Lib.hid (show Row ((W2.setCell ⟨gx, 2, none⟩ (.int .u64 key0)).setCell ⟨gx, 2, none⟩ (.int .u64 0)) gx 111 (atV (T : Int) (leaf0 (T : Int))).toArray from (HR2.out.set 2 (.int .u64 key0)).set 2 (.int .u64 0))
  have HA3 := Lib.hid ((HA2.out.set (p := ⟨gx, 2, none⟩) (fun e => HNE.out.1 e.symm) (fun e => HNE.out.2.1 e.symm) (.int .u64 key0)).set (p := ⟨gx, 2, none⟩) (fun e => HNE.out.1 e.symm) (fun e => HNE.out.2.1 e.symm) (.int .u64 0))
  have HB3 := Lib.hid ((HB2.out.newSet (p := ⟨gx, 2, none⟩) HNE.out.2.2.1 (.int .u64 key0)).newSet (p := ⟨gx, 2, none⟩) HNE.out.2.2.1 (.int .u64 0))
  obtain ⟨W3, hW3⟩ : ∃ W3, W3 = (W2.setCell ⟨gx, 2, none⟩ (.int .u64 key0)).setCell ⟨gx, 2, none⟩ (.int .u64 0) := ⟨_, rfl⟩
  rw [<- hW3] at HR3 HA3 HB3 ⊢
  rw [<- HN0.out] at HR3
  clear hW3 ek0 fx2 cx2 HR2 HA2 HB2 hgs
  go_wp2_with fail
  go_loopw [15] (fun i wx => ∃ k : Nat, k <= m /\ i = .int .i64 (k : Int) /\ Row wx gx 111 (atV (T : Int) (mkN n0 l k)).toArray /\ ArAt wx g gb (.slice none 0 0) A1 /\ But wr wx (fun q => q = g \/ q = gb)) (fun i _ => m - (intOf i).toNat)
  case atStart => exact ⟨0, Nat.zero_le _, rfl, HR3.out, HA3.out, HB3.out⟩
  case round =>
   rename World => wx
   obtain ⟨k, hk, rfl, hr, ha, hbt⟩ := hrel
   have HRX := Lib.hid hr
   have HAX := Lib.hid ha
   have HBX := Lib.hid hbt
   clear HR3 HA3 HB3
   by_cases hlt : k < m
   ·obtain ⟨p1, p2⟩ := HEW.out wx hbt k hlt
    obtain ⟨e, he⟩ : ∃ e, e = l.getD k (0, 0) := ⟨_, rfl⟩
    have HST := Lib.hid (show mkN n0 l (k + 1) = (mkN n0 l k).put k (l.getD k (0, 0)) from rfl)
    rw [<- he] at p1 p2 HST
    obtain ⟨ek, ep⟩ := e
    dsimp only at p1 p2
    have hkb : k < 8 := by omega
    have hk8 : (k : Int) < 8 := by omega
    have ck := (hr.cell (6 + k)).trans (atV_key (T : Int) (mkN n0 l k) hkb)
    have cp := (hr.cell (14 + k)).trans (atV_ptr (T : Int) (mkN n0 l k) hkb)
    have fk := hr.free (6 + k)
    have fp := hr.free (14 + k)
    have hne1 : ge ≠ gx := hne0
    have hne2 : gx ≠ ge := fun e => hne0 e.symm
    unfold uw at ck cp
    clear hr ha hbt he
    go_wp2_with fail
    go_region
    go_wp2
    refine ⟨⟨k + 1, by omega, by go_num, ?_, ?_, ?_⟩, by simp [intOf]; omega⟩
    ·rw [HST.out]
     have := (HRX.out.set (6 + k) (uw ek)).set (14 + k) (uw ep)
     rw [atV_put _ _ hkb (ek, ep)] at this
     exact this.below (drew_below _) this.lt
    ·exact ((HAX.out.set (p := ⟨gx, 6 + k, none⟩) (fun e => HNE.out.1 e.symm) (fun e => HNE.out.2.1 e.symm) (.int .u64 ek)).set (p := ⟨gx, 14 + k, none⟩) (fun e => HNE.out.1 e.symm) (fun e => HNE.out.2.1 e.symm) (.int .u64 ep)).below (drew_below _)
    ·exact ((HBX.out.newSet (p := ⟨gx, 6 + k, none⟩) HNE.out.2.2.1 (.int .u64 ek)).newSet (p := ⟨gx, 14 + k, none⟩) HNE.out.2.2.1 (.int .u64 ep)).drew
   ·obtain rfl : k = m := by omega
    clear hr ha hbt hlt
    rw [<- HN0.out] at HLAY
    obtain ⟨N, hN⟩ : ∃ N, N = mkN n0 l k := ⟨_, rfl⟩
    rw [<- hN] at HRX HLAY
    have HNN := Lib.hid (show N = mkN (leaf0 (T : Int)) l k by rw [hN, HN0.out])
    obtain ⟨VS, hVS⟩ : ∃ VS, VS = atV (T : Int) N := ⟨_, rfl⟩
    have HVS := Lib.hid hVS
    have HV22 := Lib.hid (show VS.length = 22 by rw [hVS]; rfl)
    have HV1 := Lib.hid (show ∀ v ∈ VS, v.oneCell' = true by rw [hVS]; exact atV_one _ _)
    have HVR := Lib.hid (show wx.rangeAt gx 0 VS by rw [hVS]; exact at_R0 HRX.out)
    clear hN hVS
    go_upto_region 23 with (first
     | ((with_reducible refine show_loadA ?_); refine wpList_load_mid rfl _ _ rfl gx 0 rfl VS _ HVR.out Tryz.underlying111 rfl (by rw [HV22.out]; exact atI) ?_)
     | ((with_reducible refine show_buildA ?_); refine buildA rfl _ rfl VS HV22.out rfl ?_)
     | (at_builtin; refine appA rfl _ _ rfl wx.heap.size _ 0 [] rfl (World.ownsRow_nil _ _ _ _) wx.heap.size VS HV22.out HV1.out rfl (Row.new wx 111 _) (by omega) (by simp) ?_; intro v3 w3 ho3 hg3; obtain ⟨gr, cr, hv3, hgr1, hgr2, hgc⟩ := own_oneA ho3; subst hv3; have HGC := Lib.hid hgc; have HG3 := Lib.hid hg3; clear hgc hg3 ho3))
    have HA4 := Lib.hid (HAX.out.below (Below.and (alloc_below wx (.cells VS.toArray 111)) ⟨HG3.out.os, HG3.out.tape, HG3.out.output, HG3.out.size, fun q hq => HG3.out.block q hq (by intro e; cases e)⟩))
    have HB4 := Lib.hid (HBX.out.trans (But.of_below (Below.and (alloc_below wx (.cells VS.toArray 111)) ⟨HG3.out.os, HG3.out.tape, HG3.out.output, HG3.out.size, fun q hq => HG3.out.block q hq (by intro e; cases e)⟩) _) fun q hq => .inl hq)
    rw [List.nil_append, HVS.out] at HGC
    have hwx := HBX.out.size
    have HGN := Lib.hid (show wr.heap.size <= gr /\ gr ≠ g /\ gr ≠ gb from by
     have := HH.out.row.lt
     have := HH.out.byt.lt
     omega)
    have HWC := Lib.hid (show ∀ W, But w3 W (fun q => q = g \/ q = gb) -> ∀ j u, (atV (T : Int) N)[j]? = some u -> W.cell? ⟨gr, j, none⟩ = some u from fun W hW j u hu => hW.cell (HGC.out j u hu) (fun e => e.elim HGN.out.2.1 HGN.out.2.2))
    have c0 : w3.cell? ⟨gr, 0, none⟩ = some (.int .u64 (T : Int)) := HGC.out 0 _ rfl
    have hdl : ¬ ((0 : Int) + 1 < 1) := by decide
    clear hgr1 hgr2 hwx HVR HV1 HV22 HVS HG3
    go_wp2_with fail
    go_loopw [16] (fun i wy => (i = .int .i64 0 /\ wy = w3) \/ (i = .int .i64 1 /\ ArT w3 g gb (.slice none 0 0) { A1 with f := layF A1.f T N } wy)) (fun i _ => 1 - (intOf i).toNat)
    case atStart => exact .inl ⟨rfl, rfl⟩
    case round =>
     rename World => wy
     rcases hrel with ⟨rfl, rfl⟩ | ⟨rfl, hA5, hB5⟩
     ·have hR1 := Lib.hid (show ∀ W, (∃ p : LowBy wy, W = p.W) -> W.rangeAt gr 1 N.cl from fun W hW j v hv => by
       obtain ⟨p, rfl⟩ := hW
       have := (HWC.out wy (But.refl _ _)) (1 + j) v (by rw [Nat.add_comm]; exact hv)
       exact LowBy.cell this p)
      have cp0 := fun p : LowBy wy => LowBy.cell c0 p
      have HLC := Lib.hid fun p : LowBy wy => HLAY.out p.W (.slice none 0 0) (HA4.out.below p.low)
      go_wp2_with fail
      refine wp_region_low_tail 11 (by assumption) (by kernel_rfl) ?_
      simp only [List.take_succ_cons, List.take_zero, List.drop_succ_cons, List.drop_zero]
      repeat (first | go_big_quiet_skip | (go_big_quiet_want; first | (refine quiet_load_mid 71 _ rfl gr 1 rfl N.cl _ hR1.out Tryz.underlying71 rfl ndI ?_; simp only [Act.put, List.setIfInBounds_toArray, List.set_cons_succ, List.set_cons_zero]; go_big_quiet_on) | (go_big_quiet_op; go_big_quiet_on)))
      refine wpQuiet_nil ?_
      intro _ hw'
      obtain ⟨p, hw''⟩ := hw'
      subst hw''
      go_wp2_with fail
      refine (HLC.out p).mono ?_
      rintro e w5 ⟨rfl, h5, hb5⟩
      have HA5 := Lib.hid h5
      have HB5 := Lib.hid ((But.of_below p.low (fun q => q = g \/ q = gb)).trans hb5 fun q hq => .inl hq)
      clear h5 hb5
      go_wp2_with fail
      go_roundw
      case rel => exact .inr ⟨by go_num, HA5.out, HB5.out⟩
      case measure => simp [intOf]
     ·have HA5 := Lib.hid hA5
      have HB5 := Lib.hid hB5
      have c7 : wy.cell? ⟨g, 7, none⟩ = some (.slice none 0 0) := hA5.row.cell 7
      have f7 := hA5.row.free 7
      clear hA5 hB5 c0
      obtain ⟨i0, hi, hz0, hz1, hz2⟩ := info_parts infoLv
      go_upto_region 31 with (first
       | (at_builtin; refine wpList_append_own _ rfl _ _ 43 rfl wy.heap.size 109 i0 (.slice none 0 0) 1 24 Tryz.underlying43 hi hz0 hz1 hz2 rfl (by decide) (.slice none 0 0) 0 [] rfl (World.ownsRow_nil _ _ _ _) ⟨wy.heap.size, 0, none⟩ 1 1 [.slice (some ⟨gr, 0, none⟩) 1 cr] rfl rfl ?q1 ?q2 ?q3 ?q4 ?q5 ?_))
      case q1 =>
       intro j u hu
       rw [Addr.add_lit, Nat.zero_add, (Row.new wy 109 _).cell]
       simpa using hu
      case q2 => intro u hu; simp at hu; subst hu; rfl
      case q3 => decide
      case q4 => decide
      case q5 => simp
      intro v6 w6 ho6 hg6 _
      obtain ⟨gl, cl, hv6, hgl1, hgl2, hglc⟩ := own_oneA ho6
      subst hv6
      have hbw : Below wy.heap.size wy w6 := Below.and (alloc_below wy _) ⟨hg6.os, hg6.tape, hg6.output, hg6.size, fun q hq => hg6.block q hq (by intro e; cases e)⟩
      have HA6 := Lib.hid (HA5.out.below hbw)
      have HB6 := Lib.hid (HB5.out.trans (But.of_below hbw _) fun q hq => .inl hq)
      have c76 : w6.cell? ⟨g, 7, none⟩ = some (.slice none 0 0) := HA6.out.row.cell 7
      have f76 := HA6.out.row.free 7
      have HLC := Lib.hid (hglc 0 _ rfl)
      have hwy := HB5.out.size
      have hw3 := HB4.out.size
      have HGL := Lib.hid (show wr.heap.size <= gl /\ gl ≠ g /\ gl ≠ gb from by
       have := HH.out.row.lt
       have := HH.out.byt.lt
       omega)
      clear ho6 hg6 hglc hbw hgl1 hgl2 hwy hw3 c7 f7 i0 hi hz0 hz1 hz2
      go_upto_region 31 with (fail)
      go_wp2_with fail
      go_ret
      obtain ⟨h7, b7⟩ := HA6.out.levels (.slice (some ⟨gl, 0, none⟩) 1 cl)
      rw [<- HNN.out]
      refine ⟨rfl, gl, cl, gr, cr, h7, ?_, fun j u hu => ?_, HGL.out.1, HGN.out.1, ?_⟩
      ·exact b7.cell HLC.out (fun e => e.elim HGL.out.2.1 HGL.out.2.2)
      ·exact b7.cell (HWC.out w6 HB6.out j u hu) (fun e => e.elim HGN.out.2.1 HGN.out.2.2)
      ·exact (HB4.out.trans HB6.out fun q hq => .inl hq).trans b7 fun q hq => .inl hq
end Go.Proofs.YtkbklooocdfcfaaGreatDoor
namespace Go.Proofs.YtkbklooocdfcfaaGreatDoor
open Go.RowKit
attribute [local go_sem] Oper.semAt_some
theorem arLevel_none {w : World} {g gb per : Nat} {A : Ar} (h : ArAt w g gb (.slice none 0 0) A) (ok : A.Ok)
  (hp0 : 0 < per) (hp : per <= 8) (h1 : A.newNode.1 ≠ 0) (hw : WordsOk (leaf0 (A.newNode.1 : Int))) :
  Calls Tryz.prog 49 #[.pointer (some ⟨g, 0, none⟩), .int .i64 0, .slice none 0 0, .int .i64 (per : Int)] w fun e w' => e = .returned (.bool true) /\
   LvlP w g gb { A.newNode.2 with f := layF A.newNode.2.f A.newNode.1 (leaf0 (A.newNode.1 : Int)) } A.newNode.1 (leaf0 (A.newNode.1 : Int)) w' := by
 have mixed : Tryz.prog.follows .mixedOrders = true := by kernel_rfl
 have hko := Ar.newNode_ok ok
 have HN := Lib.hid (arNewNode_any h ok)
 obtain ⟨A1, hA1⟩ : ∃ A1, A1 = A.newNode.2 := ⟨_, rfl⟩
 obtain ⟨T, hT⟩ : ∃ T, T = A.newNode.1 := ⟨_, rfl⟩
 rw [<- hA1, <- hT] at HN hko ⊢
 rw [<- hT] at h1 hw
 have hT1 := (hko.2.2 h1)
 have hA1n : A1.n <= 64 := by rw [hko.2.1]; exact ok.n
 have hTN : T + 192 <= A1.N := by have := hT1.2.1; unfold Ar.N at this ⊢; rw [hko.2.1]; exact this
 have hT5 : T <= 66560 := by unfold Ar.N at hTN; omega
 have HLAY := Lib.hid fun (W : World) (LV : Value) (hW : ArAt W g gb LV A1) => arLay_any (a := T) (n := leaf0 (T : Int)) hW hA1n hTN hw
 have dT : (T == 0) = false := by simpa using h1
 have dT2 : ((T : Int) == 0) = false := by rw [Bool.eq_false_iff]; intro k; have := beq_iff_eq.1 k; omega
 have hpm : min ((per : Nat) : Int) 0 = 0 := by omega
 have HH := Lib.hid h
 obtain ⟨n0, hn0⟩ : ∃ n0, n0 = leaf0 (T : Int) := ⟨_, rfl⟩
 have HN0 := Lib.hid hn0
 clear h ok hko hT1 h1 hw hA1 hT hA1n hTN hn0
 go_enter Tryz.func49, Tryz.ntmps49
 go_wp2_with fail
 go_loopw [9, 10] (fun r i wr => r = .slice none 0 0 /\ i = .int .i64 0 /\ wr = w) (fun _ _ _ => 0)
 case atStart => exact ⟨rfl, rfl, rfl⟩
 case round =>
  obtain ⟨rfl, rfl, rfl⟩ := hrel
  go_wp2_with fail
  refine HN.out.mono ?_
  rintro e w1 ⟨rfl, h1, hb1⟩
  have H1 := Lib.hid h1
  have HB1 := Lib.hid hb1
  clear h1 hb1
  go_upto_region 10 with (first
   | ((with_reducible refine show_storeA ?_); refine wpList_store_row rfl _ _ _ rfl w1.heap.size (atV (T : Int) (leaf0 (T : Int))) rfl rfl (Row.new w1 111 zeroAt.toArray) rfl atI (atV_one _ _) ?_))
  obtain ⟨W2, hW2⟩ : ∃ W2, W2 = (w1.alloc (.cells #[.int .u64 0, .int .i64 0, .int .u64 0, .int .u64 0, .int .u64 0, .int .u64 0, .int .u64 0, .int .u64 0, .int .u64 0, .int .u64 0, .int .u64 0, .int .u64 0, .int .u64 0, .int .u64 0, .int .u64 0, .int .u64 0, .int .u64 0, .int .u64 0, .int .u64 0, .int .u64 0, .int .u64 0, .int .u64 0] 111)).setCells w1.heap.size 0 (atV (T : Int) (leaf0 (T : Int))) := ⟨_, rfl⟩
  rw [<- hW2]
  have HR2 := Lib.hid (show Row W2 w1.heap.size 111 (atV (T : Int) (leaf0 (T : Int))).toArray by rw [hW2]; exact row_setCells (Row.new w1 111 zeroAt.toArray) rfl)
  have hb2 : Below w1.heap.size w1 W2 := by rw [hW2]; exact setCells_low _ (Nat.le_refl _) (alloc_low _ _)
  have HA2 := Lib.hid (H1.out.below hb2)
  have HB2 := Lib.hid (HB1.out.trans (But.of_below hb2 _) fun k hk => .inl hk)
  have hgs : w1.heap.size < W2.heap.size := HR2.out.lt
  have hsz := HB1.out.size
  obtain ⟨gx, hgx⟩ : ∃ gx, gx = w1.heap.size := ⟨_, rfl⟩
  rw [<- hgx] at HR2 hgs ⊢
  have HNE := Lib.hid (show gx ≠ g /\ gx ≠ gb /\ wr.heap.size <= gx from by
   have := HH.out.row.lt
   have := HH.out.byt.lt
   omega)
  have fx2 := HR2.out.free 2
  have cx2 : W2.cell? ⟨gx, 2, none⟩ = some (.int .u64 0) := HR2.out.cell 2
  clear hW2 hb2 hgx HB1 H1 HN hsz
  go_upto_region 18 with (fail)
  have HR3 := Lib.hid (show Row (W2.setCell ⟨gx, 2, none⟩ (.int .u64 0)) gx 111 (atV (T : Int) (leaf0 (T : Int))).toArray from HR2.out.set 2 (.int .u64 0))
  have HA3 := Lib.hid (HA2.out.set (p := ⟨gx, 2, none⟩) (fun e => HNE.out.1 e.symm) (fun e => HNE.out.2.1 e.symm) (.int .u64 0))
  have HB3 := Lib.hid (HB2.out.newSet (p := ⟨gx, 2, none⟩) HNE.out.2.2 (.int .u64 0))
  obtain ⟨W3, hW3⟩ : ∃ W3, W3 = W2.setCell ⟨gx, 2, none⟩ (.int .u64 0) := ⟨_, rfl⟩
  rw [<- hW3] at HR3 HA3 HB3 ⊢
  rw [<- HN0.out] at HR3
  clear hW3 fx2 cx2 HR2 HA2 HB2 hgs
  go_wp2_with fail
  go_loopw [15] (fun i wx => i = .int .i64 0 /\ Row wx gx 111 (atV (T : Int) n0).toArray /\ ArAt wx g gb (.slice none 0 0) A1 /\ But wr wx (fun q => q = g \/ q = gb)) (fun i _ => 0)
  case atStart => exact ⟨rfl, HR3.out, HA3.out, HB3.out⟩
  case round =>
   rename World => wx
   obtain ⟨rfl, hr, ha, hbt⟩ := hrel
   have HRX := Lib.hid hr
   have HAX := Lib.hid ha
   have HBX := Lib.hid hbt
   clear HR3 HA3 HB3
   ·skip
    clear hr ha hbt
    rw [<- HN0.out] at HLAY
    obtain ⟨N, hN⟩ : ∃ N, N = n0 := ⟨_, rfl⟩
    rw [<- hN] at HRX HLAY
    have HNN := Lib.hid (show N = leaf0 (T : Int) by rw [hN, HN0.out])
    obtain ⟨VS, hVS⟩ : ∃ VS, VS = atV (T : Int) N := ⟨_, rfl⟩
    have HVS := Lib.hid hVS
    have HV22 := Lib.hid (show VS.length = 22 by rw [hVS]; rfl)
    have HV1 := Lib.hid (show ∀ v ∈ VS, v.oneCell' = true by rw [hVS]; exact atV_one _ _)
    have HVR := Lib.hid (show wx.rangeAt gx 0 VS by rw [hVS]; exact at_R0 HRX.out)
    clear hN hVS
    go_upto_region 23 with (first
     | ((with_reducible refine show_loadA ?_); refine wpList_load_mid rfl _ _ rfl gx 0 rfl VS _ HVR.out Tryz.underlying111 rfl (by rw [HV22.out]; exact atI) ?_)
     | ((with_reducible refine show_buildA ?_); refine buildA rfl _ rfl VS HV22.out rfl ?_)
     | (at_builtin; refine appA rfl _ _ rfl wx.heap.size _ 0 [] rfl (World.ownsRow_nil _ _ _ _) wx.heap.size VS HV22.out HV1.out rfl (Row.new wx 111 _) (by omega) (by simp) ?_; intro v3 w3 ho3 hg3; obtain ⟨gr, cr, hv3, hgr1, hgr2, hgc⟩ := own_oneA ho3; subst hv3; have HGC := Lib.hid hgc; have HG3 := Lib.hid hg3; clear hgc hg3 ho3))
    have HA4 := Lib.hid (HAX.out.below (Below.and (alloc_below wx (.cells VS.toArray 111)) ⟨HG3.out.os, HG3.out.tape, HG3.out.output, HG3.out.size, fun q hq => HG3.out.block q hq (by intro e; cases e)⟩))
    have HB4 := Lib.hid (HBX.out.trans (But.of_below (Below.and (alloc_below wx (.cells VS.toArray 111)) ⟨HG3.out.os, HG3.out.tape, HG3.out.output, HG3.out.size, fun q hq => HG3.out.block q hq (by intro e; cases e)⟩) _) fun q hq => .inl hq)
    rw [List.nil_append, HVS.out] at HGC
    have hwx := HBX.out.size
    have HGN := Lib.hid (show wr.heap.size <= gr /\ gr ≠ g /\ gr ≠ gb from by
     have := HH.out.row.lt
     have := HH.out.byt.lt
     omega)
    have HWC := Lib.hid (show ∀ W, But w3 W (fun q => q = g \/ q = gb) -> ∀ j u, (atV (T : Int) N)[j]? = some u -> W.cell? ⟨gr, j, none⟩ = some u from fun W hW j u hu => hW.cell (HGC.out j u hu) (fun e => e.elim HGN.out.2.1 HGN.out.2.2))
    have c0 : w3.cell? ⟨gr, 0, none⟩ = some (.int .u64 (T : Int)) := HGC.out 0 _ rfl
    have hdl : ¬ ((0 : Int) + 1 < 1) := by decide
    clear hgr1 hgr2 hwx HVR HV1 HV22 HVS HG3
    go_wp2_with fail
    go_loopw [16] (fun i wy => (i = .int .i64 0 /\ wy = w3) \/ (i = .int .i64 1 /\ ArT w3 g gb (.slice none 0 0) { A1 with f := layF A1.f T N } wy)) (fun i _ => 1 - (intOf i).toNat)
    case atStart => exact .inl ⟨rfl, rfl⟩
    case round =>
     rename World => wy
     rcases hrel with ⟨rfl, rfl⟩ | ⟨rfl, hA5, hB5⟩
     ·have hR1 := Lib.hid (show ∀ W, (∃ p : LowBy wy, W = p.W) -> W.rangeAt gr 1 N.cl from fun W hW j v hv => by
       obtain ⟨p, rfl⟩ := hW
       have := (HWC.out wy (But.refl _ _)) (1 + j) v (by rw [Nat.add_comm]; exact hv)
       exact LowBy.cell this p)
      have cp0 := fun p : LowBy wy => LowBy.cell c0 p
      have HLC := Lib.hid fun p : LowBy wy => HLAY.out p.W (.slice none 0 0) (HA4.out.below p.low)
      go_wp2_with fail
      refine wp_region_low_tail 11 (by assumption) (by kernel_rfl) ?_
      simp only [List.take_succ_cons, List.take_zero, List.drop_succ_cons, List.drop_zero]
      repeat (first | go_big_quiet_skip | (go_big_quiet_want; first | (refine quiet_load_mid 71 _ rfl gr 1 rfl N.cl _ hR1.out Tryz.underlying71 rfl ndI ?_; simp only [Act.put, List.setIfInBounds_toArray, List.set_cons_succ, List.set_cons_zero]; go_big_quiet_on) | (go_big_quiet_op; go_big_quiet_on)))
      refine wpQuiet_nil ?_
      intro _ hw'
      obtain ⟨p, hw''⟩ := hw'
      subst hw''
      go_wp2_with fail
      refine (HLC.out p).mono ?_
      rintro e w5 ⟨rfl, h5, hb5⟩
      have HA5 := Lib.hid h5
      have HB5 := Lib.hid ((But.of_below p.low (fun q => q = g \/ q = gb)).trans hb5 fun q hq => .inl hq)
      clear h5 hb5
      go_wp2_with fail
      go_roundw
      case rel => exact .inr ⟨by go_num, HA5.out, HB5.out⟩
      case measure => simp [intOf]
     ·have HA5 := Lib.hid hA5
      have HB5 := Lib.hid hB5
      have c7 : wy.cell? ⟨g, 7, none⟩ = some (.slice none 0 0) := hA5.row.cell 7
      have f7 := hA5.row.free 7
      clear hA5 hB5 c0
      obtain ⟨i0, hi, hz0, hz1, hz2⟩ := info_parts infoLv
      go_upto_region 31 with (first
       | (at_builtin; refine wpList_append_own _ rfl _ _ 43 rfl wy.heap.size 109 i0 (.slice none 0 0) 1 24 Tryz.underlying43 hi hz0 hz1 hz2 rfl (by decide) (.slice none 0 0) 0 [] rfl (World.ownsRow_nil _ _ _ _) ⟨wy.heap.size, 0, none⟩ 1 1 [.slice (some ⟨gr, 0, none⟩) 1 cr] rfl rfl ?q1 ?q2 ?q3 ?q4 ?q5 ?_))
      case q1 =>
       intro j u hu
       rw [Addr.add_lit, Nat.zero_add, (Row.new wy 109 _).cell]
       simpa using hu
      case q2 => intro u hu; simp at hu; subst hu; rfl
      case q3 => decide
      case q4 => decide
      case q5 => simp
      intro v6 w6 ho6 hg6 _
      obtain ⟨gl, cl, hv6, hgl1, hgl2, hglc⟩ := own_oneA ho6
      subst hv6
      have hbw : Below wy.heap.size wy w6 := Below.and (alloc_below wy _) ⟨hg6.os, hg6.tape, hg6.output, hg6.size, fun q hq => hg6.block q hq (by intro e; cases e)⟩
      have HA6 := Lib.hid (HA5.out.below hbw)
      have HB6 := Lib.hid (HB5.out.trans (But.of_below hbw _) fun q hq => .inl hq)
      have c76 : w6.cell? ⟨g, 7, none⟩ = some (.slice none 0 0) := HA6.out.row.cell 7
      have f76 := HA6.out.row.free 7
      have HLC := Lib.hid (hglc 0 _ rfl)
      have hwy := HB5.out.size
      have hw3 := HB4.out.size
      have HGL := Lib.hid (show wr.heap.size <= gl /\ gl ≠ g /\ gl ≠ gb from by
       have := HH.out.row.lt
       have := HH.out.byt.lt
       omega)
      clear ho6 hg6 hglc hbw hgl1 hgl2 hwy hw3 c7 f7 i0 hi hz0 hz1 hz2
      go_upto_region 31 with (fail)
      go_wp2_with fail
      go_ret
      obtain ⟨h7, b7⟩ := HA6.out.levels (.slice (some ⟨gl, 0, none⟩) 1 cl)
      rw [<- HNN.out]
      refine ⟨rfl, gl, cl, gr, cr, h7, ?_, fun j u hu => ?_, HGL.out.1, HGN.out.1, ?_⟩
      ·exact b7.cell HLC.out (fun e => e.elim HGL.out.2.1 HGL.out.2.2)
      ·exact b7.cell (HWC.out w6 HB6.out j u hu) (fun e => e.elim HGN.out.2.1 HGN.out.2.2)
      ·exact (HB4.out.trans HB6.out fun q hq => .inl hq).trans b7 fun q hq => .inl hq
end Go.Proofs.YtkbklooocdfcfaaGreatDoor
