/- Texts of this claim, packed: HLay, HList, HComp, HFree, HPut, HNew. -/
import Derived.Test.YtkbklooocdfcfaaGreatDoorPz33
import Derived.Test.YtkbklooocdfcfaaGreatDoorPz35
import Derived.Shelf.SlicesE.IndexFunc
import Derived.Shelf.SlicesE.Compact
import Derived.Shelf.SlicesE.Clone
set_option linter.unusedVariables false
set_option maxRecDepth 100000
set_option maxHeartbeats 6400000
namespace Go.Proofs.YtkbklooocdfcfaaGreatDoor
open Go.Shelf
def cloneA_ren : Go.Shelf.Ren := ⟨fun | 41 => 91 | n => n, fun | 22 => 174 | 23 => 30 | 4 => 4 | n => n, fun | n => n⟩
theorem cloneA : Go.Proofs.SlLaysE0.n41 Tryz.prog cloneA_ren := {
 mixed := by kernel_rfl
 f41 := ⟨Tryz.f91.name, by decide, Tryz.func91.trans (congrArg some (by kernel_rfl))⟩
 t4 := Tryz.underlying4
 a4 := Tryz.isAgg4
 z4 := Tryz.sizeOf4
 v4 := Tryz.zeroValue4
 t22 := Tryz.underlying174
 a22 := Tryz.isAgg174
 z22 := Tryz.sizeOf174
 v22 := Tryz.zeroValue174 }
def compactA_ren : Go.Shelf.Ren := ⟨fun | 43 => 93 | n => n, fun | 22 => 174 | 23 => 30 | 3 => 3 | 4 => 4 | 0 => 0 | n => n, fun | n => n⟩
theorem compactA : Go.Proofs.SlLaysE.n43 Tryz.prog compactA_ren := {
 mixed := by kernel_rfl
 f43 := ⟨Tryz.f93.name, by decide, Tryz.func93.trans (congrArg some (by kernel_rfl))⟩
 t0 := Tryz.underlying0
 a0 := Tryz.isAgg0
 z0 := Tryz.sizeOf0
 v0 := Tryz.zeroValue0
 t3 := Tryz.underlying3
 a3 := Tryz.isAgg3
 z3 := Tryz.sizeOf3
 v3 := Tryz.zeroValue3
 t4 := Tryz.underlying4
 a4 := Tryz.isAgg4
 z4 := Tryz.sizeOf4
 v4 := Tryz.zeroValue4
 t22 := Tryz.underlying174
 a22 := Tryz.isAgg174
 z22 := Tryz.sizeOf174
 v22 := Tryz.zeroValue174
 a23 := Tryz.isAgg30
 z23 := Tryz.sizeOf30 }
def indexF_ren : Go.Shelf.Ren := ⟨fun | 6 => 161 | n => n, fun | 22 => 177 | 23 => 30 | 25 => 188 | 3 => 3 | 0 => 0 | 4 => 4 | n => n, fun | n => n⟩
theorem indexF : Go.Proofs.SlLaysH.n6 Tryz.prog indexF_ren := {
 mixed := by kernel_rfl
 f6 := ⟨Tryz.f161.name, by decide, Tryz.func161.trans (congrArg some (by kernel_rfl))⟩
 t0 := Tryz.underlying0
 a0 := Tryz.isAgg0
 z0 := Tryz.sizeOf0
 v0 := Tryz.zeroValue0
 t3 := Tryz.underlying3
 a3 := Tryz.isAgg3
 z3 := Tryz.sizeOf3
 v3 := Tryz.zeroValue3
 t4 := Tryz.underlying4
 a4 := Tryz.isAgg4
 z4 := Tryz.sizeOf4
 v4 := Tryz.zeroValue4
 t22 := Tryz.underlying177
 a22 := Tryz.isAgg177
 z22 := Tryz.sizeOf177
 v22 := Tryz.zeroValue177
 a23 := Tryz.isAgg30
 z23 := Tryz.sizeOf30
 t25 := Tryz.underlying188
 a25 := Tryz.isAgg188
 z25 := Tryz.sizeOf188
 v25 := Tryz.zeroValue188 }
end Go.Proofs.YtkbklooocdfcfaaGreatDoor
namespace Go.Proofs.YtkbklooocdfcfaaGreatDoor
open Go.RowKit
theorem Adr.shape {w : World} {v : Value} {l : List Nat} (hA : Adr w v l) : ∃ ad cap, v = .slice ad l.length cap := by
 rcases hA with ⟨rfl, rfl⟩ | ⟨b, off, cap, cur, rfl, _⟩
 ·exact ⟨none, 0, rfl⟩
 ·exact ⟨some ⟨b, off, none⟩, cap, rfl⟩
theorem sortA_few {w : World} {v : Value} {l : List Nat} (hA : Adr w v l) (hl : l.length <= 12) : Calls Tryz.prog 92 #[v] w (Sorts w v l) := by
 obtain ⟨ad, cap, rfl⟩ := hA.shape
 have HP := Lib.hid (pdq_few hA hl)
 obtain ⟨n, hn⟩ : ∃ n, n = l.length := ⟨_, rfl⟩
 rw [<- hn] at HP hl ⊢
 have HB := Lib.hid (Any.bits_Len bitsLenL (n : Int) w (by omega) (by omega))
 clear hn hA
 go_enter Tryz.func92, Tryz.ntmps92
 go_wp2_with fail
 refine HB.out.mono ?_
 rintro e w1 ⟨rfl, rfl⟩
 go_wp2_with fail
 refine (HP.out _).mono ?_
 intro e w2 hs
 have HE := Lib.hid hs
 obtain rfl : e = .returned (.tuple #[]) := hs.1
 clear hs
 go_wp2
 go_end0
 exact HE.out
def Cloned (w : World) (l : List Nat) (e : Ending) (w' : World) : Prop := ∃ v, e = .returned v /\ Adr w' v l /\ (∀ k, v.ownBlock = some k -> w.heap.size <= k) /\ Below w.heap.size w w'
theorem clone_of {f : FuncId} (h0 : ∀ (n c : Nat) (w : World), Calls Tryz.prog f #[.slice none n c] w fun e w' => e = .returned (.slice none 0 0) /\ w' = w)
  (h1 : ∀ (b off n c : Nat) (news : List Value) (w : World) (hl : news.length = n * 1) (hn : n <= maxLen) (hbig : n * 8 <= 140737488355328) (hc : ∀ j u, news[j]? = some u -> w.cell? ⟨b, off + j, none⟩ = some u) (h1 : ∀ u ∈ news, u.oneCell' = true),
   Calls Tryz.prog f #[.slice (some ⟨b, off, none⟩) n c] w fun e w' => ∃ v', e = .returned v' /\ w'.ownsRow w.heap.size 30 1 v' n news /\ v' ≠ .slice none 0 0 /\ Below w.heap.size w w')
  {w : World} {v : Value} {l : List Nat} (hA : Adr w v l) (hl : l.length <= 1000000001) : Calls Tryz.prog f #[v] w (Cloned w l) := by
 rcases hA with ⟨rfl, rfl⟩ | ⟨b, off, cap, cur, rfl, hr, hlc, hcm, hfit, htk⟩
 ·refine (h0 0 0 w).mono ?_
  rintro e w' ⟨rfl, rfl⟩
  exact ⟨_, rfl, .inl ⟨rfl, rfl⟩, (fun k hk => by cases hk), Below.refl _ _⟩
 ·refine (h1 b off l.length cap (l.map wv) w (by simp) (by unfold maxLen; omega) (by omega) ?_ (wv_ones l)).mono ?_
  ·intro j u hu
   have hj : j < l.length := by have := (List.getElem?_eq_some_iff.1 hu).1; simpa using this
   rw [hr.cell, <- Array.getElem?_toList, drop_get htk hj hj, <- hu, List.getElem?_map, gd_eq hj]
   rfl
  ·rintro e w' ⟨v', rfl, ho, _, hb⟩
   obtain ⟨ha, hk⟩ := Adr.of_own ho
   exact ⟨v', rfl, ha, hk, hb⟩
theorem sizeA (w : World) : (Go.sizeOf 30).run Tryz.prog w = .ok 1 w := by kernel_rfl
theorem cloneA_any {w : World} {v : Value} {l : List Nat} (hA : Adr w v l) (hl : l.length <= 1000000001) : Calls Tryz.prog 91 #[v] w (Cloned w l) := by
 obtain ⟨i0, hi, hz0, hz1, hz2⟩ := info_parts infoA
 exact clone_of (fun n c w => AnyE.slices_Clone_nil cloneA n c w) (fun b off n c news w hl hn hbig hc h1 => AnyE.slices_Clone cloneA i0 _ 1 8 hi hz0 hz1 hz2 rfl (by decide) sizeA b off n c news w hl hn hbig hc h1) hA hl
end Go.Proofs.YtkbklooocdfcfaaGreatDoor
namespace Go.Proofs.YtkbklooocdfcfaaGreatDoor
open Go.RowKit Go.Shelf
def ddp (l : List Nat) : List Nat := Lib.compactUpTo l.toArray l.length
theorem arr_gd (l : List Nat) (i : Nat) : l.toArray[i]! = gd l i := by rw [<- gd_arr]
theorem ddp_upto {l : List Nat} (hs : l.Pairwise (· <= ·)) (m : Nat) (hm : m <= l.length) :
  (Lib.compactUpTo l.toArray m).Pairwise (· < ·) /\ (∀ x, x ∈ Lib.compactUpTo l.toArray m ↔ ∃ j, j < m /\ gd l j = x) /\ (Lib.compactUpTo l.toArray m).length <= m := by
 induction m with
 | zero => exact ⟨by simp [Lib.compactUpTo], by simp [Lib.compactUpTo], by simp [Lib.compactUpTo]⟩
 | succ m ih =>
  obtain ⟨h1, h2, h3⟩ := ih (by omega)
  have hle : ∀ i j, i < j -> j < l.length -> gd l i <= gd l j := by
   intro i j hij hj
   have := List.pairwise_iff_getElem.1 hs i j (by omega) hj hij
   have e1 : gd l i = l[i] := by simp [gd, show i < l.length by omega]
   have e2 : gd l j = l[j] := by simp [gd, hj]
   omega
  rw [Lib.compactUpTo_succ, arr_gd]
  by_cases hk : Lib.keeps l.toArray m = true
  ·rw [if_pos hk]
   unfold Lib.keeps at hk
   rw [arr_gd, arr_gd] at hk
   have hk' := of_decide_eq_true hk
   refine ⟨?_, fun x => ?_, by simp; omega⟩
   ·rw [List.pairwise_append]
    refine ⟨h1, by simp, fun x hx y hy => ?_⟩
    obtain ⟨j, hj, rfl⟩ := (h2 x).1 hx
    simp at hy
    subst hy
    rcases hk' with h0 | hne
    ·omega
    ·have := hle (m - 1) m (by omega) (by omega)
     by_cases e : j = m - 1
     ·subst e; omega
     ·have := hle j (m - 1) (by omega) (by omega); omega
   ·rw [List.mem_append, h2]
    constructor
    ·rintro (⟨j, hj, rfl⟩ | hx)
     ·exact ⟨j, by omega, rfl⟩
     ·simp at hx; exact ⟨m, by omega, hx.symm⟩
    ·rintro ⟨j, hj, rfl⟩
     by_cases e : j = m
     ·subst e; right; simp
     ·left; exact ⟨j, by omega, rfl⟩
  ·rw [if_neg hk, List.append_nil]
   unfold Lib.keeps at hk
   rw [arr_gd, arr_gd] at hk
   have hk' : ¬ (m = 0 \/ gd l m ≠ gd l (m - 1)) := fun h => hk (decide_eq_true h)
   have hm0 : m ≠ 0 := fun h => hk' (.inl h)
   have heq : gd l m = gd l (m - 1) := Classical.byContradiction fun h => hk' (.inr h)
   refine ⟨h1, fun x => ?_, by omega⟩
   rw [h2]
   constructor
   ·rintro ⟨j, hj, rfl⟩; exact ⟨j, by omega, rfl⟩
   ·rintro ⟨j, hj, rfl⟩
    by_cases e : j = m
    ·subst e; exact ⟨j - 1, by omega, heq.symm⟩
    ·exact ⟨j, by omega, rfl⟩
theorem mem_gd {l : List Nat} {x : Nat} : x ∈ l ↔ ∃ j, j < l.length /\ gd l j = x := by
 constructor
 ·intro h
  obtain ⟨j, hj, e⟩ := List.getElem_of_mem h
  exact ⟨j, hj, by rw [<- e]; simp [gd, hj]⟩
 ·rintro ⟨j, hj, rfl⟩; exact gd_mem hj
theorem ddp_of {l : List Nat} (hs : l.Pairwise (· <= ·)) : (ddp l).Pairwise (· < ·) /\ (∀ x, x ∈ ddp l ↔ x ∈ l) /\ (ddp l).length <= l.length := by
 obtain ⟨h1, h2, h3⟩ := ddp_upto hs l.length (Nat.le_refl _)
 exact ⟨h1, fun x => by rw [mem_gd (l := l)]; exact h2 x, h3⟩
theorem dec_nat (x y : Nat) : decide ((x : Int) = (y : Int)) = decide (x = y) := by rw [Bool.eq_iff_iff]; simp only [decide_eq_true_eq]; omega
theorem eqA : EqlAt Tryz.prog 30 wv (fun x y => decide (x = y)) := ⟨fun x y w => by
 have := (EqlAt.intD Tryz.prog 30 .u64).1 (x : Int) (y : Int) w
 simp only [dec_nat] at this
 exact this, fun op a b x y w => (EqlAt.intD Tryz.prog 30 .u64).2 op a b (x : Int) (y : Int) w⟩
theorem neA : NeqAt Tryz.prog 30 wv (fun x y => decide (x = y)) := ⟨fun x y w => by
 have := (NeqAt.intD Tryz.prog 30 .u64).1 (x : Int) (y : Int) w
 simp only [dec_nat] at this
 exact this, fun op a b x y w => (EqlAt.intD Tryz.prog 30 .u64).2 op a b (x : Int) (y : Int) w⟩
theorem Adr.holds {w : World} {b off cap : Nat} {l : List Nat} (hA : Adr w (.slice (some ⟨b, off, none⟩) l.length cap) l) : Sort.Holds wv w b off l.toArray := by
 intro j hj
 have hj' : j < l.length := by simpa using hj
 refine ⟨?_, hA.free j⟩
 rw [hA.cell hj', arr_gd]
theorem row_put {w : World} {b off : Nat} {t : TypeId} {cur : Array Value} (h : Row w b t cur) (d : Array Nat) (q : Nat) : Row (Sort.putRow wv (Sort.ahead w q) b off d) b t (Sort.putCells wv off d cur) := by
 have h' : w.heap[b]? = some (.cells cur t (0, 0)) := h
 unfold Row Sort.putRow Sort.mapBlock Sort.ahead
 simp only [Array.getElem?_modify, if_true, h', Option.map_some, Sort.onCells]
theorem but_put (w : World) (b off : Nat) (d : Array Nat) (q : Nat) : But w (Sort.putRow wv (Sort.ahead w q) b off d) (fun k => k = b) := by
 refine ⟨rfl, rfl, rfl, ?_, fun k hk hn => ?_⟩
 ·unfold Sort.putRow Sort.mapBlock Sort.ahead; simp
 ·unfold Sort.putRow Sort.mapBlock Sort.ahead
  simp only [Array.getElem?_modify]
  rw [if_neg (fun e => hn e.symm)]
theorem adr_put {w : World} {b off cap n : Nat} {l : List Nat} (hA : Adr w (.slice (some ⟨b, off, none⟩) n cap) l) (d : Array Nat) (hd : d.size = l.length) (q m : Nat) (hm : m <= l.length) :
  Adr (Sort.putRow wv (Sort.ahead w q) b off d) (.slice (some ⟨b, off, none⟩) m cap) (d.toList.take m) := by
 rcases hA with ⟨h0, _⟩ | ⟨b', o', c, cur, e, hr, h1, h2, h3, ht⟩
 ·cases h0
 ·cases e
  have hl : (d.toList.take m).length = m := by simp; omega
  refine .inr ⟨b, off, cap, _, by rw [hl], row_put hr d q, by omega, h2, by simp [Sort.putCells]; exact h3, ?_⟩
  rw [hl]
  apply List.ext_getElem?
  intro k
  rw [List.getElem?_take]
  by_cases hk : k < m
  ·rw [if_pos hk, List.getElem?_drop, Array.getElem?_toList, List.getElem?_map, List.getElem?_take, if_pos hk, Array.getElem?_toList]
   unfold Sort.putCells
   rw [Array.getElem?_mapIdx, Array.getElem?_eq_getElem (by omega)]
   simp only [Option.map_some]
   rw [if_pos ⟨by omega, by omega⟩, show off + k - off = k by omega, Array.getElem?_eq_getElem (show k < d.size by omega), getElem!_pos d k (by omega)]
   rfl
  ·rw [if_neg hk, List.getElem?_eq_none (by simp; omega)]
def Compacts (w : World) (v : Value) (l : List Nat) (e : Ending) (w' : World) : Prop := ∃ v', e = .returned v' /\ Adr w' v' (ddp l) /\ (∀ k, v'.ownBlock = some k -> v.ownBlock = some k) /\ But w w' (fun k => v.ownBlock = some k)
theorem compact_few {ad : Option Addr} {n cap : Nat} (w : World) (hn : n < 2) : Calls Tryz.prog 93 #[.slice ad n cap] w fun e w' => e = .returned (.slice ad n cap) /\ w = w' := by
 go_enter Tryz.func93, Tryz.ntmps93
 go_wp2
 go_ret
 exact ⟨rfl, rfl⟩
theorem ddp_few {l : List Nat} (h : l.length < 2) : ddp l = l := by
 match l, h with
 | [], _ => rfl
 | [a], _ => rfl
theorem compact_any {w : World} {v : Value} {l : List Nat} (hA : Adr w v l) (hl : l.length <= 1000000001) : Calls Tryz.prog 93 #[v] w (Compacts w v l) := by
 by_cases h2 : l.length < 2
 ·obtain ⟨ad, cap, rfl⟩ := hA.shape
  refine (compact_few w h2).mono ?_
  rintro e w' ⟨rfl, rfl⟩
  exact ⟨_, rfl, by rw [ddp_few h2]; exact hA, fun k hk => hk, But.refl _ _⟩
 ·obtain ⟨b, off, cap, rfl, hc, hm⟩ := hA.pos (by omega)
  have h := AnyE.slices_Compact compactA wv (fun _ => rfl) eqA neA 0 (fun w => by kernel_rfl) b off cap l.toArray w hA.holds (by simp; omega) (by simpa using hc)
  refine h.mono ?_
  rintro e w' ⟨rfl, q, rfl⟩
  have hle : (ddp l).length <= l.length := by
   unfold ddp Lib.compactUpTo
   rw [List.length_map]
   exact Nat.le_trans (List.length_filter_le _ _) (by simp)
  have hle' : (Lib.compactUpTo l.toArray l.toArray.size).length <= l.length := hle
  refine ⟨_, rfl, ?_, fun k hk => hk, (but_put w b off _ q).mono (fun k hk => by rw [hk]; rfl)⟩
  have := adr_put hA (Lib.compactUpTo l.toArray l.toArray.size ++ List.replicate (l.toArray.size - (Lib.compactUpTo l.toArray l.toArray.size).length) 0).toArray (by simp; simp at hle'; omega) q (Lib.compactUpTo l.toArray l.toArray.size).length hle'
  rw [List.take_left] at this
  exact this
theorem place1_pred (a : Nat) (B : Nat) (w : World) (hB : B < w.heap.size) (hcell : w.cell? ⟨B, 0, none⟩ = some (wv a)) :
  PredAt Tryz.prog 162 #[.pointer (some ⟨B, 0, none⟩)] wv (fun x => decide (x = a)) w := fun W x hb => by
 have hc : W.cell? ⟨B, 0, none⟩ = some (wv a) := (hb.cell (p := ⟨B, 0, none⟩) hB).trans hcell
 show Calls Tryz.prog 162 #[wv x, .pointer (some ⟨B, 0, none⟩)] W fun e w' => e = .returned (.bool (decide (x = a))) /\ ∃ q, w' = W.drewN q
 unfold wv at *
 have hb : ((x : Int) == (a : Int)) = decide (x = a) := by rw [Bool.eq_iff_iff]; simp only [beq_iff_eq, decide_eq_true_eq]; omega
 generalize decide (x = a) = bb at hb ⊢
 go_enter Tryz.func162, Tryz.ntmps162
 go_wp2
 go_ret
 exact ⟨rfl, 0, rfl⟩
def idx (l : List Nat) (a : Nat) : Int := if a ∈ l then (l.idxOf a : Int) else -1
theorem idxFrom (l : List Nat) (a i : Nat) : Lib.idxByFrom (fun _ y => decide (y = a)) (default : Nat) l i = if a ∈ l then ((l.idxOf a + i : Nat) : Int) else -1 := by
 induction l generalizing i with
 | nil => simp [Lib.idxByFrom]
 | cons y r ih =>
  rw [Lib.idxByFrom, ih]
  by_cases e : y = a
  ·subst e; simp
  ·have e' : ¬ a = y := fun h => e h.symm
   by_cases hm : a ∈ r
   ·rw [List.idxOf_cons, show (y == a) = false from by simpa using e, cond_false, if_neg (by simpa using e), if_pos hm, if_pos (List.mem_cons_of_mem _ hm)]
    omega
   ·simp [e, e', hm]
theorem idxBy_idx (l : List Nat) (a : Nat) : Lib.idxBy (fun _ y => decide (y = a)) l default = idx l a := by
 unfold Lib.idxBy idx
 rw [idxFrom]
 rfl
theorem indexF_any {w : World} {v : Value} {l : List Nat} (hA : Adr w v l) (hl : l.length <= 1000000001) {B a : Nat} (hB : B < w.heap.size) (hcell : w.cell? ⟨B, 0, none⟩ = some (wv a)) :
  Calls Tryz.prog 161 #[v, .func (.func 162) #[] #[.pointer (some ⟨B, 0, none⟩)]] w fun e w' => e = .returned (.int .i64 (idx l a)) /\ Drew w w' := by
 have eg : ∀ args w, (callFunc 162 args).run Tryz.prog w = .ok (.enter 162 args) w := enters_of Tryz.func162 (by kernel_rfl) rfl
 rcases Nat.eq_zero_or_pos l.length with h0 | h0
 ·have e0 : l = [] := List.eq_nil_of_length_eq_zero h0
  subst e0
  obtain ⟨ad, cap, rfl⟩ := hA.shape
  refine (AnyE.slices_IndexFunc_empty indexF ad cap _ w).mono ?_
  rintro e w' ⟨rfl, rfl⟩
  exact ⟨rfl, 0, rfl⟩
 ·obtain ⟨b, off, cap, rfl, hc, hm⟩ := hA.pos h0
  refine (AnyE.slices_IndexFunc indexF wv (fun x => decide (x = a)) 162 #[.pointer (some ⟨B, 0, none⟩)] eg b off l.length cap l w (place1_pred a B w hB hcell) (Nat.le_refl _) (by omega) ?_).mono ?_
  ·intro j hj
   rw [hA.cell hj]
   simp [gd, hj]
  ·rintro e w' ⟨rfl, q, rfl⟩
   rw [List.take_length, idxBy_idx]
   exact ⟨rfl, q, rfl⟩
end Go.Proofs.YtkbklooocdfcfaaGreatDoor
namespace Go.Proofs.YtkbklooocdfcfaaGreatDoor
open Go.RowKit
def SetAt (w : World) (g : Nat) (s : List Nat) (v : Value) : Prop := ∃ l, FreeAt w g v l /\ HeapP l l.length /\ l.Perm s
theorem SetAt.keep {w w' : World} {g : Nat} {v : Value} {s : List Nat} {fp : Nat -> Prop} (h : SetAt w g s v) (hb : But w w' fp) (hn : ∀ k, ffp g v k -> ¬ fp k) : SetAt w' g s v := by
 obtain ⟨l, hF, h⟩ := h
 exact ⟨l, hF.keep hb hn, h⟩
theorem SetAt.below {w w' : World} {g : Nat} {v : Value} {s : List Nat} (h : SetAt w g s v) (hb : Below w.heap.size w w') : SetAt w' g s v := h.keep (But.of_below hb (fun _ => False)) (fun _ _ h => h)
theorem SetAt.fp {w : World} {g : Nat} {v : Value} {s : List Nat} (h : SetAt w g s v) {k : Nat} (hk : ffp g v k) : k < w.heap.size := by
 obtain ⟨l, hF, _⟩ := h
 rcases hk with rfl | hk
 ·exact hF.1.lt
 ·exact hF.2.1.lt hk
theorem idx_yes {l : List Nat} {a : Nat} (h : a ∈ l) : ∃ k : Nat, idx l a = (k : Int) /\ k < l.length /\ gd l k = a := by
 have hk := List.idxOf_lt_length_iff.2 h
 refine ⟨l.idxOf a, if_pos h, hk, ?_⟩
 have : l[l.idxOf a] = a := List.getElem_idxOf hk
 rw [show gd l (l.idxOf a) = l[l.idxOf a] by simp [gd, hk]]
 exact this
theorem idx_no {l : List Nat} {a : Nat} (h : a ∉ l) : idx l a = -1 := if_neg h
theorem place_any {w : World} {g : Nat} {v : Value} {l : List Nat} (hF : FreeAt w g v l) (hl : l.length <= 1000000000) (a : Nat) :
  Calls Tryz.prog 135 #[.pointer (some ⟨g, 0, none⟩), wv a] w fun e w' => e = .returned (.tuple #[.int .i64 (idx l a), .bool (decide (a ∈ l))]) /\ Below w.heap.size w w' := by
 have c0 := hF.cell
 have HI := Lib.hid (indexF_any (B := w.heap.size) (a := a) (hF.below (alloc_below w (.cells #[wv a] 30))).2.1 (by omega) (by simp) (by simp))
 have c1 : (w.alloc (.cells #[.int .u64 (a : Int)] 30)).cell? ⟨g, 0, none⟩ = some v := (hF.below (alloc_below w (.cells #[.int .u64 (a : Int)] 30))).cell
 unfold wv at HI ⊢
 by_cases ha : a ∈ l
 ·obtain ⟨k, hk, hkl, _⟩ := idx_yes ha
  rw [hk] at HI ⊢
  rw [decide_eq_true ha]
  clear hk ha hF hl hkl
  go_enter Tryz.func135, Tryz.ntmps135
  go_wp2_with fail
  refine HI.out.mono ?_
  rintro e w1 ⟨rfl, hd⟩
  have HD := Lib.hid hd.below
  clear hd
  go_wp2
  go_ret2
  exact ⟨rfl, Below.and (alloc_below _ _) HD.out⟩
 ·rw [idx_no ha] at HI ⊢
  rw [decide_eq_false ha]
  clear ha hF hl
  go_enter Tryz.func135, Tryz.ntmps135
  go_wp2_with fail
  refine HI.out.mono ?_
  rintro e w1 ⟨rfl, hd⟩
  have HD := Lib.hid hd.below
  clear hd
  go_wp2
  go_ret2
  exact ⟨rfl, Below.and (alloc_below _ _) HD.out⟩
theorem SetAt.place {w : World} {g : Nat} {v : Value} {s : List Nat} (hS : SetAt w g s v) (hl : s.length <= 1000000000) (a : Nat) : ∃ l, FreeAt w g v l /\ HeapP l l.length /\ l.Perm s /\ l.length = s.length /\ decide (a ∈ l) = decide (a ∈ s) := by
 obtain ⟨l, hF, hH, hp⟩ := hS
 exact ⟨l, hF, hH, hp, hp.length_eq, by rw [Bool.eq_iff_iff]; simp [hp.mem_iff]⟩
theorem has_any {w : World} {g : Nat} {v : Value} {s : List Nat} (hS : SetAt w g s v) (hl : s.length <= 1000000000) (a : Nat) :
  Calls Tryz.prog 106 #[.pointer (some ⟨g, 0, none⟩), wv a] w fun e w' => e = .returned (.bool (decide (a ∈ s))) /\ Below w.heap.size w w' := by
 obtain ⟨l, hF, _, _, hlen, hd⟩ := hS.place hl a
 have HP := Lib.hid (place_any hF (by omega) a)
 rw [hd] at HP
 clear hd hF hlen hl hS
 generalize decide (a ∈ s) = bb at HP ⊢
 generalize idx l a = k at HP
 unfold wv at HP ⊢
 go_enter Tryz.func106, Tryz.ntmps106
 go_wp2_with fail
 refine HP.out.mono ?_
 rintro e w1 ⟨rfl, hb⟩
 have HB := Lib.hid hb
 clear hb
 go_wp2
 go_ret
 exact ⟨rfl, HB.out⟩
theorem len_any {w : World} {g : Nat} {v : Value} {s : List Nat} (hS : SetAt w g s v) (hl : s.length <= 1000000000) :
  Calls Tryz.prog 70 #[.pointer (some ⟨g, 0, none⟩)] w fun e w' => e = .returned (.int .i64 (s.length : Int)) /\ w = w' := by
 obtain ⟨l, hF, _, hp⟩ := hS
 have c0 := hF.cell
 obtain ⟨ad, cap, rfl⟩ := hF.2.1.shape
 rw [hp.length_eq] at c0
 clear hF hp
 generalize s.length = n at *
 go_enter Tryz.func70, Tryz.ntmps70
 go_wp2
 go_ret
 exact ⟨rfl, rfl⟩
def LeftSet (w : World) (g : Nat) (v : Value) (s : List Nat) (w' : World) : Prop := ∃ v', SetAt w' g s v' /\ FTurn w w' g v v'
theorem put_any {w : World} {g : Nat} {v : Value} {s : List Nat} (hS : SetAt w g s v) (hl : s.length <= 999999999) {a : Nat} (h0 : a ≠ 0) :
  Calls Tryz.prog 67 #[.pointer (some ⟨g, 0, none⟩), wv a] w fun e w' => e = .returned (.int .i64 0) /\ LeftSet w g v (if a ∈ s then s else a :: s) w' := by
 have HH := Lib.hid (has_any hS (by omega) a)
 have hz : ((a : Int) == 0) = false := by rw [Bool.eq_false_iff]; intro h; have := beq_iff_eq.1 h; omega
 by_cases ha : a ∈ s
 ·rw [if_pos ha]
  rw [decide_eq_true ha] at HH
  have HS := Lib.hid hS
  clear hS ha hl
  unfold wv at HH ⊢
  go_enter Tryz.func67, Tryz.ntmps67
  go_wp2_with fail
  refine HH.out.mono ?_
  rintro e w1 ⟨rfl, hb⟩
  have HE := Lib.hid (show LeftSet w g v s w1 from ⟨v, HS.out.below hb, FTurn.of_below g v hb⟩)
  clear hb
  go_wp2
  go_ret
  exact ⟨rfl, HE.out⟩
 ·rw [if_neg ha]
  rw [decide_eq_false ha] at HH
  have HS := Lib.hid hS
  have HL := Lib.hid hl
  clear hS ha hl
  unfold wv at HH ⊢
  go_enter Tryz.func67, Tryz.ntmps67
  go_wp2_with fail
  refine HH.out.mono ?_
  rintro e w1 ⟨rfl, hb⟩
  obtain ⟨l, hF, hhp, hp⟩ := HS.out.below hb
  have HB := Lib.hid (FTurn.of_below g v hb)
  have hps := push_heap hhp a
  have HP := Lib.hid (hPush_any hF (by have := HL.out; have := hp.length_eq; omega) a)
  have HQ := Lib.hid (show HeapP (upF (l ++ [a]) l.length) (upF (l ++ [a]) l.length).length /\ (upF (l ++ [a]) l.length).Perm (a :: s) from ⟨by rw [hps.2.2]; exact hps.1, hps.2.1.trans (hp.cons a)⟩)
  clear hF hhp hp hps hb
  unfold wv at HP
  go_wp2_with fail
  refine HP.out.mono ?_
  rintro e w2 ⟨rfl, v2, hF2, hT2⟩
  have HE := Lib.hid (show LeftSet w g v (a :: s) w2 from ⟨v2, ⟨_, hF2, HQ.out⟩, HB.out.trans hT2⟩)
  clear hF2 hT2
  go_wp2
  go_ret
  exact ⟨rfl, HE.out⟩
theorem take_none {w : World} {g : Nat} {v : Value} (hS : SetAt w g [] v) : Calls Tryz.prog 72 #[.pointer (some ⟨g, 0, none⟩)] w fun e w' => e = .returned (.tuple #[.int .u64 0, .bool false]) /\ w = w' := by
 have HL := Lib.hid (len_any hS (by simp))
 clear hS
 go_enter Tryz.func72, Tryz.ntmps72
 go_wp2_with fail
 refine HL.out.mono ?_
 rintro e w1 ⟨rfl, rfl⟩
 go_wp2
 go_ret2
 exact ⟨rfl, rfl⟩
theorem take_any {w : World} {g : Nat} {v : Value} {s : List Nat} (hS : SetAt w g s v) (hl : s.length <= 1000000000) {m : Nat} (hm : m ∈ s) (hmin : ∀ x ∈ s, m <= x) :
  Calls Tryz.prog 72 #[.pointer (some ⟨g, 0, none⟩)] w fun e w' => e = .returned (.tuple #[wv m, .bool true]) /\ LeftSet w g v (s.erase m) w' := by
 have HL := Lib.hid (len_any hS hl)
 have hpos : 0 < s.length := List.length_pos_of_mem hm
 have hz : ((s.length : Int) == 0) = false := by rw [Bool.eq_false_iff]; intro h; have := beq_iff_eq.1 h; omega
 obtain ⟨l, hF, hhp, hp⟩ := hS
 have hlen := hp.length_eq
 have hph := pop_heap hhp (by omega)
 have hg : gd l 0 = m := by
  have h1 : gd l 0 ∈ s := hp.mem_iff.1 (gd_mem (by omega))
  have h2 := hmin _ h1
  obtain ⟨j, hj, hjm⟩ := mem_gd.1 (hp.mem_iff.2 hm)
  have h3 := heap_min hhp hj
  omega
 have HP := Lib.hid (hPop_any hF (by omega) (by omega))
 rw [hph.2.1, hg] at HP
 have hq : ((popF l).take (l.length - 1)).Perm (s.erase m) := by
  have h1 : (m :: (popF l).take (l.length - 1)).Perm s := by rw [<- hg]; exact hph.2.2.2.trans hp
  exact (List.perm_cons m).1 (h1.trans (List.perm_cons_erase hm))
 have hql : ((popF l).take (l.length - 1)).length = l.length - 1 := by rw [List.length_take, hph.1]; omega
 have HQ := Lib.hid (show HeapP ((popF l).take (l.length - 1)) ((popF l).take (l.length - 1)).length /\ ((popF l).take (l.length - 1)).Perm (s.erase m) from ⟨by rw [hql]; exact hph.2.2.1, hq⟩)
 have hta := assertA (m : Int)
 clear hF hhp hp hlen hph hg hq hql hm hmin hl
 generalize s.length = n at *
 unfold wv at HP ⊢
 go_enter Tryz.func72, Tryz.ntmps72
 go_wp2_with fail
 refine HL.out.mono ?_
 rintro e w1 ⟨rfl, rfl⟩
 go_wp2_with fail
 refine HP.out.mono ?_
 rintro e w2 ⟨rfl, v2, hF2, hT2⟩
 have HE := Lib.hid (show LeftSet w g v (s.erase m) w2 from ⟨v2, ⟨_, hF2, HQ.out⟩, hT2⟩)
 clear hF2 hT2
 go_wp2
 go_ret2
 exact ⟨rfl, HE.out⟩
def Made (w : World) (s : List Nat) (e : Ending) (w' : World) : Prop := ∃ g v, e = .returned (.pointer (some ⟨g, 0, none⟩)) /\ SetAt w' g s v /\ (∀ k, ffp g v k -> w.heap.size <= k) /\ Below w.heap.size w w'
theorem made_of {w W : World} {v : Value} {l s : List Nat} (ha : Adr W v l) (hk : ∀ k, v.ownBlock = some k -> w.heap.size <= k) (hb : Below w.heap.size w W) (hh : HeapP l l.length) (hp : l.Perm s) : Made w s (.returned (.pointer (some ⟨W.heap.size, 0, none⟩))) (W.alloc (.cells #[v] 179)) := by
 refine ⟨_, v, rfl, ⟨l, ⟨Row.new W 179 #[v], ha.below (alloc_below _ _), fun e => ?_⟩, hh, hp⟩, fun k hk' => ?_, hb.trans ((alloc_below W _).mono hb.size)⟩
 ·have := ha.lt e; omega
 ·rcases hk' with rfl | h
  ·exact hb.size
  ·exact hk k h
theorem heap_sorted {l : List Nat} (h : l.Pairwise (· < ·)) : HeapP l l.length := by
 intro i h0 hi
 have := List.pairwise_iff_getElem.1 h ((i - 1) / 2) i (by omega) hi (by omega)
 have e1 : gd l ((i - 1) / 2) = l[(i - 1) / 2] := by simp [gd, show (i - 1) / 2 < l.length by omega]
 have e2 : gd l i = l[i] := by simp [gd, hi]
 omega
theorem Adr.tail {w : World} {b off cap : Nat} {x : Nat} {l : List Nat} (ha : Adr w (.slice (some ⟨b, off, none⟩) (l.length + 1) cap) (x :: l)) : Adr w (.slice (some ⟨b, off + 1, none⟩) l.length (cap - 1)) l := by
 rcases ha with ⟨h0, _⟩ | ⟨b', o', c, cur, e, hr, h1, h2, h3, ht⟩
 ·cases h0
 ·cases e
  simp only [List.length_cons] at h1 ht
  refine .inr ⟨b, off + 1, cap - 1, cur, rfl, hr, by omega, by omega, by omega, ?_⟩
  apply List.ext_getElem?
  intro k
  rw [List.getElem?_take, List.getElem?_map]
  by_cases hk : k < l.length
  ·have := drop_get (l := x :: l) (i := k + 1) ht (by simp; omega) (by omega)
   rw [if_pos hk, List.getElem?_drop, show off + 1 + k = off + (k + 1) by omega, this, gd_eq hk]
   simp [gd]
  ·rw [if_neg hk, List.getElem?_eq_none (by omega)]
   rfl
theorem newFree_few {w : World} {v : Value} {l : List Nat} (hA : Adr w v l) (hl : l.length <= 12) :
  Calls Tryz.prog 52 #[v] w fun e w' => ∃ s, s.Nodup /\ (∀ x, x ∈ s ↔ x ∈ l /\ x ≠ 0) /\ s.length <= l.length /\ Made w s e w' := by
 have HC := Lib.hid (cloneA_any hA (by omega))
 have HL := Lib.hid hl
 clear hA hl
 go_enter Tryz.func52, Tryz.ntmps52
 go_wp2_with fail
 refine HC.out.mono ?_
 rintro e w1 ⟨v1, rfl, ha, hk, hb⟩
 have HS := Lib.hid (sortA_few ha HL.out)
 have HK := Lib.hid hk
 have HB := Lib.hid hb
 clear ha hk hb
 go_wp2_with fail
 refine HS.out.mono ?_
 rintro e w2 ⟨rfl, l', ha, hp', hs, hbt⟩
 have HP := Lib.hid hp'
 have HSo := Lib.hid (ddp_of hs)
 have HB2 := Lib.hid (HB.out.trans (hbt.below HB.out.size HK.out))
 have HCo := Lib.hid (compact_any ha (by have := hp'.length_eq; have := HL.out; omega))
 clear ha hp' hs hbt
 go_wp2_with fail
 refine HCo.out.mono ?_
 rintro e w3 ⟨v3, rfl, ha, hk3, hbt⟩
 have HK3 := Lib.hid (fun k h => HK.out k (hk3 k h))
 have HB3 := Lib.hid (HB2.out.trans (hbt.below HB2.out.size HK.out))
 clear hbt hk3
 obtain ⟨d, hd⟩ : ∃ d, d = ddp l' := ⟨_, rfl⟩
 rw [<- hd] at ha HSo
 clear hd
 have hmem : ∀ x, x ∈ d ↔ x ∈ l := fun x => (HSo.out.2.1 x).trans HP.out.mem_iff
 have hdl : d.length <= l.length := Nat.le_trans HSo.out.2.2 (by rw [HP.out.length_eq]; exact Nat.le_refl _)
 have hnd : d.Nodup := HSo.out.1.imp (fun h => Nat.ne_of_lt h)
 have hmk : ∀ v4 s, Adr w3 v4 s -> (∀ k, v4.ownBlock = some k -> v3.ownBlock = some k) -> s.Pairwise (· < ·) -> Made w s (.returned (.pointer (some ⟨w3.heap.size, 0, none⟩))) (w3.alloc (.cells #[v4] 179)) :=
  fun v4 s ha hk hs => made_of ha (fun k h => HK3.out k (hk k h)) HB3.out (heap_sorted hs) (List.Perm.refl _)
 have HMK := Lib.hid hmk
 rcases d with _ | ⟨x, d⟩
 ·obtain ⟨ad, cap, rfl⟩ := ha.shape
  have HE := Lib.hid (show ∃ s, s.Nodup /\ (∀ x, x ∈ s ↔ x ∈ l /\ x ≠ 0) /\ s.length <= l.length /\ Made w s (.returned (.pointer (some ⟨w3.heap.size, 0, none⟩))) (w3.alloc (.cells #[.slice ad 0 cap] 179)) from
   ⟨[], hnd, fun x => ⟨fun h => by simp at h, fun h => (hmem x).2 h.1⟩, hdl, HMK.out _ _ ha (fun k h => h) List.Pairwise.nil⟩)
  clear ha HSo hmem hdl hnd hmk
  go_wp2
  go_ret
  exact HE.out
 ·obtain ⟨b, off, cap, rfl, hc, hm⟩ := ha.pos (by simp)
  have cx := ha.cell (i := 0) (by simp)
  have hsz : (x :: d).length <= 12 := Nat.le_trans hdl HL.out
  have hsort := List.pairwise_cons.1 HSo.out.1
  simp only [Nat.add_zero, show gd (x :: d) 0 = x from rfl] at cx
  unfold wv at cx
  simp only [List.length_cons] at ha hc hdl hsz
  unfold maxLen at hm
  by_cases hx : x = 0
  ·subst hx
   have hmem' : ∀ y, y ∈ d ↔ y ∈ l /\ y ≠ 0 := by
    intro y
    constructor
    ·intro hy
     have := hsort.1 y hy
     exact ⟨(hmem y).1 (List.mem_cons_of_mem _ hy), by omega⟩
    ·rintro ⟨hy, h0⟩
     rcases List.mem_cons.1 ((hmem y).2 hy) with h | h
     ·exact absurd h h0
     ·exact h
   have hcx : w3.cell? ⟨b, off, none⟩ = some (.int .u64 0) := cx
   by_cases hcap : cap = 1
   ·subst hcap
    have hd0 : d = [] := List.eq_nil_of_length_eq_zero (by omega)
    subst hd0
    have ha0 : Adr w3 (.slice (some ⟨b, off, none⟩) 0 0) [] := by
     rcases ha with ⟨h0, _⟩ | ⟨b', o', c, cur, e, hr, h1, h2, h3, ht⟩
     ·cases h0
     ·cases e
      exact .inr ⟨b, off, 0, cur, rfl, hr, Nat.le_refl _, by unfold maxLen; omega, by omega, by simp⟩
    have HE := Lib.hid (show ∃ s, s.Nodup /\ (∀ x, x ∈ s ↔ x ∈ l /\ x ≠ 0) /\ s.length <= l.length /\ Made w s (.returned (.pointer (some ⟨w3.heap.size, 0, none⟩))) (w3.alloc (.cells #[.slice (some ⟨b, off, none⟩) 0 0] 179)) from
     ⟨[], List.nodup_nil, hmem', by simp, HMK.out _ _ ha0 (fun k h => h) List.Pairwise.nil⟩)
    clear ha HSo hmem hdl hnd hmk hsort hmem' ha0 cx hc hsz
    go_wp2
    go_ret
    exact HE.out
   ·have hcap' : 1 < cap := by omega
    have HE := Lib.hid (show ∃ s, s.Nodup /\ (∀ x, x ∈ s ↔ x ∈ l /\ x ≠ 0) /\ s.length <= l.length /\ Made w s (.returned (.pointer (some ⟨w3.heap.size, 0, none⟩))) (w3.alloc (.cells #[.slice (some ⟨b, off + 1, none⟩) d.length (cap - 1)] 179)) from
     ⟨d, hsort.2.imp (fun h => Nat.ne_of_lt h), hmem', by omega, HMK.out _ _ ha.tail (fun k h => h) hsort.2⟩)
    clear ha HSo hmem hdl hnd hmk hsort hmem' cx
    simp only [List.length_cons]
    generalize d.length = n at *
    go_wp2
    go_ret
    exact HE.out
  ·have hx0 : ((x : Int) == 0) = false := by rw [Bool.eq_false_iff]; intro h; have := beq_iff_eq.1 h; omega
   have hmem' : ∀ y, y ∈ x :: d ↔ y ∈ l /\ y ≠ 0 := by
    intro y
    constructor
    ·intro hy
     refine ⟨(hmem y).1 hy, ?_⟩
     rcases List.mem_cons.1 hy with h | h
     ·omega
     ·have := hsort.1 y h; omega
    ·rintro ⟨hy, h0⟩
     exact (hmem y).2 hy
   have HE := Lib.hid (show ∃ s, s.Nodup /\ (∀ x, x ∈ s ↔ x ∈ l /\ x ≠ 0) /\ s.length <= l.length /\ Made w s (.returned (.pointer (some ⟨w3.heap.size, 0, none⟩))) (w3.alloc (.cells #[.slice (some ⟨b, off, none⟩) (d.length + 1) cap] 179)) from
    ⟨x :: d, hnd, hmem', hdl, HMK.out _ _ ha (fun k h => h) HSo.out.1⟩)
   clear ha HSo hmem hdl hnd hmk hsort hmem' hx
   simp only [List.length_cons]
   generalize d.length = n at *
   go_wp2
   go_ret
   exact HE.out
end Go.Proofs.YtkbklooocdfcfaaGreatDoor
