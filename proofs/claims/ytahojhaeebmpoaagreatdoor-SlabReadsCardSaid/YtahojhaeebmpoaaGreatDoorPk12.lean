/- Texts of this claim, packed: HLay, HList, HComp. -/
import Derived.Test.YtahojhaeebmpoaaGreatDoorPk09
import Derived.Test.YtahojhaeebmpoaaGreatDoorPk11
import Derived.Shelf.SlicesE.IndexFunc
import Derived.Shelf.SlicesE.Compact
import Derived.Shelf.SlicesE.Clone
/- The shelf's contracts of slices.Clone, Compact, IndexFunc at lists of addresses, laid at this program: its numbers, and the kernel's comparison; no conditions. -/
namespace Go.Proofs.YtahojhaeebmpoaaGreatDoor
open Go.Shelf
def cloneA_ren : Go.Shelf.Ren := ⟨fun | 41 => 75 | n => n, fun | 22 => 60 | 23 => 24 | 4 => 4 | n => n, fun | n => n⟩
theorem cloneA : Go.Proofs.SlLaysE0.n41 Tryz.prog cloneA_ren := {
  mixed := by kernel_rfl
  f41 := ⟨Tryz.f75.name, by decide, Tryz.func75.trans (congrArg some (by kernel_rfl))⟩
  t4 := Tryz.underlying4
  a4 := Tryz.isAgg4
  z4 := Tryz.sizeOf4
  v4 := Tryz.zeroValue4
  t22 := Tryz.underlying60
  a22 := Tryz.isAgg60
  z22 := Tryz.sizeOf60
  v22 := Tryz.zeroValue60 }
def compactA_ren : Go.Shelf.Ren := ⟨fun | 43 => 77 | n => n, fun | 22 => 60 | 23 => 24 | 3 => 3 | 4 => 4 | 0 => 0 | n => n, fun | n => n⟩
theorem compactA : Go.Proofs.SlLaysE.n43 Tryz.prog compactA_ren := {
  mixed := by kernel_rfl
  f43 := ⟨Tryz.f77.name, by decide, Tryz.func77.trans (congrArg some (by kernel_rfl))⟩
  t0 := Tryz.underlying0
  a0 := Tryz.isAgg0
  z0 := Tryz.sizeOf0
  v0 := Tryz.zeroValue0
  t3 := Tryz.underlying3
  a3 := Tryz.isAgg3
  z3 := Tryz.sizeOf3
  v3 := Tryz.zeroValue3
  t4 := Tryz.underlying4
  a4 := Tryz.isAgg4
  z4 := Tryz.sizeOf4
  v4 := Tryz.zeroValue4
  t22 := Tryz.underlying60
  a22 := Tryz.isAgg60
  z22 := Tryz.sizeOf60
  v22 := Tryz.zeroValue60
  a23 := Tryz.isAgg24
  z23 := Tryz.sizeOf24 }
def indexF_ren : Go.Shelf.Ren := ⟨fun | 6 => 140 | n => n, fun | 22 => 143 | 23 => 24 | 25 => 158 | 3 => 3 | 0 => 0 | 4 => 4 | n => n, fun | n => n⟩
theorem indexF : Go.Proofs.SlLaysH.n6 Tryz.prog indexF_ren := {
  mixed := by kernel_rfl
  f6 := ⟨Tryz.f140.name, by decide, Tryz.func140.trans (congrArg some (by kernel_rfl))⟩
  t0 := Tryz.underlying0
  a0 := Tryz.isAgg0
  z0 := Tryz.sizeOf0
  v0 := Tryz.zeroValue0
  t3 := Tryz.underlying3
  a3 := Tryz.isAgg3
  z3 := Tryz.sizeOf3
  v3 := Tryz.zeroValue3
  t4 := Tryz.underlying4
  a4 := Tryz.isAgg4
  z4 := Tryz.sizeOf4
  v4 := Tryz.zeroValue4
  t22 := Tryz.underlying143
  a22 := Tryz.isAgg143
  z22 := Tryz.sizeOf143
  v22 := Tryz.zeroValue143
  a23 := Tryz.isAgg24
  z23 := Tryz.sizeOf24
  t25 := Tryz.underlying158
  a25 := Tryz.isAgg158
  z25 := Tryz.sizeOf158
  v25 := Tryz.zeroValue158 }
end Go.Proofs.YtahojhaeebmpoaaGreatDoor
/- slices.Sort of at most twelve addresses, slices.Clone, Compact and IndexFunc of addresses: what each leaves and answers; at most 10^9 addresses. -/
namespace Go.Proofs.YtahojhaeebmpoaaGreatDoor
open Go.RowKit
set_option linter.unusedVariables false
theorem Adr.shape {w : World} {v : Value} {l : List Nat} (hA : Adr w v l) : ∃ ad cap, v = .slice ad l.length cap := by
  rcases hA with ⟨rfl, rfl⟩ | ⟨b, off, cap, cur, rfl, _⟩
  · exact ⟨none, 0, rfl⟩
  · exact ⟨some ⟨b, off, none⟩, cap, rfl⟩
set_option maxRecDepth 100000 in
set_option maxHeartbeats 1000000 in
theorem sortA_few {w : World} {v : Value} {l : List Nat} (hA : Adr w v l) (hl : l.length ≤ 12) : Calls Tryz.prog 76 #[v] w (Sorts w v l) := by
  obtain ⟨ad, cap, rfl⟩ := hA.shape
  have HP := Lib.hid (pdq_few hA hl)
  obtain ⟨n, hn⟩ : ∃ n, n = l.length := ⟨_, rfl⟩
  rw [← hn] at HP hl ⊢
  have HB := Lib.hid (Any.bits_Len bitsLenL (n : Int) w (by omega) (by omega))
  clear hn hA
  go_enter Tryz.func76, Tryz.ntmps76
  go_wp2_with fail
  refine HB.out.mono ?_
  rintro e w1 ⟨rfl, rfl⟩
  go_wp2_with fail
  refine (HP.out _).mono ?_
  intro e w2 hs
  have HE := Lib.hid hs
  obtain rfl : e = .returned (.tuple #[]) := hs.1
  clear hs
  go_wp2
  go_end0
  exact HE.out
/-- What a clone answers: a slice in new memory that reads the same. -/
def Cloned (w : World) (l : List Nat) (e : Ending) (w' : World) : Prop := ∃ v, e = .returned v ∧ Adr w' v l ∧ (∀ k, v.ownBlock = some k → w.heap.size ≤ k) ∧ Below w.heap.size w w'
theorem clone_of {f : FuncId} (h0 : ∀ (n c : Nat) (w : World), Calls Tryz.prog f #[.slice none n c] w fun e w' => e = .returned (.slice none 0 0) ∧ w' = w)
    (h1 : ∀ (b off n c : Nat) (news : List Value) (w : World) (hl : news.length = n * 1) (hn : n ≤ maxLen) (hbig : n * 8 ≤ 140737488355328) (hc : ∀ j u, news[j]? = some u → w.cell? ⟨b, off + j, none⟩ = some u) (h1 : ∀ u ∈ news, u.oneCell' = true),
      Calls Tryz.prog f #[.slice (some ⟨b, off, none⟩) n c] w fun e w' => ∃ v', e = .returned v' ∧ w'.ownsRow w.heap.size 24 1 v' n news ∧ v' ≠ .slice none 0 0 ∧ Below w.heap.size w w')
    {w : World} {v : Value} {l : List Nat} (hA : Adr w v l) (hl : l.length ≤ 1000000001) : Calls Tryz.prog f #[v] w (Cloned w l) := by
  rcases hA with ⟨rfl, rfl⟩ | ⟨b, off, cap, cur, rfl, hr, hlc, hcm, hfit, htk⟩
  · refine (h0 0 0 w).mono ?_
    rintro e w' ⟨rfl, rfl⟩
    exact ⟨_, rfl, .inl ⟨rfl, rfl⟩, (fun k hk => by cases hk), Below.refl _ _⟩
  · refine (h1 b off l.length cap (l.map wv) w (by simp) (by unfold maxLen; omega) (by omega) ?_ (wv_ones l)).mono ?_
    · intro j u hu
      have hj : j < l.length := by have := (List.getElem?_eq_some_iff.1 hu).1; simpa using this
      rw [hr.cell, ← Array.getElem?_toList, drop_get htk hj hj, ← hu, List.getElem?_map, gd_eq hj]
      rfl
    · rintro e w' ⟨v', rfl, ho, _, hb⟩
      obtain ⟨ha, hk⟩ := Adr.of_own ho
      exact ⟨v', rfl, ha, hk, hb⟩
theorem sizeA (w : World) : (Go.sizeOf 24).run Tryz.prog w = .ok 1 w := by kernel_rfl
theorem cloneA_any {w : World} {v : Value} {l : List Nat} (hA : Adr w v l) (hl : l.length ≤ 1000000001) : Calls Tryz.prog 75 #[v] w (Cloned w l) := by
  obtain ⟨i0, hi, hz0, hz1, hz2⟩ := info_parts infoA
  exact clone_of (fun n c w => AnyE.slices_Clone_nil cloneA n c w) (fun b off n c news w hl hn hbig hc h1 => AnyE.slices_Clone cloneA i0 _ 1 8 hi hz0 hz1 hz2 rfl (by decide) sizeA b off n c news w hl hn hbig hc h1) hA hl
end Go.Proofs.YtahojhaeebmpoaaGreatDoor
/- slices.Compact of rising addresses: each stands once; slices.IndexFunc by one address: where it stands; at most 10^9 addresses. -/
namespace Go.Proofs.YtahojhaeebmpoaaGreatDoor
open Go.RowKit Go.Shelf
set_option linter.unusedVariables false
def ddp (l : List Nat) : List Nat := Lib.compactUpTo l.toArray l.length
theorem arr_gd (l : List Nat) (i : Nat) : l.toArray[i]! = gd l i := by rw [← gd_arr]
theorem ddp_upto {l : List Nat} (hs : l.Pairwise (· ≤ ·)) (m : Nat) (hm : m ≤ l.length) :
    (Lib.compactUpTo l.toArray m).Pairwise (· < ·) ∧ (∀ x, x ∈ Lib.compactUpTo l.toArray m ↔ ∃ j, j < m ∧ gd l j = x) ∧ (Lib.compactUpTo l.toArray m).length ≤ m := by
  induction m with
  | zero => exact ⟨by simp [Lib.compactUpTo], by simp [Lib.compactUpTo], by simp [Lib.compactUpTo]⟩
  | succ m ih =>
    obtain ⟨h1, h2, h3⟩ := ih (by omega)
    have hle : ∀ i j, i < j → j < l.length → gd l i ≤ gd l j := by
      intro i j hij hj
      have := List.pairwise_iff_getElem.1 hs i j (by omega) hj hij
      have e1 : gd l i = l[i] := by simp [gd, show i < l.length by omega]
      have e2 : gd l j = l[j] := by simp [gd, hj]
      omega
    rw [Lib.compactUpTo_succ, arr_gd]
    by_cases hk : Lib.keeps l.toArray m = true
    · rw [if_pos hk]
      unfold Lib.keeps at hk
      rw [arr_gd, arr_gd] at hk
      have hk' := of_decide_eq_true hk
      refine ⟨?_, fun x => ?_, by simp; omega⟩
      · rw [List.pairwise_append]
        refine ⟨h1, by simp, fun x hx y hy => ?_⟩
        obtain ⟨j, hj, rfl⟩ := (h2 x).1 hx
        simp at hy
        subst hy
        rcases hk' with h0 | hne
        · omega
        · have := hle (m - 1) m (by omega) (by omega)
          by_cases e : j = m - 1
          · subst e; omega
          · have := hle j (m - 1) (by omega) (by omega); omega
      · rw [List.mem_append, h2]
        constructor
        · rintro (⟨j, hj, rfl⟩ | hx)
          · exact ⟨j, by omega, rfl⟩
          · simp at hx; exact ⟨m, by omega, hx.symm⟩
        · rintro ⟨j, hj, rfl⟩
          by_cases e : j = m
          · subst e; right; simp
          · left; exact ⟨j, by omega, rfl⟩
    · rw [if_neg hk, List.append_nil]
      unfold Lib.keeps at hk
      rw [arr_gd, arr_gd] at hk
      have hk' : ¬ (m = 0 ∨ gd l m ≠ gd l (m - 1)) := fun h => hk (decide_eq_true h)
      have hm0 : m ≠ 0 := fun h => hk' (.inl h)
      have heq : gd l m = gd l (m - 1) := Classical.byContradiction fun h => hk' (.inr h)
      refine ⟨h1, fun x => ?_, by omega⟩
      rw [h2]
      constructor
      · rintro ⟨j, hj, rfl⟩; exact ⟨j, by omega, rfl⟩
      · rintro ⟨j, hj, rfl⟩
        by_cases e : j = m
        · subst e; exact ⟨j - 1, by omega, heq.symm⟩
        · exact ⟨j, by omega, rfl⟩
theorem mem_gd {l : List Nat} {x : Nat} : x ∈ l ↔ ∃ j, j < l.length ∧ gd l j = x := by
  constructor
  · intro h
    obtain ⟨j, hj, e⟩ := List.getElem_of_mem h
    exact ⟨j, hj, by rw [← e]; simp [gd, hj]⟩
  · rintro ⟨j, hj, rfl⟩; exact gd_mem hj
theorem ddp_of {l : List Nat} (hs : l.Pairwise (· ≤ ·)) : (ddp l).Pairwise (· < ·) ∧ (∀ x, x ∈ ddp l ↔ x ∈ l) ∧ (ddp l).length ≤ l.length := by
  obtain ⟨h1, h2, h3⟩ := ddp_upto hs l.length (Nat.le_refl _)
  exact ⟨h1, fun x => by rw [mem_gd (l := l)]; exact h2 x, h3⟩
theorem dec_nat (x y : Nat) : decide ((x : Int) = (y : Int)) = decide (x = y) := by rw [Bool.eq_iff_iff]; simp only [decide_eq_true_eq]; omega
theorem eqA : EqlAt Tryz.prog 24 wv (fun x y => decide (x = y)) := ⟨fun x y w => by
  have := (EqlAt.intD Tryz.prog 24 .u64).1 (x : Int) (y : Int) w
  simp only [dec_nat] at this
  exact this, fun op a b x y w => (EqlAt.intD Tryz.prog 24 .u64).2 op a b (x : Int) (y : Int) w⟩
theorem neA : NeqAt Tryz.prog 24 wv (fun x y => decide (x = y)) := ⟨fun x y w => by
  have := (NeqAt.intD Tryz.prog 24 .u64).1 (x : Int) (y : Int) w
  simp only [dec_nat] at this
  exact this, fun op a b x y w => (EqlAt.intD Tryz.prog 24 .u64).2 op a b (x : Int) (y : Int) w⟩
theorem Adr.holds {w : World} {b off cap : Nat} {l : List Nat} (hA : Adr w (.slice (some ⟨b, off, none⟩) l.length cap) l) : Sort.Holds wv w b off l.toArray := by
  intro j hj
  have hj' : j < l.length := by simpa using hj
  refine ⟨?_, hA.free j⟩
  rw [hA.cell hj', arr_gd]
theorem row_put {w : World} {b off : Nat} {t : TypeId} {cur : Array Value} (h : Row w b t cur) (d : Array Nat) (q : Nat) : Row (Sort.putRow wv (Sort.ahead w q) b off d) b t (Sort.putCells wv off d cur) := by
  have h' : w.heap[b]? = some (.cells cur t (0, 0)) := h
  unfold Row Sort.putRow Sort.mapBlock Sort.ahead
  simp only [Array.getElem?_modify, if_true, h', Option.map_some, Sort.onCells]
theorem but_put (w : World) (b off : Nat) (d : Array Nat) (q : Nat) : But w (Sort.putRow wv (Sort.ahead w q) b off d) (fun k => k = b) := by
  refine ⟨rfl, rfl, rfl, ?_, fun k hk hn => ?_⟩
  · unfold Sort.putRow Sort.mapBlock Sort.ahead; simp
  · unfold Sort.putRow Sort.mapBlock Sort.ahead
    simp only [Array.getElem?_modify]
    rw [if_neg (fun e => hn e.symm)]
theorem adr_put {w : World} {b off cap n : Nat} {l : List Nat} (hA : Adr w (.slice (some ⟨b, off, none⟩) n cap) l) (d : Array Nat) (hd : d.size = l.length) (q m : Nat) (hm : m ≤ l.length) :
    Adr (Sort.putRow wv (Sort.ahead w q) b off d) (.slice (some ⟨b, off, none⟩) m cap) (d.toList.take m) := by
  rcases hA with ⟨h0, _⟩ | ⟨b', o', c, cur, e, hr, h1, h2, h3, ht⟩
  · cases h0
  · cases e
    have hl : (d.toList.take m).length = m := by simp; omega
    refine .inr ⟨b, off, cap, _, by rw [hl], row_put hr d q, by omega, h2, by simp [Sort.putCells]; exact h3, ?_⟩
    rw [hl]
    apply List.ext_getElem?
    intro k
    rw [List.getElem?_take]
    by_cases hk : k < m
    · rw [if_pos hk, List.getElem?_drop, Array.getElem?_toList, List.getElem?_map, List.getElem?_take, if_pos hk, Array.getElem?_toList]
      unfold Sort.putCells
      rw [Array.getElem?_mapIdx, Array.getElem?_eq_getElem (by omega)]
      simp only [Option.map_some]
      rw [if_pos ⟨by omega, by omega⟩, show off + k - off = k by omega, Array.getElem?_eq_getElem (show k < d.size by omega), getElem!_pos d k (by omega)]
      rfl
    · rw [if_neg hk, List.getElem?_eq_none (by simp; omega)]
/-- What Compact leaves: the slice's front, that reads as each once; all else as it was. -/
def Compacts (w : World) (v : Value) (l : List Nat) (e : Ending) (w' : World) : Prop := ∃ v', e = .returned v' ∧ Adr w' v' (ddp l) ∧ (∀ k, v'.ownBlock = some k → v.ownBlock = some k) ∧ But w w' (fun k => v.ownBlock = some k)
set_option maxHeartbeats 400000 in
theorem compact_few {ad : Option Addr} {n cap : Nat} (w : World) (hn : n < 2) : Calls Tryz.prog 77 #[.slice ad n cap] w fun e w' => e = .returned (.slice ad n cap) ∧ w = w' := by
  go_enter Tryz.func77, Tryz.ntmps77
  go_wp2
  go_ret
  exact ⟨rfl, rfl⟩
theorem ddp_few {l : List Nat} (h : l.length < 2) : ddp l = l := by
  match l, h with
  | [], _ => rfl
  | [a], _ => rfl
theorem compact_any {w : World} {v : Value} {l : List Nat} (hA : Adr w v l) (hl : l.length ≤ 1000000001) : Calls Tryz.prog 77 #[v] w (Compacts w v l) := by
  by_cases h2 : l.length < 2
  · obtain ⟨ad, cap, rfl⟩ := hA.shape
    refine (compact_few w h2).mono ?_
    rintro e w' ⟨rfl, rfl⟩
    exact ⟨_, rfl, by rw [ddp_few h2]; exact hA, fun k hk => hk, But.refl _ _⟩
  · obtain ⟨b, off, cap, rfl, hc, hm⟩ := hA.pos (by omega)
    have h := AnyE.slices_Compact compactA wv (fun _ => rfl) eqA neA 0 (fun w => by kernel_rfl) b off cap l.toArray w hA.holds (by simp; omega) (by simpa using hc)
    refine h.mono ?_
    rintro e w' ⟨rfl, q, rfl⟩
    have hle : (ddp l).length ≤ l.length := by
      unfold ddp Lib.compactUpTo
      rw [List.length_map]
      exact Nat.le_trans (List.length_filter_le _ _) (by simp)
    have hle' : (Lib.compactUpTo l.toArray l.toArray.size).length ≤ l.length := hle
    refine ⟨_, rfl, ?_, fun k hk => hk, (but_put w b off _ q).mono (fun k hk => by rw [hk]; rfl)⟩
    have := adr_put hA (Lib.compactUpTo l.toArray l.toArray.size ++ List.replicate (l.toArray.size - (Lib.compactUpTo l.toArray l.toArray.size).length) 0).toArray (by simp; simp at hle'; omega) q (Lib.compactUpTo l.toArray l.toArray.size).length hle'
    rw [List.take_left] at this
    exact this
/-- The closure of place: is it that address? -/
theorem place1_pred (a : Nat) (B : Nat) (w : World) (hB : B < w.heap.size) (hcell : w.cell? ⟨B, 0, none⟩ = some (wv a)) :
    PredAt Tryz.prog 141 #[.pointer (some ⟨B, 0, none⟩)] wv (fun x => decide (x = a)) w := fun W x hb => by
  have hc : W.cell? ⟨B, 0, none⟩ = some (wv a) := (hb.cell (p := ⟨B, 0, none⟩) hB).trans hcell
  show Calls Tryz.prog 141 #[wv x, .pointer (some ⟨B, 0, none⟩)] W fun e w' => e = .returned (.bool (decide (x = a))) ∧ ∃ q, w' = W.drewN q
  unfold wv at *
  have hb : ((x : Int) == (a : Int)) = decide (x = a) := by rw [Bool.eq_iff_iff]; simp only [beq_iff_eq, decide_eq_true_eq]; omega
  generalize decide (x = a) = bb at hb ⊢
  go_enter Tryz.func141, Tryz.ntmps141
  go_wp2
  go_ret
  exact ⟨rfl, 0, rfl⟩
/-- Where it stands first; -1. -/
def idx (l : List Nat) (a : Nat) : Int := if a ∈ l then (l.idxOf a : Int) else -1
theorem idxFrom (l : List Nat) (a i : Nat) : Lib.idxByFrom (fun _ y => decide (y = a)) (default : Nat) l i = if a ∈ l then ((l.idxOf a + i : Nat) : Int) else -1 := by
  induction l generalizing i with
  | nil => simp [Lib.idxByFrom]
  | cons y r ih =>
    rw [Lib.idxByFrom, ih]
    by_cases e : y = a
    · subst e; simp
    · have e' : ¬ a = y := fun h => e h.symm
      by_cases hm : a ∈ r
      · rw [List.idxOf_cons, show (y == a) = false from by simpa using e, cond_false, if_neg (by simpa using e), if_pos hm, if_pos (List.mem_cons_of_mem _ hm)]
        omega
      · simp [e, e', hm]
theorem idxBy_idx (l : List Nat) (a : Nat) : Lib.idxBy (fun _ y => decide (y = a)) l default = idx l a := by
  unfold Lib.idxBy idx
  rw [idxFrom]
  rfl
theorem indexF_any {w : World} {v : Value} {l : List Nat} (hA : Adr w v l) (hl : l.length ≤ 1000000001) {B a : Nat} (hB : B < w.heap.size) (hcell : w.cell? ⟨B, 0, none⟩ = some (wv a)) :
    Calls Tryz.prog 140 #[v, .func (.func 141) #[] #[.pointer (some ⟨B, 0, none⟩)]] w fun e w' => e = .returned (.int .i64 (idx l a)) ∧ Drew w w' := by
  have eg : ∀ args w, (callFunc 141 args).run Tryz.prog w = .ok (.enter 141 args) w := enters_of Tryz.func141 (by kernel_rfl) rfl
  rcases Nat.eq_zero_or_pos l.length with h0 | h0
  · have e0 : l = [] := List.eq_nil_of_length_eq_zero h0
    subst e0
    obtain ⟨ad, cap, rfl⟩ := hA.shape
    refine (AnyE.slices_IndexFunc_empty indexF ad cap _ w).mono ?_
    rintro e w' ⟨rfl, rfl⟩
    exact ⟨rfl, 0, rfl⟩
  · obtain ⟨b, off, cap, rfl, hc, hm⟩ := hA.pos h0
    refine (AnyE.slices_IndexFunc indexF wv (fun x => decide (x = a)) 141 #[.pointer (some ⟨B, 0, none⟩)] eg b off l.length cap l w (place1_pred a B w hB hcell) (Nat.le_refl _) (by omega) ?_).mono ?_
    · intro j hj
      rw [hA.cell hj]
      simp [gd, hj]
    · rintro e w' ⟨rfl, q, rfl⟩
      rw [List.take_length, idxBy_idx]
      exact ⟨rfl, q, rfl⟩
end Go.Proofs.YtahojhaeebmpoaaGreatDoor
