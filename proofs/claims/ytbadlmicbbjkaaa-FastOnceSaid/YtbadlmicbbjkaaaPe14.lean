/- Texts of this claim, packed: N9Ch, N9Bg. -/
import Derived.Test.YtbadlmicbbjkaaaPe11
import Derived.Test.YtbadlmicbbjkaaaPe12
import Derived.Test.YtbadlmicbbjkaaaPe13
import Derived.Test.YtbadlmicbbjkaaaPe09
import Derived.Deep.RegionLaw
import Derived.Deep.AppendLies
/- A change in memory, its stores told one by one: store, key, ptr, begin, end; conditions: the base is at most 2^40, the stores are few. -/
namespace Go.Proofs.Ytbadlmicbbjkaaa
open Go.RowKit Go.Sort
set_option linter.unusedVariables false
/-- A change's cells. -/
def chC (base : Int) (n : Nd) (v : Value) : List Value := uw base :: (n.cl ++ [v])
/-- A change lies in a block, with its stores so far. -/
def ChAt (w : World) (B b : Nat) (base : Int) (n : Nd) (l : List (Int × Int)) : Prop :=
  B ≤ b ∧ ∃ v, Row w b 98 (chC base n v).toArray ∧ w.ownsRow B 45 2 v l.length (flatE l) ∧ v.ownBlock ≠ some b
theorem chC_base (base : Int) (n : Nd) (v : Value) : (chC base n v)[0]? = some (uw base) := rfl
theorem chC_st (base : Int) (n : Nd) (v : Value) : (chC base n v)[22]? = some v := rfl
theorem chC_set (base : Int) (n : Nd) (v u : Value) : (chC base n v).set 22 u = chC base n u := rfl
theorem chC_mid (base : Int) (n : Nd) (v : Value) {i : Nat} (hi : i < 21) : (chC base n v)[1 + i]? = n.cl[i]? := by
  rw [show 1 + i = i + 1 by omega]
  unfold chC
  rw [List.getElem?_cons_succ, List.getElem?_append_left (by rw [n.size]; exact hi)]
theorem ChAt.low {w w' : World} {B b : Nat} {base : Int} {n : Nd} {l : List (Int × Int)} (h : ChAt w B b base n l) (hb : Below w.heap.size w w') : ChAt w' B b base n l := by
  obtain ⟨hB, v, hr, ho, hn⟩ := h
  exact ⟨hB, v, hr.below hb hr.lt, ownS_low ho hb, hn⟩
theorem ChAt.node {w : World} {B b : Nat} {base : Int} {n : Nd} {l : List (Int × Int)} (h : ChAt w B b base n l) : w.rangeAt b 1 n.cl := by
  obtain ⟨hB, v, hr, ho, hn⟩ := h
  intro j u hu
  have hj : j < 21 := (List.getElem?_eq_some_iff.1 hu).1
  rw [hr.cell, List.getElem?_toArray, chC_mid _ _ _ hj]
  exact hu
theorem ChAt.lt {w : World} {B b : Nat} {base : Int} {n : Nd} {l : List (Int × Int)} (h : ChAt w B b base n l) : b < w.heap.size := by
  obtain ⟨hB, v, hr, ho, hn⟩ := h
  exact hr.lt
theorem infoPut : (Try.prog.info? 45).map (fun i => (i.zero, i.size, i.bytes)) = some (some (.agg #[.int .u64 0, .int .u64 0]), 2, 16) := by kernel_rfl
/-- A store is told: the list has grown by it, and the change's cell says so. -/
theorem ch_push {w w1 : World} {B b m g cap : Nat} {base : Int} {n : Nd} {l : List (Int × Int)} {v : Value} {x y : Int} {o : Obj} (hr : Row w b 98 (chC base n v).toArray) (hB : B ≤ b) (hm : m = l.length) (hn : v.ownBlock ≠ some b) (hO : w.ownsRow B 45 2 v m (flatE l))
    (hown : w1.ownsRow B 45 2 (.slice (some ⟨g, 0, none⟩) (m + 1) cap) (m + 1) (flatE l ++ [.int .u64 x, .int .u64 y])) (hgrow : (w.alloc o).drew.grownBy w1 v.ownBlock) (hsm : v.ownBlock = some g ∨ g = w.heap.size + 1) (hlt : g < w1.heap.size) :
    ChAt (w1.setCell ⟨b, 22, none⟩ (.slice (some ⟨g, 0, none⟩) (m + 1) cap)) B b base n (l ++ [(x, y)]) ∧ Below B w (w1.setCell ⟨b, 22, none⟩ (.slice (some ⟨g, 0, none⟩) (m + 1) cap)) := by
  have hlt := hr.lt
  have hb0 : Below w.heap.size w (w.alloc o).drew := low_and (alloc_low _ _) (drew_low9 _)
  have hr1 : Row w1 b 98 (chC base n v).toArray := (hr.below hb0 hlt).grown hgrow (fun e => hn e.symm)
  have hgb : g ≠ b := by
    rcases hsm with h | h
    · intro e; subst e; exact hn h
    · omega
  refine ⟨⟨hB, .slice (some ⟨g, 0, none⟩) (m + 1) cap, ?_, ?_, fun e => by cases e; exact hgb rfl⟩, ?_⟩
  · have := hr1.set 22 (.slice (some ⟨g, 0, none⟩) (m + 1) cap)
    rw [List.setIfInBounds_toArray, chC_set] at this
    exact this
  · rw [List.length_append, flatE_snoc, ← hm]
    exact ownS_set hown (fun k e => by cases e; exact hgb) _
  · have hbw : B ≤ w.heap.size := by omega
    exact ((hb0.mono hbw).grown hgrow (by have := hb0.size; omega) (fun k hk => (ownS_from hO k hk).1)).setCell (p := ⟨b, 22, none⟩) hB _
set_option maxRecDepth 100000 in
set_option maxHeartbeats 4000000 in
theorem cstore_any {w : World} {B b : Nat} {base : Int} {n : Nd} {l : List (Int × Int)} (h : ChAt w B b base n l) (hl : l.length ≤ 1000) (hb : 0 ≤ base ∧ base ≤ 1099511627776) {at_ : Int} (ha : 0 ≤ at_ ∧ at_ ≤ 1000) (word : Int) :
    Calls Try.prog 59 #[.pointer (some ⟨b, 0, none⟩), .int .i64 at_, .int .u64 word] w fun e w' => e = .returned (.tuple #[]) ∧ ChAt w' B b base n (l ++ [(base + at_, word)]) ∧ Below B w w' := by
  obtain ⟨i0, hi, hz0, hz1, hz2⟩ := info_parts infoPut
  have hlt := h.lt
  obtain ⟨hB, v, hr, ho, hn⟩ := h
  have mixed : Try.prog.follows .mixedOrders = true := by kernel_rfl
  have c0 := (hr.cell 0).trans List.getElem?_toArray
  have c22 := (hr.cell 22).trans List.getElem?_toArray
  rw [chC_base] at c0
  rw [chC_st] at c22
  have f22 := hr.free 22
  obtain ⟨m, hm⟩ : ∃ m, m = l.length := ⟨_, rfl⟩
  rw [← hm] at ho hl
  obtain ⟨ad, had⟩ : ∃ ad, ad = base + at_ := ⟨_, rfl⟩
  have hw1 : IntKind.u64.wrap at_ = at_ := by rw [IntKind.wrap_u64]; omega
  have hw2 : IntKind.u64.wrap (base + at_) = base + at_ := by rw [IntKind.wrap_u64]; omega
  have HO := Lib.hid (fun (W : World) (hb : Below w.heap.size w W) => (show W.ownsRow B 45 2 v m (flatE l) from ownS_low ho hb))
  have HR := Lib.hid hr
  have HN := Lib.hid hn
  have HM := Lib.hid hm
  have HB := Lib.hid hB
  have HLT := Lib.hid hlt
  have HF22 := Lib.hid f22
  have HC22 := Lib.hid c22
  clear ho hr hn hm hB had
  go_enter Try.func59, Try.ntmps59
  go_wp2_with fail
  go_region_law ((refine step_append_lies _ (by rfl) (.tmp 10) (.tmp 20) _ (by rfl) B 45 i0 (.agg #[.int .u64 0, .int .u64 0]) 2 16 rfl hi hz0 hz1 hz2 rfl (by decide) _ _ _ (by rfl) (HO.out _ (low_and (alloc_low _ _) (drew_low9 _))) ⟨w.heap.size, 0, none⟩ 1 1 [.int .u64 (base + at_), .int .u64 word] (by rfl) (by rfl) (World.news_of_block (cs := #[.int .u64 (base + at_), .int .u64 word]) (t := 45) (fr := (0, 0)) (heap_alloc_new9 w _)) (by intro u hu; simp at hu; rcases hu with rfl | rfl <;> rfl) (by decide) (by unfold maxLen; omega) (by omega) (by simp; have := HB.out; have := HLT.out; omega) (w.heap.size + 1) (by simp) ?_; intro g cap w1 hown hgrow hsm hlt2; have fq : w1.frozen? ⟨b, 22, none⟩ = false := frozen_grown9 hgrow (by simp; exact Nat.lt_succ_of_lt HLT.out) (fun e => HN.out e.symm) (by simp; exact (frozen_alloc9 HLT.out _).trans HF22.out); have dq : w1.cell? ⟨b, 22, none⟩ = some v := (hgrow.cell_far _ (by simp; exact Nat.lt_succ_of_lt HLT.out) (fun e => HN.out e.symm)).trans (by simp; exact (World.cell?_alloc_lt _ _ _ HLT.out).trans HC22.out)))
  all_goals
    obtain ⟨hc, hbl⟩ := ch_push HR.out HB.out HM.out HN.out (HO.out w (Below.refl _ _)) hown hgrow hsm hlt2
    go_end0
    exact ⟨rfl, hc, hbl⟩
set_option maxRecDepth 100000 in
set_option maxHeartbeats 2000000 in
theorem ckey_any {w : World} {B b : Nat} {base : Int} {n : Nd} {l : List (Int × Int)} (h : ChAt w B b base n l) (hl : l.length ≤ 1000) (hb : 0 ≤ base ∧ base ≤ 1099511627776) {p : Nat} (hp : p < 8) (word : Int) :
    Calls Try.prog 56 #[.pointer (some ⟨b, 0, none⟩), .int .i64 (p : Int), .int .u64 word] w fun e w' => e = .returned (.tuple #[]) ∧ ChAt w' B b base n (l ++ [(kA base p, word)]) ∧ Below B w w' := by
  have HS := Lib.hid (cstore_any h hl hb (at_ := 64 + 16 * (p : Int)) (by omega) word)
  rw [show base + (64 + 16 * (p : Int)) = kA base p by unfold kA; omega] at HS
  clear h
  go_enter Try.func56, Try.ntmps56
  go_wp2_with (go_at_call 59; refine HS.out.mono ?_; rintro e w' ⟨rfl, h2, h3⟩)
  go_end0
  exact ⟨rfl, h2, h3⟩
set_option maxRecDepth 100000 in
set_option maxHeartbeats 2000000 in
theorem cptr_any {w : World} {B b : Nat} {base : Int} {n : Nd} {l : List (Int × Int)} (h : ChAt w B b base n l) (hl : l.length ≤ 1000) (hb : 0 ≤ base ∧ base ≤ 1099511627776) {p : Nat} (hp : p < 8) (word : Int) :
    Calls Try.prog 57 #[.pointer (some ⟨b, 0, none⟩), .int .i64 (p : Int), .int .u64 word] w fun e w' => e = .returned (.tuple #[]) ∧ ChAt w' B b base n (l ++ [(pA base p, word)]) ∧ Below B w w' := by
  have HS := Lib.hid (cstore_any h hl hb (at_ := 64 + 16 * (p : Int) + 8) (by omega) word)
  rw [show base + (64 + 16 * (p : Int) + 8) = pA base p by unfold pA; omega] at HS
  clear h
  go_enter Try.func57, Try.ntmps57
  go_wp2_with (go_at_call 59; refine HS.out.mono ?_; rintro e w' ⟨rfl, h2, h3⟩)
  go_end0
  exact ⟨rfl, h2, h3⟩
end Go.Proofs.Ytbadlmicbbjkaaa
/- fast's begin and end of a change; of any node; conditions: a base that may be. -/
namespace Go.Proofs.Ytbadlmicbbjkaaa
open Go.RowKit
set_option linter.unusedVariables false
theorem run_build_ch (base : Int) (n : Nd) (W : World) : (Instr.build 98 #[(0, .int .u64 base), (1, .agg n.cl.toArray)]).run Try.prog W = .ok (.agg (chC base n (.slice none 0 0)).toArray) W := by
  kernel_rfl
/-- A change is built of its base and its node. -/
theorem wpList_build_ch {ops : Array Oper} {rest : List Oper} {op : Oper} {a : Act} {w : World} {Q : Exit → Act → World → Prop} (hgd : op.guard = none) (x y : Operand) (ho : op.op = .build 98 #[(0, x), (1, y)])
    (base : Int) (n : Nd) (hx : a.eval x = .int .u64 base) (hy : a.eval y = .agg n.cl.toArray) (h : wpList Try.prog ops Q rest (a.put op.dst (.agg (chC base n (.slice none 0 0)).toArray)) w) : wpList Try.prog ops Q (op :: rest) a w :=
  wpList_plain hgd fun _ hK => by
    unfold Oper.wp execOp
    simp only [ho]
    simp only [List.map_toArray, List.map_cons, List.map_nil, hx, hy, run_build_ch, Sem.run_bind, Sem.run_pure, Result.andThen_ok]
    exact hK _ _ h
set_option maxRecDepth 100000 in
set_option maxHeartbeats 4000000 in
theorem begin_any {base : Int} (hb : 0 ≤ base ∧ base ≤ 1099511627776) (n : Nd) (w : World) : Calls Try.prog 45 #[.int .u64 base, n.V] w fun e w' => ∃ b, e = .returned (.pointer (some ⟨b, 0, none⟩)) ∧ ChAt w' w.heap.size b base n [(base + 24, IntKind.u64.wrap (n.ct + 1))] ∧ Below w.heap.size w w' := by
  have r0 := Row.new w 27 n.cl.toArray
  have HR0 := Lib.hid r0
  obtain ⟨W2, hW2⟩ : ∃ W2, W2 = (w.alloc (.cells n.cl.toArray 27)).alloc (.cells (chC base n (.slice none 0 0)).toArray 98) := ⟨_, rfl⟩
  have c3 : W2.cell? ⟨w.heap.size, 3, none⟩ = some (.int .u64 n.ct) := by rw [hW2]; exact ndAt_at (r0.alloc _) 3
  have hch : ChAt W2 w.heap.size (w.heap.size + 1) base n [] := by
    rw [hW2]
    refine ⟨by omega, .slice none 0 0, ?_, World.ownsRow_nil _ _ _ _, fun e => by cases e⟩
    have := Row.new (w.alloc (.cells n.cl.toArray 27)) 98 (chC base n (.slice none 0 0)).toArray
    simpa only [World.size_alloc] using this
  have HBW := Lib.hid (show Below w.heap.size w W2 by rw [hW2]; exact low_and (alloc_low _ _) (alloc_low _ _))
  have HS := Lib.hid (cstore_any hch (by simp) hb (at_ := 24) (by omega) (IntKind.u64.wrap (n.ct + 1)))
  have HW2 := Lib.hid hW2
  clear r0 hW2 hch
  go_enter Try.func45, Try.ntmps45
  go_wp2_with (first
    | (refine wpList_load_mid rfl _ _ rfl w.heap.size 0 rfl n.cl _ (ndR HR0.out) Try.underlying27 rfl ndI ?_)
    | (refine wpList_build_ch rfl _ _ rfl base n rfl rfl ?_)
    | (rw [← HW2.out])
    | (go_at_call 59; refine HS.out.mono ?_; rintro e w3 ⟨rfl, h3, hb3⟩))
  go_ret
  exact ⟨_, rfl, h3, HBW.out.trans hb3⟩
set_option maxRecDepth 100000 in
set_option maxHeartbeats 4000000 in
theorem cend_any {w : World} {B b : Nat} {base : Int} {n : Nd} {l : List (Int × Int)} (h : ChAt w B b base n l) (hl : l.length ≤ 1000) (hb : 0 ≤ base ∧ base ≤ 1099511627776) :
    Calls Try.prog 47 #[.pointer (some ⟨b, 0, none⟩)] w fun e w' => (∃ v, e = .returned v ∧ w'.ownsRow B 45 2 v (l.length + 1) (flatE (l ++ [(base + 24, IntKind.u64.wrap (n.ct + 2))]))) ∧ Below B w w' := by
  have hn := h.node 3 (.int .u64 n.ct) rfl
  have HS := Lib.hid (cstore_any h hl hb (at_ := 24) (by omega) (IntKind.u64.wrap (n.ct + 2)))
  clear h
  go_enter Try.func47, Try.ntmps47
  go_wp2_with (first
    | (go_at_call 59; refine HS.out.mono ?_; rintro e w3 ⟨rfl, ⟨hB3, v3, hr3, ho3, hn3⟩, hb3⟩; have c22 := (hr3.cell 22).trans List.getElem?_toArray; rw [chC_st] at c22))
  go_ret
  rw [List.length_append] at ho3
  exact ⟨⟨v3, rfl, ho3⟩, hb3⟩
end Go.Proofs.Ytbadlmicbbjkaaa
