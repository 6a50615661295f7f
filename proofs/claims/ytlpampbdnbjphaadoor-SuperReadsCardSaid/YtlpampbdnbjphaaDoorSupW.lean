/- Words, RootAt, and the reference's Words: a superblock's eight words; for any size, any root. -/
import Derived.Test.YtlpampbdnbjphaaDoorSupP
import Derived.Laws.Unary
import Derived.Laws.BitsAllLaws
import Derived.Laws.ResultCell
namespace Go.Proofs.YtlpampbdnbjphaaDoor
open Go.RowKit Go.Sort Go.Shelf
set_option linter.unusedVariables false

/-- A superblock. -/
abbrev supV (z r : Int) : Value := .agg #[.int .u64 z, .int .u64 r]
/-- Eight words. -/
abbrev w8V (a b c d e f g h : Int) : Value := .agg #[.int .u64 a, .int .u64 b, .int .u64 c, .int .u64 d, .int .u64 e, .int .u64 f, .int .u64 g, .int .u64 h]
theorem heap_new (w : World) (o : Obj) {k : Nat} (h : k = w.heap.size) : (w.alloc o).heap[k]? = some o := by
  subst h
  exact World.alloc_heap_new w o
theorem heap_old {w : World} (o : Obj) {k : Nat} {x : Obj} (h : w.heap[k]? = some x) : (w.alloc o).heap[k]? = some x := by
  exact (Below.heap_alloc w o k (heap_lt h)).trans h
theorem heap_eq {w w' : World} {k : Nat} {x : Obj} (e : w' = w) (h : w.heap[k]? = some x) : w'.heap[k]? = some x := e ▸ h
theorem results_row_tmp {fn : Func} {p u : Tmp} {ty : TypeId} (h : fn.results = #[.cell p ty, .tmp u]) (tmps : Array Value) (P : Program) (w : World) (g : Nat) (t : TypeId) (cs : Array Value) (fr : Nat × Nat) (fs : Array Field)
    (hp : tmps.getD p undef = .pointer (some ⟨g, 0, none⟩)) (hg : w.heap[g]? = some (.cells cs t fr))
    (hu : P.underlying ty = some (.struct fs)) (hi : (P.info? ty).map (·.size) = some cs.size) :
    (results fn tmps).run P w = .ok (.tuple #[.agg cs, tmps.getD u undef]) w := by
  rw [results_cell_tmp h tmps P w, hp]
  simp [asAddr, run_loadVar_row w g t ty cs fr (.struct fs) hg hu rfl hi]
theorem row_set2 {w : World} {g : Nat} {a b : Value} {t : TypeId} (h : w.heap[g]? = some (.cells #[a, b] t (0, 0))) (x y : Value) : ((w.setCell ⟨g, 0, none⟩ x).setCell ⟨g, 1, none⟩ y).heap[g]? = some (.cells #[x, y] t (0, 0)) :=
  heap_setCell_same _ g 1 _ t y (heap_setCell_same _ g 0 _ t x h)
theorem not64 {z : Int} (h0 : 0 ≤ z) (h1 : z < 18446744073709551616) : bits BinOp.xor IntKind.u64 IntKind.u64.max z = 18446744073709551615 - z := by
  rw [show IntKind.u64.max = 18446744073709551615 from rfl, u64_xor _ _ (by decide) (by decide) h0 h1]
  have h : (18446744073709551615 ^^^ z.toNat : Nat) = 18446744073709551615 - z.toNat := by
    have e : (18446744073709551615 : Nat) = (BitVec.allOnes 64).toNat := by decide
    have e2 : z.toNat = (BitVec.ofNat 64 z.toNat).toNat := by rw [BitVec.toNat_ofNat]; omega
    rw [show (18446744073709551615 ^^^ z.toNat : Nat) = (BitVec.allOnes 64 ^^^ BitVec.ofNat 64 z.toNat).toNat by rw [BitVec.toNat_xor, ← e, ← e2], BitVec.allOnes_xor, BitVec.toNat_not, ← e2]
  rw [show (18446744073709551615 : Int).toNat = 18446744073709551615 from rfl, h]
  omega
set_option maxHeartbeats 800000 in
theorem words_any {z r : Int} (h0 : 0 ≤ z) (h1 : z < 18446744073709551616) (w : World) : Calls Tryd.prog 13 #[supV z r] w fun e w' => e = .returned (w8V 5929342154728227142 z r (18446744073709551615 - z) 0 0 0 0) ∧ Below w.heap.size w w' := by
  go_enter Tryd.func13, Tryd.ntmps13
  go_wp2
  rw [not64 h0 h1]
  refine bodyPost_ret (results_cell_row rfl _ _ (w.heap.size + 1) 32 #[.int .u64 5929342154728227142, .int .u64 z, .int .u64 r, .int .u64 (18446744073709551615 - z), .int .u64 0, .int .u64 0, .int .u64 0, .int .u64 0] (0, 0) _ rfl ?_ Tryd.underlying32 rfl (by kernel_rfl)) rfl ⟨rfl, ?_⟩
  · exact heap_new _ _ (by simp)
  · exact ((Below.refl _ w).alloc (Nat.le_refl _) _).alloc (by simp) _
set_option maxHeartbeats 800000 in
theorem refWords_any {z r : Int} (h0 : 0 ≤ z) (h1 : z < 18446744073709551616) (w : World) : Calls Tryd.prog 15 #[supV z r] w fun e w' => e = .returned (w8V 5929342154728227142 z r (18446744073709551615 - z) 0 0 0 0) ∧ Below w.heap.size w w' := by
  go_enter Tryd.func15, Tryd.ntmps15
  go_wp2
  refine bodyPost_ret (results_cell_row rfl _ _ (w.heap.size + 1) 32 #[.int .u64 5929342154728227142, .int .u64 z, .int .u64 r, .int .u64 (18446744073709551615 - z), .int .u64 0, .int .u64 0, .int .u64 0, .int .u64 0] (0, 0) _ rfl ?_ Tryd.underlying32 rfl (by kernel_rfl)) rfl ⟨rfl, ?_⟩
  · exact heap_old _ (heap_new _ _ (by simp))
  · exact (((Below.refl _ w).alloc (Nat.le_refl _) _).alloc (by simp) _).alloc (by simp; omega) _
theorem infoU64 : (Tryd.prog.info? 22).map (fun i => (i.zero, i.size, i.bytes)) = some (some (.int .u64 0), 1, 8) := by kernel_rfl
theorem cellsU64 : Tryd.prog.cellsOf 22 = 1 := by kernel_rfl
theorem plainU64 : Tryd.prog.plainKey 22 = true := by kernel_rfl
theorem itemsU (xs : Array Value) (w : World) : ∀ is : List Nat, (∀ i ∈ is, ∃ x, xs[i]? = some (.int .u64 x)) → (Op.eqItems 9999 22 1 xs xs is).run Tryd.prog w = .ok true w
  | [], _ => by simp [Op.eqItems]
  | i :: is, h => by
    obtain ⟨x, hx⟩ := h i (by simp)
    have hp := run_part_plain (P := Tryd.prog) w plainU64 (xs := xs) (off := i) hx
    have he := run_equalIn_int (P := Tryd.prog) w 9998 22 .u64 .u64 x x Tryd.underlying22
    simp only [beq_self_eq_true] at he
    have hi := itemsU xs w is (fun j hj => h j (by simp [hj]))
    simp only [Op.eqItems, Sem.run_bind, Nat.mul_one, hp, Result.andThen_ok, he, Bool.not_true, Bool.false_eq_true, if_false, hi]
theorem eq8v (a b c d e f g h : Int) (w : World) : (binOp .eql 32 (w8V a b c d e f g h) (w8V a b c d e f g h)).run Tryd.prog w = .ok (.bool true) w := by
  obtain ⟨i0, hi, hz0, hz1, hz2⟩ := info_parts infoU64
  have hr := run_equalIn_array (P := Tryd.prog) w 9999 #[.int .u64 a, .int .u64 b, .int .u64 c, .int .u64 d, .int .u64 e, .int .u64 f, .int .u64 g, .int .u64 h] #[.int .u64 a, .int .u64 b, .int .u64 c, .int .u64 d, .int .u64 e, .int .u64 f, .int .u64 g, .int .u64 h] Tryd.underlying32 hi
  rw [cellsU64, itemsU _ w _ (by
    intro i hi
    have := List.mem_range.1 hi
    have h8 : i = 0 ∨ i = 1 ∨ i = 2 ∨ i = 3 ∨ i = 4 ∨ i = 5 ∨ i = 6 ∨ i = 7 := by omega
    rcases h8 with rfl | rfl | rfl | rfl | rfl | rfl | rfl | rfl <;> exact ⟨_, rfl⟩)] at hr
  rw [run_eql_struct, hr]
  rfl
/-- The reading of one of eight words. -/
def at8 (a b c d e f g h : Int) (k : Nat) : Int := [a, b, c, d, e, f, g, h].getD k 0
theorem lt8 {k : Nat} (h : k < 8) : k = 0 ∨ k = 1 ∨ k = 2 ∨ k = 3 ∨ k = 4 ∨ k = 5 ∨ k = 6 ∨ k = 7 := by omega
theorem cell8 {w : World} {b : Nat} {t : TypeId} {x0 x1 x2 x3 x4 x5 x6 x7 : Int} (h : w.heap[b]? = some (.cells #[.int .u64 x0, .int .u64 x1, .int .u64 x2, .int .u64 x3, .int .u64 x4, .int .u64 x5, .int .u64 x6, .int .u64 x7] t (0, 0))) (k : Nat) (hk : k < 8) :
    w.cell? ⟨b, k, none⟩ = some (.int .u64 (at8 x0 x1 x2 x3 x4 x5 x6 x7 k)) := by
  rw [cell_of_row w b k _ t (0, 0) h]
  rcases lt8 hk with rfl | rfl | rfl | rfl | rfl | rfl | rfl | rfl <;> rfl
set_option maxRecDepth 100000 in
set_option maxHeartbeats 1600000 in
theorem of_any {x0 x1 x2 x3 x4 x5 x6 x7 z r ec : Int} (h0 : 0 ≤ x1) (h1 : x1 < 18446744073709551616)
    (hres : (∀ k, k < 8 → at8 x0 x1 x2 x3 x4 x5 x6 x7 k = at8 5929342154728227142 x1 x2 (18446744073709551615 - x1) 0 0 0 0 k) → z = x1 ∧ r = x2 ∧ ec = 0)
    (hno : (∃ k, k < 8 ∧ at8 x0 x1 x2 x3 x4 x5 x6 x7 k ≠ at8 5929342154728227142 x1 x2 (18446744073709551615 - x1) 0 0 0 0 k) → z = 0 ∧ r = 0 ∧ ec = 6) (w : World) :
    Calls Tryd.prog 14 #[w8V x0 x1 x2 x3 x4 x5 x6 x7] w fun e w' => e = .returned (.tuple #[supV z r, .int .i64 ec]) ∧ Below w.heap.size w w' := by
  have HW := Lib.hid fun w => words_any (r := x2) h0 h1 w
  have HY := Lib.hid hres
  have HN := Lib.hid hno
  clear hres hno
  go_enter Tryd.func14, Tryd.ntmps14
  go_wp2_with fail
  refine (HW.out _).mono ?_
  rintro e w1 ⟨rfl, hb⟩
  obtain ⟨cs, hcs⟩ : ∃ cs : Array Value, cs = #[.int .u64 x0, .int .u64 x1, .int .u64 x2, .int .u64 x3, .int .u64 x4, .int .u64 x5, .int .u64 x6, .int .u64 x7] := ⟨_, rfl⟩
  have r0 : w1.heap[w.heap.size]? = some (.cells #[.int .u64 x0, .int .u64 x1, .int .u64 x2, .int .u64 x3, .int .u64 x4, .int .u64 x5, .int .u64 x6, .int .u64 x7] 32 (0, 0)) :=
    (hb.block _ (by simp; omega)).trans (heap_old _ (heap_old _ (heap_new _ _ rfl)))
  have r1 : w1.heap[w.heap.size + 1]? = some (.cells #[.int .u64 0, .int .u64 0] 25 (0, 0)) :=
    (hb.block _ (by simp)).trans (heap_old _ (heap_new _ _ (by simp)))
  have r2 : w1.heap[w.heap.size + 1 + 1]? = some (.cells #[.int .u64 x1, .int .u64 x2] 25 (0, 0)) :=
    (hb.block _ (by simp)).trans (heap_new _ _ (by simp))
  have hb0 : Below w.heap.size w w1 := ((((Below.refl _ w).alloc (Nat.le_refl _) _).alloc (by simp) _).alloc (by simp; omega) _).trans (hb.mono (by simp; omega))
  have R0 := Lib.hid r0
  have R1 := Lib.hid r1
  have R2 := Lib.hid r2
  have HB := Lib.hid hb0
  clear r0 r1 r2 hb hb0 hcs cs
  go_wp2
  obtain ⟨WL, hWL⟩ : ∃ WL, WL = (w1.alloc (.cells #[.int .u64 5929342154728227142, .int .u64 x1, .int .u64 x2, .int .u64 (18446744073709551615 - x1), .int .u64 0, .int .u64 0, .int .u64 0, .int .u64 0] 32)) := ⟨_, rfl⟩
  rw [← hWL]
  have R5 := Lib.hid (heap_eq hWL (heap_new _ _ rfl))
  have R0 := Lib.hid (heap_eq hWL (heap_old _ R0.out))
  have R1 := Lib.hid (heap_eq hWL (heap_old _ R1.out))
  have R2 := Lib.hid (heap_eq hWL (heap_old _ R2.out))
  have HB := Lib.hid (show Below w.heap.size w WL by rw [hWL]; exact HB.out.alloc (HB.out.size) _)
  clear hWL
  go_loopw [14] (fun a wr => ∃ k : Nat, a = .int .i64 k ∧ k ≤ 8 ∧ Gr WL wr ∧ ∀ j, j < k → at8 x0 x1 x2 x3 x4 x5 x6 x7 j = at8 5929342154728227142 x1 x2 (18446744073709551615 - x1) 0 0 0 0 j) (fun a _ => 8 - (intOf a).toNat)
  case atStart => exact ⟨0, rfl, by omega, Gr.refl _, fun j hj => by omega⟩
  case round =>
    obtain ⟨k, rfl, hk, hg, heq⟩ := hrel
    have HE := Lib.hid heq
    have HG := Lib.hid hg
    clear heq hg
    by_cases hlt : k < 8
    · have c0 := cell8 (HG.out.heap R0.out) k hlt
      have c5 := cell8 (HG.out.heap R5.out) k hlt
      obtain ⟨p, hp⟩ : ∃ p, p = at8 x0 x1 x2 x3 x4 x5 x6 x7 k := ⟨_, rfl⟩
      obtain ⟨q, hq⟩ : ∃ q, q = at8 5929342154728227142 x1 x2 (18446744073709551615 - x1) 0 0 0 0 k := ⟨_, rfl⟩
      rw [← hp] at c0
      rw [← hq] at c5
      have HP := Lib.hid hp
      have HQ := Lib.hid hq
      clear hp hq
      have cc := cell_of_row wr _ 0 _ 25 (0, 0) (HG.out.heap R1.out)
      have cd := cell_of_row wr _ 1 _ 25 (0, 0) (HG.out.heap R1.out)
      have fc := frozen_of_row wr _ 0 _ 25 (HG.out.heap R1.out)
      have fd := frozen_of_row wr _ 1 _ 25 (HG.out.heap R1.out)
      simp only [List.getElem?_toArray, List.getElem?_cons_succ, List.getElem?_cons_zero] at cc cd
      obtain hpq | hpq : (p != q) = true ∨ (p != q) = false := by cases (p != q) <;> simp
      · have HPQ := Lib.hid hpq
        go_wp2
        go_quiet (fail)
        go_wp2
        have hne : p ≠ q := by simpa using HPQ.out
        obtain ⟨rfl, rfl, rfl⟩ := HN.out ⟨k, hlt, by rw [← HP.out, ← HQ.out]; exact hne⟩
        refine bodyPost_ret (results_row_tmp rfl _ _ _ (w.heap.size + 1) 25 #[.int .u64 0, .int .u64 0] (0, 0) _ rfl (row_set2 (HG.out.heap R1.out) _ _) Tryd.underlying25 (by kernel_rfl)) rfl ⟨rfl, ?_⟩
        exact ((HB.out.trans ((HG.out.drewN _).below HB.out.size)).setCell (p := ⟨w.heap.size + 1, 0, none⟩) (by simp) _).setCell (p := ⟨w.heap.size + 1, 1, none⟩) (by simp) _
      · have HPQ := Lib.hid hpq
        go_wp2
        go_quiet (fail)
        go_wp2
        have he : p = q := by simpa using HPQ.out
        refine ⟨⟨k + 1, by go_num, by omega, HG.out.drewN _, fun j hj => ?_⟩, by simp [intOf]; omega⟩
        by_cases e : j = k
        · rw [e, ← HP.out, ← HQ.out]
          exact he
        · exact HE.out j (by omega)
    · obtain rfl : k = 8 := by omega
      have ca := cell_of_row wr _ 0 _ 25 (0, 0) (HG.out.heap R2.out)
      have cb := cell_of_row wr _ 1 _ 25 (0, 0) (HG.out.heap R2.out)
      have cc := cell_of_row wr _ 0 _ 25 (0, 0) (HG.out.heap R1.out)
      have cd := cell_of_row wr _ 1 _ 25 (0, 0) (HG.out.heap R1.out)
      have fc := frozen_of_row wr _ 0 _ 25 (HG.out.heap R1.out)
      have fd := frozen_of_row wr _ 1 _ 25 (HG.out.heap R1.out)
      simp only [List.getElem?_toArray, List.getElem?_cons_succ, List.getElem?_cons_zero] at ca cb cc cd
      go_wp2
      obtain ⟨rfl, rfl, rfl⟩ := HY.out fun j hj => HE.out j hj
      refine bodyPost_ret (results_row_tmp rfl _ _ _ (w.heap.size + 1) 25 #[.int .u64 z, .int .u64 r] (0, 0) _ rfl (row_set2 (HG.out.heap R1.out) _ _) Tryd.underlying25 (by kernel_rfl)) rfl ⟨rfl, ?_⟩
      exact ((HB.out.trans (HG.out.below HB.out.size)).setCell (p := ⟨w.heap.size + 1, 0, none⟩) (by simp) _).setCell (p := ⟨w.heap.size + 1, 1, none⟩) (by simp) _
theorem all8 {a b c d e f g h A B C D E F G H : Int} : (∀ k, k < 8 → at8 a b c d e f g h k = at8 A B C D E F G H k) ↔ a = A ∧ b = B ∧ c = C ∧ d = D ∧ e = E ∧ f = F ∧ g = G ∧ h = H := by
  constructor
  · intro p
    exact ⟨p 0 (by omega), p 1 (by omega), p 2 (by omega), p 3 (by omega), p 4 (by omega), p 5 (by omega), p 6 (by omega), p 7 (by omega)⟩
  · rintro ⟨rfl, rfl, rfl, rfl, rfl, rfl, rfl, rfl⟩ k hk
    rfl
theorem of_yes {x1 x2 : Int} (h0 : 0 ≤ x1) (h1 : x1 < 18446744073709551616) (w : World) :
    Calls Tryd.prog 14 #[w8V 5929342154728227142 x1 x2 (18446744073709551615 - x1) 0 0 0 0] w fun e w' => e = .returned (.tuple #[supV x1 x2, .int .i64 0]) ∧ Below w.heap.size w w' :=
  of_any h0 h1 (fun _ => ⟨rfl, rfl, rfl⟩) (fun ⟨k, hk, h⟩ => absurd rfl h) w
theorem of_no {x0 x1 x2 x3 x4 x5 x6 x7 : Int} (h0 : 0 ≤ x1) (h1 : x1 < 18446744073709551616) (h : ¬ (x0 = 5929342154728227142 ∧ x3 = 18446744073709551615 - x1 ∧ x4 = 0 ∧ x5 = 0 ∧ x6 = 0 ∧ x7 = 0)) (w : World) :
    Calls Tryd.prog 14 #[w8V x0 x1 x2 x3 x4 x5 x6 x7] w fun e w' => e = .returned (.tuple #[supV 0 0, .int .i64 6]) ∧ Below w.heap.size w w' :=
  of_any h0 h1 (fun a => by obtain ⟨a, _, _, b, c, d, e, f⟩ := all8.1 a; exact absurd ⟨a, b, c, d, e, f⟩ h) (fun _ => ⟨rfl, rfl, rfl⟩) w
theorem rootAt_any (w : World) : Calls Tryd.prog 21 #[] w fun e w' => e = .returned (.int .u64 16) ∧ w = w' := by
  go_enter Tryd.func21, Tryd.ntmps21
  go_wp2
  go_ret
  exact ⟨rfl, rfl⟩
end Go.Proofs.YtlpampbdnbjphaaDoor
