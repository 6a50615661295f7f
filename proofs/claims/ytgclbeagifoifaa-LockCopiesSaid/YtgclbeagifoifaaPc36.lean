/- Texts of this claim, packed: 7Do2. -/
import Derived.Test.YtgclbeagifoifaaPc35
/- One call on the table and on the document's: a release, a drop, a copy, none. -/
namespace Go.Proofs.Ytgclbeagifoifaa
open Go.RowKit
set_option linter.unusedVariables false
set_option maxRecDepth 100000 in
set_option maxHeartbeats 3200000 in
theorem do7_rel {w : World} {B g b gr m : Nat} {s : Lk} {vL vW : Value} (h : KAt w g b s) (r : RIs w B gr s m vL vW) (hB : B ≤ w.heap.size) (hm : m ≤ 900) (hz : s.sz ≤ 900) (c : Int) {id : Nat} (hi : id < 18446744073709551616) :
    Calls Try.prog 8 #[.pointer (some ⟨g, 0, none⟩), .pointer (some ⟨gr, 0, none⟩), .agg #[.int .i64 2, .int .i64 c, .int .u64 (id : Int)]] w (DoPost w B g b gr (relT s c id) m vL vW) := by
  have mixed : Try.prog.follows .mixedOrders = true := by kernel_rfl
  have ra := Row.new w 36 #[.int .i64 2, .int .i64 c, .int .u64 (id : Int)]
  obtain ⟨Wa, hWa⟩ : ∃ Wa, Wa = w.alloc (.cells #[.int .i64 2, .int .i64 c, .int .u64 (id : Int)] 36) := ⟨_, rfl⟩
  rw [← hWa] at ra
  have hba : Below w.heap.size w Wa := by rw [hWa]; exact alloc_below _ _
  have HWa := Lib.hid hWa
  have HB0 := Lib.hid (show Below w.heap.size w Wa.drew from Below.and hba (drew_below Wa))
  have HK := Lib.hid (fun W' (hb : Below w.heap.size w W') => h.below hb)
  have HR := Lib.hid (fun W' (hb : Below w.heap.size w W') => r.below hb)
  have HT := Lib.hid (fun W' (hb : Below w.heap.size w W') => rel_all (h.below hb) c hi)
  have HLT := Lib.hid (show ∀ k, kfp g b k ∨ rfp gr vL vW k → k < w.heap.size from by
    obtain ⟨l, wt, hR, _⟩ := r.ex
    rintro k ((rfl | rfl) | hk)
    · exact h.row.lt
    · exact h.mp.lt
    · exact hR.lt k hk)
  have HOK := Lib.hid h.ok
  have HSB := Lib.hid (show w.heap.size < Wa.drew.heap.size by have := ra.lt; simpa using this)
  have hs0 : w.heap.size ≤ Wa.drew.heap.size := HB0.out.size
  have rd : Row Wa.drew w.heap.size 36 #[.int .i64 2, .int .i64 c, .int .u64 (id : Int)] := ra.below (drew_below Wa) ra.lt
  have HRD := Lib.hid rd
  have HS := Lib.hid (fun W' (hb : But Wa.drew W' (kfp g b)) => (show W'.cell? ⟨w.heap.size, 1, none⟩ = some (.int .i64 c) ∧ W'.cell? ⟨w.heap.size, 2, none⟩ = some (.int .u64 (id : Int)) from by
    have rw' := hb.row rd (fun hf => Nat.lt_irrefl _ (HLT.out _ (.inl hf)))
    have b1 := rw'.cell 1
    have b2 := rw'.cell 2
    simp only [List.getElem?_toArray, List.getElem?_cons_succ, List.getElem?_cons_zero] at b1 b2
    exact ⟨b1, b2⟩))
  have a0 := ra.cell 0
  have a1 := ra.cell 1
  have a2 := ra.cell 2
  simp only [List.getElem?_toArray, List.getElem?_cons_succ, List.getElem?_cons_zero] at a0 a1 a2
  have d1 := rd.cell 1
  have d2 := rd.cell 2
  simp only [List.getElem?_toArray, List.getElem?_cons_succ, List.getElem?_cons_zero] at d1 d2
  obtain ⟨v, bq, rr, e1, e2, e3, e4, e5⟩ := hold_case (relT s c id) id
  have HV1 := Lib.hid (And.intro e1 (And.intro e2 e3))
  obtain ⟨tb, htb⟩ : ∃ tb, tb = relR s c id := ⟨_, rfl⟩
  have HTB := Lib.hid htb
  rw [← htb] at HT
  clear h r hba hWa ra e1 e2 e3 htb rd
  go_enter Try.func8, Try.ntmps8
  go_wp2_with (first | (rw [← HWa.out]; go_simp))
  refine wp_region_noPanic ?_
  refine wp_region_held_drew (S := fun W' => W'.cell? ⟨w.heap.size, 1, none⟩ = some (.int .i64 c) ∧ W'.cell? ⟨w.heap.size, 2, none⟩ = some (.int .u64 (id : Int))) (by kernel_rfl) ⟨d1, d2⟩ (fun hHeld => ?_)
  refine wpAnyH_take (i := 0) (oi := ⟨some 31, _, _, _, _, _⟩) (v := .pointer (some ⟨g, 0, none⟩)) rfl (by kernel_rfl) (by kernel_rfl) (by kernel_rfl) (fun _ _ _ h => h) (Or.inl ⟨by kernel_rfl, by intro WW hSw; (try dsimp only at hSw); obtain ⟨hS1, hS2⟩ := hSw; go_simp⟩) (by assumption) ?_
  (try simp only [Act.put, List.setIfInBounds_toArray, List.set_cons_zero, List.set_cons_succ])
  refine wpAnyH_take (i := 1) (oi := ⟨some 32, _, _, _, _, _⟩) (v := .pointer (some ⟨w.heap.size, 1, none⟩)) rfl (by kernel_rfl) (by kernel_rfl) (by kernel_rfl) (fun _ _ _ h => h) (Or.inl ⟨by kernel_rfl, by intro WW hSw; (try dsimp only at hSw); obtain ⟨hS1, hS2⟩ := hSw; go_simp⟩) (by assumption) ?_
  (try simp only [Act.put, List.setIfInBounds_toArray, List.set_cons_zero, List.set_cons_succ])
  refine wpAnyH_take (i := 2) (oi := ⟨some 33, _, _, _, _, _⟩) (v := .int .i64 c) rfl (by kernel_rfl) (by kernel_rfl) (by kernel_rfl) (fun _ _ _ h => h) (Or.inl ⟨by kernel_rfl, by intro WW hSw; (try dsimp only at hSw); obtain ⟨hS1, hS2⟩ := hSw; go_simp⟩) (by assumption) ?_
  (try simp only [Act.put, List.setIfInBounds_toArray, List.set_cons_zero, List.set_cons_succ])
  refine wpAnyH_take (i := 3) (oi := ⟨some 34, _, _, _, _, _⟩) (v := .pointer (some ⟨w.heap.size, 2, none⟩)) rfl (by kernel_rfl) (by kernel_rfl) (by kernel_rfl) (fun _ _ _ h => h) (Or.inl ⟨by kernel_rfl, by intro WW hSw; (try dsimp only at hSw); obtain ⟨hS1, hS2⟩ := hSw; go_simp⟩) (by assumption) ?_
  (try simp only [Act.put, List.setIfInBounds_toArray, List.set_cons_zero, List.set_cons_succ])
  refine wpAnyH_take (i := 4) (oi := ⟨some 35, _, _, _, _, _⟩) (v := .int .u64 (id : Int)) rfl (by kernel_rfl) (by kernel_rfl) (by kernel_rfl) (fun _ _ _ h => h) (Or.inl ⟨by kernel_rfl, by intro WW hSw; (try dsimp only at hSw); obtain ⟨hS1, hS2⟩ := hSw; go_simp⟩) (by assumption) ?_
  (try simp only [Act.put, List.setIfInBounds_toArray, List.set_cons_zero, List.set_cons_succ])
  refine wpAnyH_take (i := 6) (oi := ⟨some 37, _, _, _, _, _⟩) (v := .pointer (some ⟨gr, 0, none⟩)) rfl (by kernel_rfl) (by kernel_rfl) (by kernel_rfl) (fun _ _ _ h => h) (Or.inl ⟨by kernel_rfl, by intro WW hSw; (try dsimp only at hSw); obtain ⟨hS1, hS2⟩ := hSw; go_simp⟩) (by assumption) ?_
  (try simp only [Act.put, List.setIfInBounds_toArray, List.set_cons_zero, List.set_cons_succ])
  refine wpAnyH_take (i := 7) (oi := ⟨some 38, _, _, _, _, _⟩) (v := .pointer (some ⟨w.heap.size, 1, none⟩)) rfl (by kernel_rfl) (by kernel_rfl) (by kernel_rfl) (fun _ _ _ h => h) (Or.inl ⟨by kernel_rfl, by intro WW hSw; (try dsimp only at hSw); obtain ⟨hS1, hS2⟩ := hSw; go_simp⟩) (by assumption) ?_
  (try simp only [Act.put, List.setIfInBounds_toArray, List.set_cons_zero, List.set_cons_succ])
  refine wpAnyH_take (i := 8) (oi := ⟨some 39, _, _, _, _, _⟩) (v := .int .i64 c) rfl (by kernel_rfl) (by kernel_rfl) (by kernel_rfl) (fun _ _ _ h => h) (Or.inl ⟨by kernel_rfl, by intro WW hSw; (try dsimp only at hSw); obtain ⟨hS1, hS2⟩ := hSw; go_simp⟩) (by assumption) ?_
  (try simp only [Act.put, List.setIfInBounds_toArray, List.set_cons_zero, List.set_cons_succ])
  refine wpAnyH_take (i := 9) (oi := ⟨some 40, _, _, _, _, _⟩) (v := .pointer (some ⟨w.heap.size, 2, none⟩)) rfl (by kernel_rfl) (by kernel_rfl) (by kernel_rfl) (fun _ _ _ h => h) (Or.inl ⟨by kernel_rfl, by intro WW hSw; (try dsimp only at hSw); obtain ⟨hS1, hS2⟩ := hSw; go_simp⟩) (by assumption) ?_
  (try simp only [Act.put, List.setIfInBounds_toArray, List.set_cons_zero, List.set_cons_succ])
  refine wpAnyH_take (i := 10) (oi := ⟨some 41, _, _, _, _, _⟩) (v := .int .u64 (id : Int)) rfl (by kernel_rfl) (by kernel_rfl) (by kernel_rfl) (fun _ _ _ h => h) (Or.inl ⟨by kernel_rfl, by intro WW hSw; (try dsimp only at hSw); obtain ⟨hS1, hS2⟩ := hSw; go_simp⟩) (by assumption) ?_
  (try simp only [Act.put, List.setIfInBounds_toArray, List.set_cons_zero, List.set_cons_succ])
  refine wpAnyH_ready (rs := [5]) (by kernel_rfl) (by simp) ?_
  refine AllReadyH.cons rfl (fun K hK => ?_) AllReadyH.nil
  go_simp
  refine (HT.out _ HB0.out).mono ?_
  rintro e w1 ⟨rfl, hk1, hb1⟩
  have hr1 := RIs.past (HR.out _ HB0.out) (HK.out _ HB0.out) hb1
  have hbu1 : But w w1 (fun k => kfp g b k ∨ rfp gr vL vW k) := ((But.of_below HB0.out _).trans hb1 (fun k hk => .inl (.inl hk)))
  have hs1 := hbu1.size
  have HT2 := Lib.hid (rRel_all hr1 HOK.out (by omega) (by omega) c id)
  have HRD1 := Lib.hid (hb1.row HRD.out (fun hf => Nat.lt_irrefl _ (HLT.out _ (.inl hf))))
  have HK1 := Lib.hid hk1
  have HR1 := Lib.hid hr1
  have HBU1 := Lib.hid hbu1
  have HSZ1 := Lib.hid (show w.heap.size < w1.heap.size by have := hb1.size; have := HSB.out; omega)
  rw [← HTB.out] at HT2
  refine hK.out _ _ (HS.out _ hb1) (fun hSn => ?_)
  clear hK K hk1 hb1 hr1 hbu1
  (try simp only [Act.put, List.setIfInBounds_toArray, List.set_cons_zero, List.set_cons_succ])
  refine wpAnyH_ready (rs := [11]) (by kernel_rfl) (by simp) ?_
  refine AllReadyH.cons rfl (fun K hK => ?_) AllReadyH.nil
  go_simp
  refine HT2.out.mono ?_
  rintro e w2 ⟨rfl, ⟨vL', hr2, hf2⟩, hb2⟩
  have HK2 := Lib.hid (HK1.out.past HR1.out hb2)
  have HBU2 := Lib.hid (HBU1.out.trans hb2 (fun k hk => .inl (.inr hk)))
  have HFF := Lib.hid (show ∃ vL', RIs w2 B gr (relT s c id) m vL' vW ∧ ∀ k, vL'.ownBlock = some k → vL.ownBlock = some k ∨ w.heap.size ≤ k from ⟨vL', hr2, fun k hk => (hf2 k hk).imp (fun h0 => h0) (fun h1 => Nat.le_trans hs1 h1)⟩)
  have rd2 := hb2.row HRD1.out (fun hf => Nat.lt_irrefl _ (HLT.out _ (.inr hf)))
  have b1 := rd2.cell 1
  have b2 := rd2.cell 2
  simp only [List.getElem?_toArray, List.getElem?_cons_succ, List.getElem?_cons_zero] at b1 b2
  have HH := holder_any HK2.out hi
  rw [HV1.out.1, HV1.out.2.1] at HH
  have HRH := hr2.holder id
  rw [HV1.out.2.2] at HRH
  have HH := Lib.hid HH
  have HRH := Lib.hid HRH
  refine hK.out _ _ ⟨b1, b2⟩ (fun hSn => ?_)
  clear hK K hr2 hf2 hb2 rd2 a0 a1 a2 d1 d2
  (try simp only [Act.put, List.setIfInBounds_toArray, List.set_cons_zero, List.set_cons_succ])
  refine wpAnyH_take (i := 12) (oi := ⟨some 43, _, _, _, _, _⟩) (v := .bool true) rfl (by kernel_rfl) (by kernel_rfl) (by kernel_rfl) (fun _ _ _ h => h) (Or.inl ⟨by kernel_rfl, by intro WW hSw; (try dsimp only at hSw); obtain ⟨hS1, hS2⟩ := hSw; go_simp⟩) (by assumption) ?_
  (try simp only [Act.put, List.setIfInBounds_toArray, List.set_cons_zero, List.set_cons_succ])
  refine wpAnyH_take (i := 13) (oi := ⟨some 8, _, _, _, _, _⟩) (v := .bool true) rfl (by kernel_rfl) (by kernel_rfl) (by kernel_rfl) (fun _ _ _ h => h) (Or.inl ⟨by kernel_rfl, by intro WW hSw; (try dsimp only at hSw); obtain ⟨hS1, hS2⟩ := hSw; go_simp⟩) (by assumption) ?_
  (try simp only [Act.put, List.setIfInBounds_toArray, List.set_cons_zero, List.set_cons_succ])
  refine wpAnyH_done (by kernel_rfl) ?_ _
  simp only [NoPanic, Exit.inBlock, Exit.then]
  refine (‹∀ (a : Act) (w : World), Code.wp Try.prog _ _ a w → _›) _ _ ?_
  go_wp2_with (first
    | (go_at_call 22; refine HH.out.mono ?_; rintro e w3 ⟨rfl, rfl⟩)
    | (go_at_call 23; refine HRH.out.mono ?_; rintro e w3 ⟨rfl, rfl⟩))
  go_ret2
  exact ⟨rfl, HK2.out, HFF.out, HBU2.out⟩
/-- What stands behind a copy. -/
def DoNew (w : World) (B g b gr : Nat) (s : Lk) (m : Nat) (vL vW : Value) (e : Ending) (w' : World) : Prop :=
  ∃ g' b', e = .returned (.tuple #[.pointer (some ⟨g', 0, none⟩), .bool true]) ∧ KAt w' g' b' s ∧ RIs w' B gr s m vL vW ∧ w.heap.size ≤ g' ∧ w.heap.size ≤ b' ∧ Below w.heap.size w w' ∧ KAt w' g b s
set_option maxRecDepth 100000 in
set_option maxHeartbeats 3200000 in
theorem do7_else {w : World} {B g b gr m : Nat} {s : Lk} {vL vW : Value} (h : KAt w g b s) (r : RIs w B gr s m vL vW) (hB : B ≤ w.heap.size) (hm : m ≤ 900) (z : Int) (hz : z < 1 ∨ 4 < z) (c : Int) {id : Nat} (hi : id < 18446744073709551616) :
    Calls Try.prog 8 #[.pointer (some ⟨g, 0, none⟩), .pointer (some ⟨gr, 0, none⟩), .agg #[.int .i64 z, .int .i64 c, .int .u64 (id : Int)]] w (DoPost w B g b gr s m vL vW) := by
  have ra := Row.new w 36 #[.int .i64 z, .int .i64 c, .int .u64 (id : Int)]
  obtain ⟨Wa, hWa⟩ : ∃ Wa, Wa = w.alloc (.cells #[.int .i64 z, .int .i64 c, .int .u64 (id : Int)] 36) := ⟨_, rfl⟩
  rw [← hWa] at ra
  have hba : Below w.heap.size w Wa := by rw [hWa]; exact alloc_below _ _
  have HWa := Lib.hid hWa
  have hka := h.below hba
  have hra := r.below hba
  have HB0 := Lib.hid hba
  have HK := Lib.hid hka
  have HR := Lib.hid hra
  have HRA := Lib.hid ra
  have hs0 : w.heap.size ≤ Wa.heap.size := hba.size
  have HLT := Lib.hid (show ∀ k, kfp g b k ∨ rfp gr vL vW k → k < w.heap.size from by
    obtain ⟨l, wt, hR, _⟩ := r.ex
    rintro k ((rfl | rfl) | hk)
    · exact h.row.lt
    · exact h.mp.lt
    · exact hR.lt k hk)
  have a0 := ra.cell 0
  have a1 := ra.cell 1
  have a2 := ra.cell 2
  simp only [List.getElem?_toArray, List.getElem?_cons_succ, List.getElem?_cons_zero] at a0 a1 a2
  obtain ⟨v, bq, rr, e1, e2, e3, e4, e5⟩ := hold_case (s) id
  have HV1 := Lib.hid (And.intro e1 (And.intro e2 e3))
  clear e1 e2 e3
  have HH := holder_any hka hi
  rw [HV1.out.1, HV1.out.2.1] at HH
  have HRH := hra.holder id
  rw [HV1.out.2.2] at HRH
  have HH := Lib.hid HH
  have HRH := Lib.hid HRH
  have z1 : (z == 1) = false := by simp; omega
  have z2 : (z == 2) = false := by simp; omega
  have z3 : (z == 3) = false := by simp; omega
  have z4 : (z == 4) = false := by simp; omega
  have y1 : decide (z = 1) = false := by simp; omega
  have y2 : decide (z = 2) = false := by simp; omega
  have y3 : decide (z = 3) = false := by simp; omega
  have y4 : decide (z = 4) = false := by simp; omega
  clear h r hba hWa ra hka hra hz
  go_enter Try.func8, Try.ntmps8
  go_wp2_with (first
    | (rw [← HWa.out]; go_simp)
    | (go_at_call 22; refine HH.out.mono ?_; rintro e w3 ⟨rfl, rfl⟩)
    | (go_at_call 23; refine HRH.out.mono ?_; rintro e w3 ⟨rfl, rfl⟩))
  go_ret2
  exact ⟨rfl, HK.out, ⟨vL, HR.out, fun k hk => .inl hk⟩, But.of_below HB0.out _⟩
set_option maxRecDepth 100000 in
set_option maxHeartbeats 3200000 in
theorem do7_drop {w : World} {B g b gr m : Nat} {s : Lk} {vL vW : Value} (h : KAt w g b s) (r : RIs w B gr s m vL vW) (hB : B ≤ w.heap.size) (hm : m ≤ 900) (c : Int) {id : Nat} (hi : id < 18446744073709551616) :
    Calls Try.prog 8 #[.pointer (some ⟨g, 0, none⟩), .pointer (some ⟨gr, 0, none⟩), .agg #[.int .i64 3, .int .i64 c, .int .u64 (id : Int)]] w (DoPost w B g b gr (dropT s c) m vL vW) := by
  have ra := Row.new w 36 #[.int .i64 3, .int .i64 c, .int .u64 (id : Int)]
  obtain ⟨Wa, hWa⟩ : ∃ Wa, Wa = w.alloc (.cells #[.int .i64 3, .int .i64 c, .int .u64 (id : Int)] 36) := ⟨_, rfl⟩
  rw [← hWa] at ra
  have hba : Below w.heap.size w Wa := by rw [hWa]; exact alloc_below _ _
  have HWa := Lib.hid hWa
  have hka := h.below hba
  have hra := r.below hba
  have HB0 := Lib.hid hba
  have HK := Lib.hid hka
  have HR := Lib.hid hra
  have HRA := Lib.hid ra
  have hs0 : w.heap.size ≤ Wa.heap.size := hba.size
  have HLT := Lib.hid (show ∀ k, kfp g b k ∨ rfp gr vL vW k → k < w.heap.size from by
    obtain ⟨l, wt, hR, _⟩ := r.ex
    rintro k ((rfl | rfl) | hk)
    · exact h.row.lt
    · exact h.mp.lt
    · exact hR.lt k hk)
  have a0 := ra.cell 0
  have a1 := ra.cell 1
  have a2 := ra.cell 2
  simp only [List.getElem?_toArray, List.getElem?_cons_succ, List.getElem?_cons_zero] at a0 a1 a2
  obtain ⟨v, bq, rr, e1, e2, e3, e4, e5⟩ := hold_case (dropT s c) id
  have HV1 := Lib.hid (And.intro e1 (And.intro e2 e3))
  clear e1 e2 e3
  have HD := Lib.hid (drop_all hka c)
  clear h r hba hWa ra hka hra
  go_enter Try.func8, Try.ntmps8
  go_wp2_with (first | (rw [← HWa.out]; go_simp))
  refine HD.out.mono ?_
  rintro e w1 ⟨rfl, hk1, hb1⟩
  have hr1 := RIs.past HR.out HK.out hb1
  have hbu1 : But w w1 (fun k => kfp g b k ∨ rfp gr vL vW k) := ((But.of_below HB0.out _).trans hb1 (fun k hk => .inl (.inl hk)))
  have hs1 := hbu1.size
  have HT2 := Lib.hid (rDrop_all hr1 (by omega) (by omega) c)
  have HRD1 := Lib.hid (hb1.row HRA.out (fun hf => Nat.lt_irrefl _ (HLT.out _ (.inl hf))))
  have HK1 := Lib.hid hk1
  have HR1 := Lib.hid hr1
  have HBU1 := Lib.hid hbu1
  have b1 := HRD1.out.cell 1
  have b2 := HRD1.out.cell 2
  simp only [List.getElem?_toArray, List.getElem?_cons_succ, List.getElem?_cons_zero] at b1 b2
  clear hk1 hb1 hr1 hbu1 a0 a1 a2
  go_wp2_with fail
  refine HT2.out.mono ?_
  rintro e w2 ⟨rfl, ⟨vL', hr2, hf2⟩, hb2⟩
  have HK2 := Lib.hid (HK1.out.past HR1.out hb2)
  have HBU2 := Lib.hid (HBU1.out.trans hb2 (fun k hk => .inl (.inr hk)))
  have HFF := Lib.hid (show ∃ vL', RIs w2 B gr (dropT s c) m vL' vW ∧ ∀ k, vL'.ownBlock = some k → vL.ownBlock = some k ∨ w.heap.size ≤ k from ⟨vL', hr2, fun k hk => (hf2 k hk).imp (fun h0 => h0) (fun h1 => Nat.le_trans hs1 h1)⟩)
  have rd2 := hb2.row HRD1.out (fun hf => Nat.lt_irrefl _ (HLT.out _ (.inr hf)))
  have b1 := rd2.cell 1
  have b2 := rd2.cell 2
  simp only [List.getElem?_toArray, List.getElem?_cons_succ, List.getElem?_cons_zero] at b1 b2
  have HH := holder_any HK2.out hi
  rw [HV1.out.1, HV1.out.2.1] at HH
  have HRH := hr2.holder id
  rw [HV1.out.2.2] at HRH
  have HH := Lib.hid HH
  have HRH := Lib.hid HRH
  clear hr2 hf2 hb2 rd2
  go_wp2_with (first
    | (go_at_call 22; refine HH.out.mono ?_; rintro e w3 ⟨rfl, rfl⟩)
    | (go_at_call 23; refine HRH.out.mono ?_; rintro e w3 ⟨rfl, rfl⟩))
  go_ret2
  exact ⟨rfl, HK2.out, HFF.out, HBU2.out⟩
set_option maxRecDepth 100000 in
set_option maxHeartbeats 3200000 in
theorem do7_copy {w : World} {B g b gr m : Nat} {s : Lk} {vL vW : Value} (h : KAt w g b s) (r : RIs w B gr s m vL vW) (hB : B ≤ w.heap.size) (hm : m ≤ 900) (c : Int) {id : Nat} (hi : id < 18446744073709551616) :
    Calls Try.prog 8 #[.pointer (some ⟨g, 0, none⟩), .pointer (some ⟨gr, 0, none⟩), .agg #[.int .i64 4, .int .i64 c, .int .u64 (id : Int)]] w (DoNew w B g b gr s m vL vW) := by
  have ra := Row.new w 36 #[.int .i64 4, .int .i64 c, .int .u64 (id : Int)]
  obtain ⟨Wa, hWa⟩ : ∃ Wa, Wa = w.alloc (.cells #[.int .i64 4, .int .i64 c, .int .u64 (id : Int)] 36) := ⟨_, rfl⟩
  rw [← hWa] at ra
  have hba : Below w.heap.size w Wa := by rw [hWa]; exact alloc_below _ _
  have HWa := Lib.hid hWa
  have hka := h.below hba
  have hra := r.below hba
  have HB0 := Lib.hid hba
  have HK := Lib.hid hka
  have HR := Lib.hid hra
  have HRA := Lib.hid ra
  have hs0 : w.heap.size ≤ Wa.heap.size := hba.size
  have HLT := Lib.hid (show ∀ k, kfp g b k ∨ rfp gr vL vW k → k < w.heap.size from by
    obtain ⟨l, wt, hR, _⟩ := r.ex
    rintro k ((rfl | rfl) | hk)
    · exact h.row.lt
    · exact h.mp.lt
    · exact hR.lt k hk)
  have a0 := ra.cell 0
  have a1 := ra.cell 1
  have a2 := ra.cell 2
  simp only [List.getElem?_toArray, List.getElem?_cons_succ, List.getElem?_cons_zero] at a0 a1 a2
  obtain ⟨v, bq, rr, e1, e2, e3, e4, e5⟩ := hold_case (s) id
  have HV1 := Lib.hid (And.intro e1 (And.intro e2 e3))
  clear e1 e2 e3
  have HD := Lib.hid (copy_any hka)
  clear h r hba hWa ra hka hra
  go_enter Try.func8, Try.ntmps8
  go_wp2_with (first | (rw [← HWa.out]; go_simp))
  refine HD.out.mono ?_
  rintro e w1 ⟨g', b', rfl, ho⟩
  have hb1 := ho.bel
  have hr1 := HR.out.below hb1
  have rd1 := HRA.out.below hb1 HRA.out.lt
  have b1 := rd1.cell 1
  have b2 := rd1.cell 2
  simp only [List.getElem?_toArray, List.getElem?_cons_succ, List.getElem?_cons_zero] at b1 b2
  have HH := holder_any ho.at_ hi
  rw [HV1.out.1, HV1.out.2.1] at HH
  have HRH := hr1.holder id
  rw [HV1.out.2.2] at HRH
  have HH := Lib.hid HH
  have HRH := Lib.hid HRH
  have HFIN := Lib.hid (show KAt w1 g' b' s ∧ RIs w1 B gr s m vL vW ∧ w.heap.size ≤ g' ∧ w.heap.size ≤ b' ∧ Below w.heap.size w w1 ∧ KAt w1 g b s from ⟨ho.at_, hr1, Nat.le_trans hs0 ho.lg, Nat.le_trans hs0 ho.lb, Below.and HB0.out hb1, HK.out.below hb1⟩)
  clear ho hb1 hr1 rd1 a0 a1 a2
  go_wp2_with (first
    | (go_at_call 22; refine HH.out.mono ?_; rintro e w3 ⟨rfl, rfl⟩)
    | (go_at_call 23; refine HRH.out.mono ?_; rintro e w3 ⟨rfl, rfl⟩))
  go_ret2
  exact ⟨g', b', rfl, HFIN.out⟩
end Go.Proofs.Ytgclbeagifoifaa
