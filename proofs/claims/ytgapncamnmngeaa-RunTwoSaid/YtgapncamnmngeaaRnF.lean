/- A run's flush, its fence, its end, and its store where that may not be. -/
import Derived.Test.YtgapncamnmngeaaRnM
namespace Go.Proofs.Ytgapncamnmngeaa
open Go.RowKit Go.Shelf
set_option linter.unusedVariables false
attribute [local go_sem] Oper.semAt_some

/-- What a step leaves that turns no stores. -/
def RflPost (w : World) (y : Lay) (s' : St) (rg : Nat) (cs : Array Value) (w' : World) : Prop := ∃ y', MemAt w' y' s' ∧ Row w' rg 66 cs ∧ RT w w' y y' rg
set_option maxRecDepth 100000 in
set_option maxHeartbeats 1600000 in
theorem rflush_any {w : World} {y : Lay} {s : St} (h : MemAt w y s) (ok : s.Ok) {rg c line : Nat} {V : Value} {d : Bool} {k : Int}
    (hr : Row w rg 66 (rcells (some ⟨y.g, 0, none⟩) c V line (nextV 46 rg) d k)) (sep : ¬ y.fp rg) (hc : c ≤ 64) (h8 : line % 8 = 0) (h64 : line < 64 * s.nl) :
    Calls Try.prog 46 #[.pointer (some ⟨rg, 0, none⟩)] w fun e w' => e = .returned (.int .i64 0) ∧ RflPost w y (s.flush c line) rg (rcells (some ⟨y.g, 0, none⟩) c V line (nextV 51 rg) d k) w' := by
  have mixed : Try.prog.follows .mixedOrders = true := by kernel_rfl
  have c4 := hr.cell 4
  have f4 := hr.free 4
  simp only [rcells, List.getElem?_toArray, List.getElem?_cons_succ, List.getElem?_cons_zero] at c4
  unfold nextV at c4
  obtain ⟨W1, hW1⟩ : ∃ W1, W1 = w.setCell ⟨rg, 4, none⟩ (.func (.func 51) #[.pointer (some ⟨rg, 0, none⟩)] #[]) := ⟨_, rfl⟩
  have hm1 : MemAt W1 y s := by rw [hW1]; exact h.rset sep 4 _
  have hr1 : Row W1 rg 66 (rcells (some ⟨y.g, 0, none⟩) c V line (nextV 51 rg) d k) := by rw [hW1]; exact hr.set 4 _
  have T1 : RT w W1 y y rg := by rw [hW1]; exact RT.set y rg 4 _
  have k0 := hr1.cell 0
  have k1 := hr1.cell 1
  have k3 := hr1.cell 3
  simp only [rcells, List.getElem?_toArray, List.getElem?_cons_succ, List.getElem?_cons_zero] at k0 k1 k3
  have ca := fun p : LowBy W1 => p.cell k0
  have cb := fun p : LowBy W1 => p.cell k1
  have cc := fun p : LowBy W1 => p.cell k3
  have HS := Lib.hid fun (p : LowBy W1) => flush_ok (hm1.below p.low) ok c line hc h8 h64
  have HE := Lib.hid (show ∀ (p : LowBy W1) (w' : World), (∃ y', MemAt w' y' (s.flush c line) ∧ Turn p.W w' y y') → RflPost w y (s.flush c line) rg (rcells (some ⟨y.g, 0, none⟩) c V line (nextV 51 rg) d k) w' from fun p w' ⟨y', hm', ht'⟩ =>
    ⟨y', hm', ht'.but.row (hr1.below p.low hr1.lt) sep, (T1.trans (RT.of_below y rg p.low)).trans (RT.of_turn rg ht')⟩)
  clear h hr hm1 hr1 T1 k0 k1 k3 ok hc h8 h64
  go_enter Try.func46, Try.ntmps46
  go_wp2_with fail
  rw [← hW1]
  refine wp_region_low_tail 12 (by assumption) (by kernel_rfl) ?_
  simp only [List.take_succ_cons, List.take_zero, List.drop_succ_cons, List.drop_zero]
  repeat (go_big_quiet_step (fail))
  refine wpQuiet_nil ?_
  intro _ hw'
  obtain ⟨p, hw''⟩ := hw'
  subst hw''
  clear ca cb cc hW1 c4 f4
  go_wp2_with fail
  refine (HS.out p).mono ?_
  rintro e w2 ⟨rfl, hpost⟩
  have HF := Lib.hid (HE.out p w2 hpost)
  clear HE HS hpost
  go_wp2
  go_ret
  exact ⟨rfl, HF.out⟩

set_option maxRecDepth 100000 in
set_option maxHeartbeats 1600000 in
theorem rfence_any {w : World} {y : Lay} {s : St} (h : MemAt w y s) (ok : s.Ok) {rg c n cap : Nat} {line : Int} {A : Option Addr} {d : Bool} {k : Int}
    (hr : Row w rg 66 (rcells (some ⟨y.g, 0, none⟩) c (.slice A n cap) line (nextV 51 rg) d k)) (sep : ¬ y.fp rg) (hc : c ≤ 64) (hfe : s.fe + 1 < 9223372036854775808) (D : Bool) (hD : D = ((n : Int) == 0)) :
    Calls Try.prog 51 #[.pointer (some ⟨rg, 0, none⟩)] w fun e w' => e = .returned (.int .i64 0) ∧ RflPost w y (s.fence c) rg (rcells (some ⟨y.g, 0, none⟩) c (.slice A n cap) line (nextV 30 rg) D k) w' := by
  have mixed : Try.prog.follows .mixedOrders = true := by kernel_rfl
  have c2 := hr.cell 2
  have c4 := hr.cell 4
  have c5 := hr.cell 5
  have f4 := hr.free 4
  have f5 := hr.free 5
  simp only [rcells, List.getElem?_toArray, List.getElem?_cons_succ, List.getElem?_cons_zero] at c2 c4 c5
  unfold nextV at c4
  obtain ⟨W1, hW1⟩ : ∃ W1, W1 = (w.setCell ⟨rg, 4, none⟩ (.func (.func 30) #[.pointer (some ⟨rg, 0, none⟩)] #[])).setCell ⟨rg, 5, none⟩ (.bool D) := ⟨_, rfl⟩
  have hm1 : MemAt W1 y s := by rw [hW1]; exact (h.rset sep 4 _).rset sep 5 _
  have hr1 : Row W1 rg 66 (rcells (some ⟨y.g, 0, none⟩) c (.slice A n cap) line (nextV 30 rg) D k) := by rw [hW1]; exact (hr.set 4 _).set 5 _
  have T1 : RT w W1 y y rg := by rw [hW1]; exact (RT.set y rg 4 _).trans (RT.set y rg 5 _)
  have k0 := hr1.cell 0
  have k1 := hr1.cell 1
  simp only [rcells, List.getElem?_toArray, List.getElem?_cons_succ, List.getElem?_cons_zero] at k0 k1
  have ca := fun p : LowBy W1 => p.cell k0
  have cb := fun p : LowBy W1 => p.cell k1
  have HS := Lib.hid fun (p : LowBy W1) => fence_ok (hm1.below p.low) ok c hc hfe
  have HE := Lib.hid (show ∀ (p : LowBy W1) (w' : World), (∃ y', MemAt w' y' (s.fence c) ∧ Turn p.W w' y y') → RflPost w y (s.fence c) rg (rcells (some ⟨y.g, 0, none⟩) c (.slice A n cap) line (nextV 30 rg) D k) w' from fun p w' ⟨y', hm', ht'⟩ =>
    ⟨y', hm', ht'.but.row (hr1.below p.low hr1.lt) sep, (T1.trans (RT.of_below y rg p.low)).trans (RT.of_turn rg ht')⟩)
  clear h hr hm1 hr1 T1 k0 k1 ok hc hfe
  have hD2 := hD.symm
  clear hD
  go_enter Try.func51, Try.ntmps51
  go_wp2_with fail
  rw [← hW1]
  refine wp_region_low_tail 8 (by assumption) (by kernel_rfl) ?_
  simp only [List.take_succ_cons, List.take_zero, List.drop_succ_cons, List.drop_zero]
  repeat (go_big_quiet_step (fail))
  refine wpQuiet_nil ?_
  intro _ hw'
  obtain ⟨p, hw''⟩ := hw'
  subst hw''
  clear ca cb hW1 c4 f4 c2 c5 f5
  go_wp2_with fail
  refine (HS.out p).mono ?_
  rintro e w2 ⟨rfl, hpost⟩
  have HF := Lib.hid (HE.out p w2 hpost)
  clear HE HS hpost
  go_wp2
  go_ret
  exact ⟨rfl, HF.out⟩

set_option maxRecDepth 100000 in
set_option maxHeartbeats 1600000 in
theorem rend_any {w : World} {rg : Nat} {c line : Int} {V : Value} {d : Bool} {k : Int} {p : Option Addr}
    (hr : Row w rg 66 (rcells p c V line (nextV 31 rg) d k)) :
    Calls Try.prog 31 #[.pointer (some ⟨rg, 0, none⟩)] w fun e w' => e = .returned (.int .i64 0) ∧ w.setCell ⟨rg, 5, none⟩ (.bool true) = w' := by
  have c5 := hr.cell 5
  have f5 := hr.free 5
  simp only [rcells, List.getElem?_toArray, List.getElem?_cons_succ, List.getElem?_cons_zero] at c5
  clear hr
  go_enter Try.func31, Try.ntmps31
  go_wp2
  go_ret
  exact ⟨rfl, rfl⟩

set_option maxRecDepth 100000 in
set_option maxHeartbeats 1600000 in
theorem rstore_bad {w : World} {y : Lay} {s : St} (h : MemAt w y s) {rg a v : Nat} {c line : Int} {t : List (Nat × Nat)} {V : Value} {d : Bool} {k : Int}
    (hr : Row w rg 66 (rcells (some ⟨y.g, 0, none⟩) c V line (nextV 30 rg) d k)) (ha : Ahead w V ((a, v) :: t))
    (hbad : a % 8 ≠ 0 ∨ 64 * s.nl ≤ a) :
    Calls Try.prog 30 #[.pointer (some ⟨rg, 0, none⟩)] w fun e w' => e = .returned (.int .i64 3) ∧ Below w.heap.size w w' := by
  rcases ha with ⟨e, _⟩ | ⟨_, g, off, cap, rfl, hlc, hcm, hcell⟩
  · cases e
  have c2 := hr.cell 2
  simp only [rcells, List.getElem?_toArray, List.getElem?_cons_succ, List.getElem?_cons_zero] at c2
  have p0 := hcell 0 (wv a) rfl
  have p1 := hcell 1 (wv v) rfl
  simp only [Nat.add_zero] at p0
  unfold wv at p0 p1
  simp only [List.length_cons] at c2 hlc
  obtain ⟨W1, hW1⟩ : ∃ W1, W1 = w.alloc (.cells #[.int .u64 (a : Int), .int .u64 (v : Int)] 32) := ⟨_, rfl⟩
  have hb1 : Below w.heap.size w W1 := by rw [hW1]; exact alloc_below _ _
  have hp1 : Row W1 w.heap.size 32 #[.int .u64 (a : Int), .int .u64 (v : Int)] := by rw [hW1]; exact Row.new _ _ _
  have hr1 := hr.below hb1 hr.lt
  have k0 := hr1.cell 0
  have k1 := hp1.cell 0
  have k2 := hp1.cell 1
  simp only [rcells, List.getElem?_toArray, List.getElem?_cons_succ, List.getElem?_cons_zero] at k0 k1 k2
  have ca := fun p : LowBy W1 => p.cell k0
  have cb := fun p : LowBy W1 => p.cell k1
  have cc := fun p : LowBy W1 => p.cell k2
  have mixed : Try.prog.follows .mixedOrders = true := by kernel_rfl
  have HST := Lib.hid fun (p : LowBy W1) => store_range (h.below (hb1.trans (p.low.mono hb1.size))) a (v : Int) hbad
  have HB1 := Lib.hid hb1
  clear h hr hr1 hp1 k0 k1 k2 hcell hb1 hbad
  go_enter Try.func30, Try.ntmps30
  go_wp2_with fail
  rw [← hW1]
  refine wp_region_low_tail 8 (by assumption) (by kernel_rfl) ?_
  simp only [List.take_succ_cons, List.take_zero, List.drop_succ_cons, List.drop_zero]
  repeat (go_big_quiet_step (fail))
  refine wpQuiet_nil ?_
  intro _ hw'
  obtain ⟨p, hw''⟩ := hw'
  subst hw''
  clear ca cb cc
  go_wp2_with fail
  refine (HST.out p).mono ?_
  rintro e w2 ⟨rfl, rfl⟩
  have HF := Lib.hid (Below.and HB1.out p.low)
  clear HST HB1 hW1 c2 p0 p1
  go_wp2
  go_ret
  exact ⟨rfl, HF.out⟩
end Go.Proofs.Ytgapncamnmngeaa
