/- What a run does next: a store, a flush, a fence, the end; for stores that may be. -/
import Derived.Test.YtgapncamnmngeaaRnE
import Derived.Test.YtgapncamnmngeaaPFence
namespace Go.Proofs.Ytgapncamnmngeaa
open Go.RowKit Go.Shelf
set_option linter.unusedVariables false
attribute [local go_sem] Oper.semAt_some

theorem geoLine_any {a : Nat} (h1 : a < 18446744073709551616) (w : World) : Calls Try.prog 45 #[.int .u64 (a : Int)] w fun e w' => e = .returned (.int .u64 ((a / 64 * 64 : Nat) : Int)) ∧ w = w' := by
  have e : (a : Int) - (a : Int) % 64 = ((a / 64 * 64 : Nat) : Int) := by omega
  have e2 : (0 : Int) ≤ (a : Int) - (a : Int) % 64 := by omega
  go_enter Try.func45, Try.ntmps45
  go_wp2
  go_ret
  exact ⟨by rw [show ((a / 64 * 64 : Nat) : Int) = (a : Int) / 64 * 64 from by omega]; rfl, rfl⟩

/-- What a step of a run turns: the memory's blocks, the run's own; new ones may come. -/
structure RT (w w' : World) (y y' : Lay) (rg : Nat) : Prop where
  g : y'.g = y.g
  but : But w w' (fun k => y.fp k ∨ k = rg)
  fp : ∀ k, y'.fp k → y.fp k ∨ w.heap.size ≤ k
theorem RT.of_turn {w w' : World} {y y' : Lay} (rg : Nat) (t : Turn w w' y y') : RT w w' y y' rg := ⟨t.g, t.but.mono fun k h => .inl h, t.fp⟩
theorem RT.trans {w w1 w2 : World} {y y1 y2 : Lay} {rg : Nat} (h : RT w w1 y y1 rg) (h2 : RT w1 w2 y1 y2 rg) : RT w w2 y y2 rg :=
  ⟨h2.g.trans h.g, h.but.trans h2.but fun k hk => by
    rcases hk with hk | hk
    · rcases h.fp k hk with h3 | h3
      · exact .inl (.inl h3)
      · exact .inr h3
    · exact .inl (.inr hk), fun k hk => by
    rcases h2.fp k hk with h3 | h3
    · exact h.fp k h3
    · exact .inr (Nat.le_trans h.but.size h3)⟩
theorem RT.set {w : World} (y : Lay) (rg i : Nat) (u : Value) : RT w (w.setCell ⟨rg, i, none⟩ u) y y rg := ⟨rfl, (But.refl w _).set (.inr rfl) u, fun _ h => .inl h⟩
theorem RT.of_below {w w' : World} (y : Lay) (rg : Nat) (h : Below w.heap.size w w') : RT w w' y y rg := ⟨rfl, But.of_below h _, fun _ h => .inl h⟩
theorem MemAt.rset {w : World} {y : Lay} {s : St} (h : MemAt w y s) {rg : Nat} (hn : ¬ y.fp rg) (i : Nat) (u : Value) : MemAt (w.setCell ⟨rg, i, none⟩ u) y s :=
  h.same fun k hk => heap_setCell_other w _ k u (fun e => hn (by have e' : k = rg := e; rw [← e']; exact hk))

/-- Whether a group ends behind a store at a, with these ahead. -/
def ends (a : Nat) : List (Nat × Nat) → Bool
  | [] => true
  | p :: _ => !(p.1 / 64 * 64 == a / 64 * 64)

/-- What follows a store at a, with these ahead. -/
def stNext (a : Nat) (t : List (Nat × Nat)) : Nat := if ends a t then 46 else 30
/-- What a run's store leaves. -/
def RstPost (w : World) (y : Lay) (s' : St) (rg : Nat) (p : Option Addr) (c L : Int) (f : Nat) (d : Bool) (k : Int) (t : List (Nat × Nat)) (ob : Option Nat) (w' : World) : Prop :=
  ∃ y' V', MemAt w' y' s' ∧ Row w' rg 66 (rcells p c V' L (nextV f rg) d k) ∧ Ahead w' V' t ∧ (t ≠ [] → V'.ownBlock = ob) ∧ RT w w' y y' rg
theorem rstore_fin {w w2 W : World} {y y2 : Lay} {s s' : St} {rg : Nat} {c L : Int} {V : Value} {t : List (Nat × Nat)} {d : Bool} {k : Int} {p : Option Addr} {u1 u2 : Value}
    (h : MemAt w y s) (h2 : MemAt w2 y2 s') (T : Turn w w2 y y2) (hb : Below (((w2.setCell ⟨rg, 2, none⟩ u1).setCell ⟨rg, 3, none⟩ u2).drew).heap.size (((w2.setCell ⟨rg, 2, none⟩ u1).setCell ⟨rg, 3, none⟩ u2).drew) W)
    (hr : Row (((w2.setCell ⟨rg, 2, none⟩ u1).setCell ⟨rg, 3, none⟩ u2).drew) rg 66 (rcells p c V L (nextV 30 rg) d k)) (sep : ¬ y.fp rg) (hrl : rg < w.heap.size) (hA : Ahead w V t) (hAs : ∀ b, V.ownBlock = some b → t ≠ [] → ¬ y.fp b ∧ b ≠ rg) :
    (MemAt W y2 s' ∧ Row W rg 66 (rcells p c V L (nextV 30 rg) d k) ∧ Ahead W V t ∧ RT w W y y2 rg) ∧
    (MemAt (W.setCell ⟨rg, 4, none⟩ (nextV 46 rg)) y2 s' ∧ Row (W.setCell ⟨rg, 4, none⟩ (nextV 46 rg)) rg 66 (rcells p c V L (nextV 46 rg) d k) ∧ Ahead (W.setCell ⟨rg, 4, none⟩ (nextV 46 rg)) V t ∧ RT w (W.setCell ⟨rg, 4, none⟩ (nextV 46 rg)) y y2 rg) := by
  have sep2 : ¬ y2.fp rg := fun hf => by
    rcases T.fp rg hf with h1 | h1
    · exact sep h1
    · omega
  have m3 : MemAt (((w2.setCell ⟨rg, 2, none⟩ u1).setCell ⟨rg, 3, none⟩ u2).drew) y2 s' := ((h2.rset sep2 2 u1).rset sep2 3 u2).below (drew_below _)
  have mW := m3.below hb
  have T2 : RT w w2 y y2 rg := RT.of_turn rg T
  have T3 : RT w (((w2.setCell ⟨rg, 2, none⟩ u1).setCell ⟨rg, 3, none⟩ u2).drew) y y2 rg := ((T2.trans (RT.set y2 rg 2 u1)).trans (RT.set y2 rg 3 u2)).trans (RT.of_below y2 rg (drew_below _))
  have T4 := T3.trans (RT.of_below y2 rg hb)
  have T5 := T4.trans (RT.set y2 rg 4 (nextV 46 rg))
  have rW := hr.below hb hr.lt
  have ah : ∀ W' y', RT w W' y y' rg → Ahead W' V t := fun W' y' T' => by
    by_cases h0 : t = []
    · rcases hA with h1 | ⟨h1, _⟩
      · exact .inl h1
      · exact absurd h0 h1
    · exact hA.same fun b hb' => T'.but.block b (hA.lt h0 hb') (by
        rintro (h1 | h1)
        · exact (hAs b hb' h0).1 h1
        · exact (hAs b hb' h0).2 h1)
  exact ⟨⟨mW, rW, ah _ _ T4, T4⟩, mW.rset sep2 4 _, rW.set 4 _, ah _ _ T5, T5⟩

set_option maxRecDepth 100000 in
set_option maxHeartbeats 3200000 in
theorem rstore_any {w : World} {y : Lay} {s : St} (h : MemAt w y s) {rg a v : Nat} {c line : Int} {t : List (Nat × Nat)} {V : Value} {d : Bool} {k : Int}
    (hr : Row w rg 66 (rcells (some ⟨y.g, 0, none⟩) c V line (nextV 30 rg) d k)) (ha : Ahead w V ((a, v) :: t)) (sep : ¬ y.fp rg) (vsep : ∀ b, V.ownBlock = some b → ¬ y.fp b ∧ b ≠ rg)
    (h8 : a % 8 = 0) (h64 : a < 64 * s.nl) (hv : v < 18446744073709551616) (hst : s.st < 9223372036854775808) (hn : ∀ l ∈ s.pend, l.length ≤ 1000000000) (ht : ∀ p ∈ t, p.1 < 18446744073709551616) :
    Calls Try.prog 30 #[.pointer (some ⟨rg, 0, none⟩)] w fun e w' => e = .returned (.int .i64 0) ∧ RstPost w y (s.store a v) rg (some ⟨y.g, 0, none⟩) c ((a / 64 * 64 : Nat) : Int) (stNext a t) d k t V.ownBlock w' := by
  have hmost := h.most
  have HL0 := Lib.hid fun W => geoLine_any (a := a) (by omega) W
  obtain ⟨L, hL⟩ : ∃ L, L = ((a / 64 * 64 : Nat) : Int) := ⟨_, rfl⟩
  rw [← hL] at HL0 ⊢
  have HLE := Lib.hid hL
  clear hL
  have HL := HL0
  clear HL0
  have hlen1 : (1 : Int) ≤ (t.length : Int) + 1 := by omega
  have HA := Lib.hid ha
  rcases ha with ⟨e, _⟩ | ⟨_, g, off, cap, rfl, hlc, hcm, hcell⟩
  · cases e
  obtain ⟨hs1, hs2⟩ := vsep g rfl
  have c0 := hr.cell 0
  have c2 := hr.cell 2
  simp only [rcells, List.getElem?_toArray, List.getElem?_cons_succ, List.getElem?_cons_zero] at c0 c2
  obtain ⟨P2, hP2⟩ : ∃ P2 : Option Addr, P2 = (if cap = 1 then some ⟨g, off, none⟩ else some ⟨g, off + 2, none⟩) := ⟨_, rfl⟩
  have hP3 : t ≠ [] → P2 = some ⟨g, off + 2, none⟩ := fun h0 => by
    have := List.length_pos_iff.2 h0
    rw [hP2, if_neg (by simp only [List.length_cons] at hlc; omega)]
  have p0 := hcell 0 (wv a) rfl
  have p1 := hcell 1 (wv v) rfl
  simp only [Nat.add_zero] at p0
  unfold wv at p0 p1
  simp only [List.length_cons] at c2 hlc
  obtain ⟨W1, hW1⟩ : ∃ W1, W1 = w.alloc (.cells #[.int .u64 (a : Int), .int .u64 (v : Int)] 32) := ⟨_, rfl⟩
  have hb1 : Below w.heap.size w W1 := by rw [hW1]; exact alloc_below _ _
  have hp1 : Row W1 w.heap.size 32 #[.int .u64 (a : Int), .int .u64 (v : Int)] := by rw [hW1]; exact Row.new _ _ _
  have hr1 := hr.below hb1 hr.lt
  have k0 := hr1.cell 0
  have k1 := hp1.cell 0
  have k2 := hp1.cell 1
  simp only [rcells, List.getElem?_toArray, List.getElem?_cons_succ, List.getElem?_cons_zero] at k0 k1 k2
  have ca := fun p : LowBy W1 => p.cell k0
  have cb := fun p : LowBy W1 => p.cell k1
  have cc := fun p : LowBy W1 => p.cell k2
  have mixed : Try.prog.follows .mixedOrders = true := by kernel_rfl
  have HST := Lib.hid fun (p : LowBy W1) => store_ok (h.below (hb1.trans (p.low.mono hb1.size))) a v h8 h64 hv hst hn
  have HM := Lib.hid h
  have HR := Lib.hid hr
  have HB1 := Lib.hid hb1
  have HCL := Lib.hid hcell
  have hgs : g < w.heap.size := block_lt_of_cell p0
  have HRL := Lib.hid hr.lt
  have HAH := Lib.hid (show Ahead w (.slice P2 t.length (cap - 1)) t from by
    cases t with
    | nil => exact .inl ⟨rfl, _, _, rfl, by omega⟩
    | cons bu t' =>
      refine .inr ⟨by simp, g, off + 2, cap - 1, by rw [hP3 (by simp)], by simp only [List.length_cons] at hlc ⊢; omega, by omega, fun i u hu => ?_⟩
      have := hcell (i + 2) u (by rw [flat_cons]; exact hu)
      rw [show off + 2 + i = off + (i + 2) from by omega]
      exact this)
  have HAS := Lib.hid (show ∀ b, (Value.slice P2 t.length (cap - 1)).ownBlock = some b → t ≠ [] → ¬ y.fp b ∧ b ≠ rg from fun b hb h0 => by
    rw [hP3 h0] at hb
    exact vsep b hb)
  have HP2 := Lib.hid hP2
  have HP3 := Lib.hid hP3
  clear hP2 hP3
  clear h hr hr1 hp1 k0 k1 k2 hcell hb1 hst hn hv h8
  go_enter Try.func30, Try.ntmps30
  go_wp2_with fail
  rw [← hW1]
  refine wp_region_low_tail 8 (by assumption) (by kernel_rfl) ?_
  simp only [List.take_succ_cons, List.take_zero, List.drop_succ_cons, List.drop_zero]
  repeat (go_big_quiet_step (fail))
  refine wpQuiet_nil ?_
  intro _ hw'
  obtain ⟨p, hw''⟩ := hw'
  subst hw''
  clear ca cb cc
  go_wp2_with fail
  refine (HST.out p).mono ?_
  rintro e w2 ⟨rfl, y2, hm2, ht2⟩
  have T2 : Turn w w2 y y2 := (Turn.of_below y (Below.and HB1.out p.low)).trans ht2
  have B2 := T2.but
  have hr2 : Row w2 rg 66 (rcells (some ⟨y.g, 0, none⟩) c (.slice (some ⟨g, off, none⟩) (t.length + 1) cap) line (nextV 30 rg) d k) := B2.row HR.out sep
  have hp2 : Row w2 w.heap.size 32 #[.int .u64 (a : Int), .int .u64 (v : Int)] := by
    have r1 : Row W1 w.heap.size 32 #[.int .u64 (a : Int), .int .u64 (v : Int)] := by rw [hW1]; exact Row.new _ _ _
    exact ht2.but.row (r1.below p.low r1.lt) (fun hf => Nat.lt_irrefl _ (HM.out.lt _ hf))
  have j2 := hr2.cell 2
  have j3 := hr2.cell 3
  have j4 := hr2.cell 4
  simp only [rcells, List.getElem?_toArray, List.getElem?_cons_succ, List.getElem?_cons_zero] at j2 j3 j4
  have l2 := hr2.free 2
  have l3 := hr2.free 3
  have l4 := hr2.free 4
  have m0 := hp2.cell 0
  simp only [List.getElem?_toArray, List.getElem?_cons_succ, List.getElem?_cons_zero] at m0
  have HM2 := Lib.hid hm2
  have HT2 := Lib.hid T2
  have HR2 := Lib.hid hr2
  have HSZ := Lib.hid (show w.heap.size ≤ w2.heap.size from B2.size)
  clear hm2 ht2 T2 hr2 hp2 c0 c2 p0 p1 hW1 HST HB1 HR HSZ
  go_wp2_with fail
  refine wp_region_any (by kernel_rfl) ?_
  change wpAny _ _ _ _ _ _ _ (World.drew _)
  refine wpAny_take (i := 0) (oi := ⟨some 23, _, _, _, _, _⟩) (v := .pointer (some ⟨rg, 0, none⟩)) rfl (by kernel_rfl) (by kernel_rfl) (by kernel_rfl) (fun _ _ _ h => h) (Or.inl ⟨by kernel_rfl, by intro w; go_simp⟩) ?_
  simp only [Act.put, List.setIfInBounds_toArray, List.set_cons_zero, List.set_cons_succ]
  refine wpAny_take (i := 1) (oi := ⟨some 24, _, _, _, _, _⟩) (v := .pointer (some ⟨rg, 0, none⟩)) rfl (by kernel_rfl) (by kernel_rfl) (by kernel_rfl) (fun _ _ _ h => h) (Or.inl ⟨by kernel_rfl, by intro w; go_simp⟩) ?_
  simp only [Act.put, List.setIfInBounds_toArray, List.set_cons_zero, List.set_cons_succ]
  refine wpAny_take (i := 2) (oi := ⟨some 25, _, _, _, _, _⟩) (v := .pointer (some ⟨rg, 0, none⟩)) rfl (by kernel_rfl) (by kernel_rfl) (by kernel_rfl) (fun _ _ _ h => h) (Or.inl ⟨by kernel_rfl, by intro w; go_simp⟩) ?_
  simp only [Act.put, List.setIfInBounds_toArray, List.set_cons_zero, List.set_cons_succ]
  refine wpAny_take (i := 3) (oi := ⟨some 26, _, _, _, _, _⟩) (v := .pointer (some ⟨rg, 0, none⟩)) rfl (by kernel_rfl) (by kernel_rfl) (by kernel_rfl) (fun _ _ _ h => h) (Or.inl ⟨by kernel_rfl, by intro w; go_simp⟩) ?_
  simp only [Act.put, List.setIfInBounds_toArray, List.set_cons_zero, List.set_cons_succ]
  refine wpAny_take (i := 4) (oi := ⟨some 27, _, _, _, _, _⟩) (v := .pointer (some ⟨rg, 2, none⟩)) rfl (by kernel_rfl) (by kernel_rfl) (by kernel_rfl) (fun _ _ _ h => h) (Or.inl ⟨by kernel_rfl, by intro w; go_simp⟩) ?_
  simp only [Act.put, List.setIfInBounds_toArray, List.set_cons_zero, List.set_cons_succ]
  refine wpAny_take (i := 7) (oi := ⟨some 30, _, _, _, _, _⟩) (v := .pointer (some ⟨w.heap.size, 0, none⟩)) rfl (by kernel_rfl) (by kernel_rfl) (by kernel_rfl) (fun _ _ _ h => h) (Or.inl ⟨by kernel_rfl, by intro w; go_simp⟩) ?_
  simp only [Act.put, List.setIfInBounds_toArray, List.set_cons_zero, List.set_cons_succ]
  refine wpAny_ready (rs := [5, 8]) (by kernel_rfl) (by simp) ?_
  refine AllReady.cons rfl (fun K hK => ?_) (AllReady.cons rfl (fun K hK => ?_) AllReady.nil)
  · skip
    go_simp
    refine hK _ _ ?_
    clear hK K
    refine wpAny_take (i := 6) (oi := ⟨some 29, _, _, _, _, _⟩) (v := .slice P2 t.length (cap - 1)) rfl (by kernel_rfl) (by kernel_rfl) (by kernel_rfl) (fun _ _ _ h => h) (Or.inl ⟨by kernel_rfl, by intro w; go_simp; rw [HP2.out]⟩) ?_
    simp only [Act.put, List.setIfInBounds_toArray, List.set_cons_zero, List.set_cons_succ]
    refine wpAny_ready (rs := [8]) (by kernel_rfl) (by simp) ?_
    refine AllReady.cons rfl (fun K hK => ?_) AllReady.nil
    go_simp
    refine hK _ _ ?_
    clear hK K
    refine wpAny_ready (rs := [9]) (by kernel_rfl) (by simp) ?_
    refine AllReady.cons rfl (fun K hK => ?_) AllReady.nil
    go_simp
    refine (HL.out _).mono ?_
    rintro e wy ⟨rfl, rfl⟩
    refine hK _ _ ?_
    clear hK K
    refine wpAny_take (i := 10) (oi := ⟨some 33, _, _, _, _, _⟩) (v := .pointer (some ⟨rg, 0, none⟩)) rfl (by kernel_rfl) (by kernel_rfl) (by kernel_rfl) (fun _ _ _ h => h) (Or.inl ⟨by kernel_rfl, by intro w; go_simp⟩) ?_
    simp only [Act.put, List.setIfInBounds_toArray, List.set_cons_zero, List.set_cons_succ]
    refine wpAny_take (i := 11) (oi := ⟨some 34, _, _, _, _, _⟩) (v := .pointer (some ⟨rg, 2, none⟩)) rfl (by kernel_rfl) (by kernel_rfl) (by kernel_rfl) (fun _ _ _ h => h) (Or.inl ⟨by kernel_rfl, by intro w; go_simp⟩) ?_
    simp only [Act.put, List.setIfInBounds_toArray, List.set_cons_zero, List.set_cons_succ]
    refine wpAny_ready (rs := [12]) (by kernel_rfl) (by simp) ?_
    refine AllReady.cons rfl (fun K hK => ?_) AllReady.nil
    go_simp
    refine hK _ _ ?_
    clear hK K
    refine wpAny_take (i := 13) (oi := ⟨some 35, _, _, _, _, _⟩) (v := .pointer (some ⟨rg, 0, none⟩)) rfl (by kernel_rfl) (by kernel_rfl) (by kernel_rfl) (fun _ _ _ h => h) (Or.inl ⟨by kernel_rfl, by intro w; go_simp⟩) ?_
    simp only [Act.put, List.setIfInBounds_toArray, List.set_cons_zero, List.set_cons_succ]
    refine wpAny_take (i := 14) (oi := ⟨some 36, _, _, _, _, _⟩) (v := .pointer (some ⟨rg, 3, none⟩)) rfl (by kernel_rfl) (by kernel_rfl) (by kernel_rfl) (fun _ _ _ h => h) (Or.inl ⟨by kernel_rfl, by intro w; go_simp⟩) ?_
    simp only [Act.put, List.setIfInBounds_toArray, List.set_cons_zero, List.set_cons_succ]
    refine wpAny_ready (rs := [15]) (by kernel_rfl) (by simp) ?_
    refine AllReady.cons rfl (fun K hK => ?_) AllReady.nil
    go_simp
    refine hK _ _ ?_
    clear hK K
    refine wpAny_done (by kernel_rfl) ?_ _
    obtain ⟨W3, hW3⟩ : ∃ W3, W3 = ((w2.setCell ⟨rg, 2, none⟩ (.slice P2 t.length (cap - 1))).setCell ⟨rg, 3, none⟩ (.int .u64 L)).drew := ⟨_, rfl⟩
    rw [← hW3]
    have hr3 : Row W3 rg 66 (rcells (some ⟨y.g, 0, none⟩) c (.slice P2 t.length (cap - 1)) L (nextV 30 rg) d k) := by
      rw [hW3]
      exact ((HR2.out.set 2 _).set 3 _).below (drew_below _) (((HR2.out.set 2 _).set 3 _).lt)
    have n2 := hr3.cell 2
    have n3 := hr3.cell 3
    simp only [rcells, List.getElem?_toArray, List.getElem?_cons_succ, List.getElem?_cons_zero] at n2 n3
    have FIN := Lib.hid fun (p3 : LowBy W3) => rstore_fin (V := .slice P2 t.length (cap - 1)) HM.out HM2.out HT2.out (by rw [← hW3]; exact p3.low) (by rw [← hW3]; exact hr3) sep HRL.out HAH.out HAS.out
    have HOW := Lib.hid (show t ≠ [] → (Value.slice P2 t.length (cap - 1)).ownBlock = some g from fun h0 => by rw [HP3.out h0]; rfl)
    have ca := fun p : LowBy W3 => p.cell n2
    have cb := fun p : LowBy W3 => p.cell n3
    cases t with
    | nil =>
      clear j2 j3 j4 m0 l2 l3 l4 n2 n3 hr3 hW3
      go_wp2_with fail
      refine wp_region_quiet_low (by assumption) (by kernel_rfl) ?_
      repeat (go_big_quiet_step (fail))
      refine wpQuiet_nil ?_
      intro _ hw'
      obtain ⟨p3, hw''⟩ := hw'
      subst hw''
      clear ca cb
      have F := FIN.out p3
      have n4 := F.1.2.1.cell 4
      have l4 := F.1.2.1.free 4
      simp only [rcells, List.getElem?_toArray, List.getElem?_cons_succ, List.getElem?_cons_zero] at n4
      have F := Lib.hid F.2
      clear FIN
      unfold nextV at F
      go_wp2
      go_ret
      exact ⟨rfl, y2, .slice P2 0 (cap - 1), F.out.1, F.out.2.1, F.out.2.2.1, fun h0 => absurd rfl h0, F.out.2.2.2⟩
    | cons bu t' =>
      obtain ⟨b, u⟩ := bu
      obtain ⟨g', off', q0, hPP⟩ : ∃ g' off', W3.cell? ⟨g', off', none⟩ = some (.int .u64 (b : Int)) ∧ P2 = some ⟨g', off', none⟩ := by
        rcases (FIN.out ⟨W3, Below.refl _ _⟩).1.2.2.1 with ⟨h0, _⟩ | ⟨_, g', off', cap', he, _, _, hc⟩
        · cases h0
        · injection he with he1 _ _
          exact ⟨g', off', hc 0 _ (by rw [flat_cons]; rfl), he1⟩
      subst hPP
      have cd := fun p : LowBy W3 => p.cell q0
      obtain ⟨Lb, hLb⟩ : ∃ Lb, Lb = ((b / 64 * 64 : Nat) : Int) := ⟨_, rfl⟩
      have HLb := Lib.hid fun (p : LowBy W3) => Calls.low_of_same (w := W3) (p := p) (geoLine_any (a := b) (ht (b, u) List.mem_cons_self) p.W)
      rw [← hLb] at HLb
      have HE : Lb = L ↔ b / 64 * 64 = a / 64 * 64 := by rw [hLb, HLE.out]; omega
      have hz1 : (((((b, u) :: t').length : Nat) : Int) == 0) = false := by simp only [List.length_cons]; rw [beq_eq_false_iff_ne]; omega
      have hz2 : (((t'.length + 1 : Nat) : Int) == 0) = false := by rw [beq_eq_false_iff_ne]; omega
      have hz3 : (((t'.length : Nat) : Int) + 1 == 0) = false := by rw [beq_eq_false_iff_ne]; omega
      have HEE := Lib.hid (show ends a ((b, u) :: t') = !(b / 64 * 64 == a / 64 * 64) from rfl)
      have HEQ := Lib.hid HE
      clear j2 j3 j4 m0 l2 l3 l4 n2 n3 hr3 hW3 HE hLb q0 HP2 HP3
      by_cases hEq : Lb = L
      · have e1 : (Lb == L) = true := by rw [beq_iff_eq]; exact hEq
        have e2 : (Lb != L) = false := by simp [bne, e1]
        have e3 : ends a ((b, u) :: t') = false := by rw [HEE.out, HEQ.out.1 hEq]; simp
        have E3 := Lib.hid e3
        clear hEq e3
        go_wp2_with fail
        refine wp_region_quiet_low (by assumption) (by kernel_rfl) ?_
        repeat (go_big_quiet_step ((go_at_call 45; with_reducible exact HLb.out _)))
        refine wpQuiet_nil ?_
        intro _ hw'
        obtain ⟨p3, hw''⟩ := hw'
        subst hw''
        clear ca cb cd
        have F := Lib.hid (FIN.out p3).1
        clear FIN
        go_wp2
        go_ret
        refine ⟨rfl, ?_⟩
        unfold stNext
        rw [E3.out]
        exact ⟨y2, _, F.out.1, F.out.2.1, F.out.2.2.1, HOW.out, F.out.2.2.2⟩
      · have e1 : (Lb == L) = false := by rw [beq_eq_false_iff_ne]; exact hEq
        have e2 : (Lb != L) = true := by simp [bne, e1]
        have e3 : ends a ((b, u) :: t') = true := by
          rw [HEE.out]
          simp only [Bool.not_eq_true', beq_eq_false_iff_ne]
          exact fun h => hEq (HEQ.out.2 h)
        have E3 := Lib.hid e3
        clear hEq e3
        go_wp2_with fail
        refine wp_region_quiet_low (by assumption) (by kernel_rfl) ?_
        repeat (go_big_quiet_step ((go_at_call 45; with_reducible exact HLb.out _)))
        refine wpQuiet_nil ?_
        intro _ hw'
        obtain ⟨p3, hw''⟩ := hw'
        subst hw''
        clear ca cb cd
        have F := FIN.out p3
        have n4 := F.1.2.1.cell 4
        have l4 := F.1.2.1.free 4
        simp only [rcells, List.getElem?_toArray, List.getElem?_cons_succ, List.getElem?_cons_zero] at n4
        have F := Lib.hid F.2
        clear FIN
        unfold nextV at F
        go_wp2
        go_ret
        refine ⟨rfl, ?_⟩
        unfold stNext
        rw [E3.out]
        exact ⟨y2, _, F.out.1, F.out.2.1, F.out.2.2.1, HOW.out, F.out.2.2.2⟩
  · skip
    go_simp
    refine hK _ _ ?_
    clear hK K
    refine wpAny_ready (rs := [5, 9]) (by kernel_rfl) (by simp) ?_
    refine AllReady.cons rfl (fun K hK => ?_) (AllReady.cons rfl (fun K hK => ?_) AllReady.nil)
    · skip
      go_simp
      refine hK _ _ ?_
      clear hK K
      refine wpAny_take (i := 6) (oi := ⟨some 29, _, _, _, _, _⟩) (v := .slice P2 t.length (cap - 1)) rfl (by kernel_rfl) (by kernel_rfl) (by kernel_rfl) (fun _ _ _ h => h) (Or.inl ⟨by kernel_rfl, by intro w; go_simp; rw [HP2.out]⟩) ?_
      simp only [Act.put, List.setIfInBounds_toArray, List.set_cons_zero, List.set_cons_succ]
      refine wpAny_ready (rs := [9]) (by kernel_rfl) (by simp) ?_
      refine AllReady.cons rfl (fun K hK => ?_) AllReady.nil
      go_simp
      refine (HL.out _).mono ?_
      rintro e wy ⟨rfl, rfl⟩
      refine hK _ _ ?_
      clear hK K
      refine wpAny_take (i := 10) (oi := ⟨some 33, _, _, _, _, _⟩) (v := .pointer (some ⟨rg, 0, none⟩)) rfl (by kernel_rfl) (by kernel_rfl) (by kernel_rfl) (fun _ _ _ h => h) (Or.inl ⟨by kernel_rfl, by intro w; go_simp⟩) ?_
      simp only [Act.put, List.setIfInBounds_toArray, List.set_cons_zero, List.set_cons_succ]
      refine wpAny_take (i := 11) (oi := ⟨some 34, _, _, _, _, _⟩) (v := .pointer (some ⟨rg, 2, none⟩)) rfl (by kernel_rfl) (by kernel_rfl) (by kernel_rfl) (fun _ _ _ h => h) (Or.inl ⟨by kernel_rfl, by intro w; go_simp⟩) ?_
      simp only [Act.put, List.setIfInBounds_toArray, List.set_cons_zero, List.set_cons_succ]
      refine wpAny_ready (rs := [12]) (by kernel_rfl) (by simp) ?_
      refine AllReady.cons rfl (fun K hK => ?_) AllReady.nil
      go_simp
      refine hK _ _ ?_
      clear hK K
      refine wpAny_take (i := 13) (oi := ⟨some 35, _, _, _, _, _⟩) (v := .pointer (some ⟨rg, 0, none⟩)) rfl (by kernel_rfl) (by kernel_rfl) (by kernel_rfl) (fun _ _ _ h => h) (Or.inl ⟨by kernel_rfl, by intro w; go_simp⟩) ?_
      simp only [Act.put, List.setIfInBounds_toArray, List.set_cons_zero, List.set_cons_succ]
      refine wpAny_take (i := 14) (oi := ⟨some 36, _, _, _, _, _⟩) (v := .pointer (some ⟨rg, 3, none⟩)) rfl (by kernel_rfl) (by kernel_rfl) (by kernel_rfl) (fun _ _ _ h => h) (Or.inl ⟨by kernel_rfl, by intro w; go_simp⟩) ?_
      simp only [Act.put, List.setIfInBounds_toArray, List.set_cons_zero, List.set_cons_succ]
      refine wpAny_ready (rs := [15]) (by kernel_rfl) (by simp) ?_
      refine AllReady.cons rfl (fun K hK => ?_) AllReady.nil
      go_simp
      refine hK _ _ ?_
      clear hK K
      refine wpAny_done (by kernel_rfl) ?_ _
      obtain ⟨W3, hW3⟩ : ∃ W3, W3 = ((w2.setCell ⟨rg, 2, none⟩ (.slice P2 t.length (cap - 1))).setCell ⟨rg, 3, none⟩ (.int .u64 L)).drew := ⟨_, rfl⟩
      rw [← hW3]
      have hr3 : Row W3 rg 66 (rcells (some ⟨y.g, 0, none⟩) c (.slice P2 t.length (cap - 1)) L (nextV 30 rg) d k) := by
        rw [hW3]
        exact ((HR2.out.set 2 _).set 3 _).below (drew_below _) (((HR2.out.set 2 _).set 3 _).lt)
      have n2 := hr3.cell 2
      have n3 := hr3.cell 3
      simp only [rcells, List.getElem?_toArray, List.getElem?_cons_succ, List.getElem?_cons_zero] at n2 n3
      have FIN := Lib.hid fun (p3 : LowBy W3) => rstore_fin (V := .slice P2 t.length (cap - 1)) HM.out HM2.out HT2.out (by rw [← hW3]; exact p3.low) (by rw [← hW3]; exact hr3) sep HRL.out HAH.out HAS.out
      have HOW := Lib.hid (show t ≠ [] → (Value.slice P2 t.length (cap - 1)).ownBlock = some g from fun h0 => by rw [HP3.out h0]; rfl)
      have ca := fun p : LowBy W3 => p.cell n2
      have cb := fun p : LowBy W3 => p.cell n3
      cases t with
      | nil =>
        clear j2 j3 j4 m0 l2 l3 l4 n2 n3 hr3 hW3
        go_wp2_with fail
        refine wp_region_quiet_low (by assumption) (by kernel_rfl) ?_
        repeat (go_big_quiet_step (fail))
        refine wpQuiet_nil ?_
        intro _ hw'
        obtain ⟨p3, hw''⟩ := hw'
        subst hw''
        clear ca cb
        have F := FIN.out p3
        have n4 := F.1.2.1.cell 4
        have l4 := F.1.2.1.free 4
        simp only [rcells, List.getElem?_toArray, List.getElem?_cons_succ, List.getElem?_cons_zero] at n4
        have F := Lib.hid F.2
        clear FIN
        unfold nextV at F
        go_wp2
        go_ret
        exact ⟨rfl, y2, .slice P2 0 (cap - 1), F.out.1, F.out.2.1, F.out.2.2.1, fun h0 => absurd rfl h0, F.out.2.2.2⟩
      | cons bu t' =>
        obtain ⟨b, u⟩ := bu
        obtain ⟨g', off', q0, hPP⟩ : ∃ g' off', W3.cell? ⟨g', off', none⟩ = some (.int .u64 (b : Int)) ∧ P2 = some ⟨g', off', none⟩ := by
          rcases (FIN.out ⟨W3, Below.refl _ _⟩).1.2.2.1 with ⟨h0, _⟩ | ⟨_, g', off', cap', he, _, _, hc⟩
          · cases h0
          · injection he with he1 _ _
            exact ⟨g', off', hc 0 _ (by rw [flat_cons]; rfl), he1⟩
        subst hPP
        have cd := fun p : LowBy W3 => p.cell q0
        obtain ⟨Lb, hLb⟩ : ∃ Lb, Lb = ((b / 64 * 64 : Nat) : Int) := ⟨_, rfl⟩
        have HLb := Lib.hid fun (p : LowBy W3) => Calls.low_of_same (w := W3) (p := p) (geoLine_any (a := b) (ht (b, u) List.mem_cons_self) p.W)
        rw [← hLb] at HLb
        have HE : Lb = L ↔ b / 64 * 64 = a / 64 * 64 := by rw [hLb, HLE.out]; omega
        have hz1 : (((((b, u) :: t').length : Nat) : Int) == 0) = false := by simp only [List.length_cons]; rw [beq_eq_false_iff_ne]; omega
        have hz2 : (((t'.length + 1 : Nat) : Int) == 0) = false := by rw [beq_eq_false_iff_ne]; omega
        have hz3 : (((t'.length : Nat) : Int) + 1 == 0) = false := by rw [beq_eq_false_iff_ne]; omega
        have HEE := Lib.hid (show ends a ((b, u) :: t') = !(b / 64 * 64 == a / 64 * 64) from rfl)
        have HEQ := Lib.hid HE
        clear j2 j3 j4 m0 l2 l3 l4 n2 n3 hr3 hW3 HE hLb q0 HP2 HP3
        by_cases hEq : Lb = L
        · have e1 : (Lb == L) = true := by rw [beq_iff_eq]; exact hEq
          have e2 : (Lb != L) = false := by simp [bne, e1]
          have e3 : ends a ((b, u) :: t') = false := by rw [HEE.out, HEQ.out.1 hEq]; simp
          have E3 := Lib.hid e3
          clear hEq e3
          go_wp2_with fail
          refine wp_region_quiet_low (by assumption) (by kernel_rfl) ?_
          repeat (go_big_quiet_step ((go_at_call 45; with_reducible exact HLb.out _)))
          refine wpQuiet_nil ?_
          intro _ hw'
          obtain ⟨p3, hw''⟩ := hw'
          subst hw''
          clear ca cb cd
          have F := Lib.hid (FIN.out p3).1
          clear FIN
          go_wp2
          go_ret
          refine ⟨rfl, ?_⟩
          unfold stNext
          rw [E3.out]
          exact ⟨y2, _, F.out.1, F.out.2.1, F.out.2.2.1, HOW.out, F.out.2.2.2⟩
        · have e1 : (Lb == L) = false := by rw [beq_eq_false_iff_ne]; exact hEq
          have e2 : (Lb != L) = true := by simp [bne, e1]
          have e3 : ends a ((b, u) :: t') = true := by
            rw [HEE.out]
            simp only [Bool.not_eq_true', beq_eq_false_iff_ne]
            exact fun h => hEq (HEQ.out.2 h)
          have E3 := Lib.hid e3
          clear hEq e3
          go_wp2_with fail
          refine wp_region_quiet_low (by assumption) (by kernel_rfl) ?_
          repeat (go_big_quiet_step ((go_at_call 45; with_reducible exact HLb.out _)))
          refine wpQuiet_nil ?_
          intro _ hw'
          obtain ⟨p3, hw''⟩ := hw'
          subst hw''
          clear ca cb cd
          have F := FIN.out p3
          have n4 := F.1.2.1.cell 4
          have l4 := F.1.2.1.free 4
          simp only [rcells, List.getElem?_toArray, List.getElem?_cons_succ, List.getElem?_cons_zero] at n4
          have F := Lib.hid F.2
          clear FIN
          unfold nextV at F
          go_wp2
          go_ret
          refine ⟨rfl, ?_⟩
          unfold stNext
          rw [E3.out]
          exact ⟨y2, _, F.out.1, F.out.2.1, F.out.2.2.1, HOW.out, F.out.2.2.2⟩
    · skip
      go_simp
      refine (HL.out _).mono ?_
      rintro e wy ⟨rfl, rfl⟩
      refine hK _ _ ?_
      clear hK K
      refine wpAny_ready (rs := [5]) (by kernel_rfl) (by simp) ?_
      refine AllReady.cons rfl (fun K hK => ?_) AllReady.nil
      go_simp
      refine hK _ _ ?_
      clear hK K
      refine wpAny_take (i := 6) (oi := ⟨some 29, _, _, _, _, _⟩) (v := .slice P2 t.length (cap - 1)) rfl (by kernel_rfl) (by kernel_rfl) (by kernel_rfl) (fun _ _ _ h => h) (Or.inl ⟨by kernel_rfl, by intro w; go_simp; rw [HP2.out]⟩) ?_
      simp only [Act.put, List.setIfInBounds_toArray, List.set_cons_zero, List.set_cons_succ]
      refine wpAny_take (i := 10) (oi := ⟨some 33, _, _, _, _, _⟩) (v := .pointer (some ⟨rg, 0, none⟩)) rfl (by kernel_rfl) (by kernel_rfl) (by kernel_rfl) (fun _ _ _ h => h) (Or.inl ⟨by kernel_rfl, by intro w; go_simp⟩) ?_
      simp only [Act.put, List.setIfInBounds_toArray, List.set_cons_zero, List.set_cons_succ]
      refine wpAny_take (i := 11) (oi := ⟨some 34, _, _, _, _, _⟩) (v := .pointer (some ⟨rg, 2, none⟩)) rfl (by kernel_rfl) (by kernel_rfl) (by kernel_rfl) (fun _ _ _ h => h) (Or.inl ⟨by kernel_rfl, by intro w; go_simp⟩) ?_
      simp only [Act.put, List.setIfInBounds_toArray, List.set_cons_zero, List.set_cons_succ]
      refine wpAny_ready (rs := [12]) (by kernel_rfl) (by simp) ?_
      refine AllReady.cons rfl (fun K hK => ?_) AllReady.nil
      go_simp
      refine hK _ _ ?_
      clear hK K
      refine wpAny_take (i := 13) (oi := ⟨some 35, _, _, _, _, _⟩) (v := .pointer (some ⟨rg, 0, none⟩)) rfl (by kernel_rfl) (by kernel_rfl) (by kernel_rfl) (fun _ _ _ h => h) (Or.inl ⟨by kernel_rfl, by intro w; go_simp⟩) ?_
      simp only [Act.put, List.setIfInBounds_toArray, List.set_cons_zero, List.set_cons_succ]
      refine wpAny_take (i := 14) (oi := ⟨some 36, _, _, _, _, _⟩) (v := .pointer (some ⟨rg, 3, none⟩)) rfl (by kernel_rfl) (by kernel_rfl) (by kernel_rfl) (fun _ _ _ h => h) (Or.inl ⟨by kernel_rfl, by intro w; go_simp⟩) ?_
      simp only [Act.put, List.setIfInBounds_toArray, List.set_cons_zero, List.set_cons_succ]
      refine wpAny_ready (rs := [15]) (by kernel_rfl) (by simp) ?_
      refine AllReady.cons rfl (fun K hK => ?_) AllReady.nil
      go_simp
      refine hK _ _ ?_
      clear hK K
      refine wpAny_done (by kernel_rfl) ?_ _
      obtain ⟨W3, hW3⟩ : ∃ W3, W3 = ((w2.setCell ⟨rg, 2, none⟩ (.slice P2 t.length (cap - 1))).setCell ⟨rg, 3, none⟩ (.int .u64 L)).drew := ⟨_, rfl⟩
      rw [← hW3]
      have hr3 : Row W3 rg 66 (rcells (some ⟨y.g, 0, none⟩) c (.slice P2 t.length (cap - 1)) L (nextV 30 rg) d k) := by
        rw [hW3]
        exact ((HR2.out.set 2 _).set 3 _).below (drew_below _) (((HR2.out.set 2 _).set 3 _).lt)
      have n2 := hr3.cell 2
      have n3 := hr3.cell 3
      simp only [rcells, List.getElem?_toArray, List.getElem?_cons_succ, List.getElem?_cons_zero] at n2 n3
      have FIN := Lib.hid fun (p3 : LowBy W3) => rstore_fin (V := .slice P2 t.length (cap - 1)) HM.out HM2.out HT2.out (by rw [← hW3]; exact p3.low) (by rw [← hW3]; exact hr3) sep HRL.out HAH.out HAS.out
      have HOW := Lib.hid (show t ≠ [] → (Value.slice P2 t.length (cap - 1)).ownBlock = some g from fun h0 => by rw [HP3.out h0]; rfl)
      have ca := fun p : LowBy W3 => p.cell n2
      have cb := fun p : LowBy W3 => p.cell n3
      cases t with
      | nil =>
        clear j2 j3 j4 m0 l2 l3 l4 n2 n3 hr3 hW3
        go_wp2_with fail
        refine wp_region_quiet_low (by assumption) (by kernel_rfl) ?_
        repeat (go_big_quiet_step (fail))
        refine wpQuiet_nil ?_
        intro _ hw'
        obtain ⟨p3, hw''⟩ := hw'
        subst hw''
        clear ca cb
        have F := FIN.out p3
        have n4 := F.1.2.1.cell 4
        have l4 := F.1.2.1.free 4
        simp only [rcells, List.getElem?_toArray, List.getElem?_cons_succ, List.getElem?_cons_zero] at n4
        have F := Lib.hid F.2
        clear FIN
        unfold nextV at F
        go_wp2
        go_ret
        exact ⟨rfl, y2, .slice P2 0 (cap - 1), F.out.1, F.out.2.1, F.out.2.2.1, fun h0 => absurd rfl h0, F.out.2.2.2⟩
      | cons bu t' =>
        obtain ⟨b, u⟩ := bu
        obtain ⟨g', off', q0, hPP⟩ : ∃ g' off', W3.cell? ⟨g', off', none⟩ = some (.int .u64 (b : Int)) ∧ P2 = some ⟨g', off', none⟩ := by
          rcases (FIN.out ⟨W3, Below.refl _ _⟩).1.2.2.1 with ⟨h0, _⟩ | ⟨_, g', off', cap', he, _, _, hc⟩
          · cases h0
          · injection he with he1 _ _
            exact ⟨g', off', hc 0 _ (by rw [flat_cons]; rfl), he1⟩
        subst hPP
        have cd := fun p : LowBy W3 => p.cell q0
        obtain ⟨Lb, hLb⟩ : ∃ Lb, Lb = ((b / 64 * 64 : Nat) : Int) := ⟨_, rfl⟩
        have HLb := Lib.hid fun (p : LowBy W3) => Calls.low_of_same (w := W3) (p := p) (geoLine_any (a := b) (ht (b, u) List.mem_cons_self) p.W)
        rw [← hLb] at HLb
        have HE : Lb = L ↔ b / 64 * 64 = a / 64 * 64 := by rw [hLb, HLE.out]; omega
        have hz1 : (((((b, u) :: t').length : Nat) : Int) == 0) = false := by simp only [List.length_cons]; rw [beq_eq_false_iff_ne]; omega
        have hz2 : (((t'.length + 1 : Nat) : Int) == 0) = false := by rw [beq_eq_false_iff_ne]; omega
        have hz3 : (((t'.length : Nat) : Int) + 1 == 0) = false := by rw [beq_eq_false_iff_ne]; omega
        have HEE := Lib.hid (show ends a ((b, u) :: t') = !(b / 64 * 64 == a / 64 * 64) from rfl)
        have HEQ := Lib.hid HE
        clear j2 j3 j4 m0 l2 l3 l4 n2 n3 hr3 hW3 HE hLb q0 HP2 HP3
        by_cases hEq : Lb = L
        · have e1 : (Lb == L) = true := by rw [beq_iff_eq]; exact hEq
          have e2 : (Lb != L) = false := by simp [bne, e1]
          have e3 : ends a ((b, u) :: t') = false := by rw [HEE.out, HEQ.out.1 hEq]; simp
          have E3 := Lib.hid e3
          clear hEq e3
          go_wp2_with fail
          refine wp_region_quiet_low (by assumption) (by kernel_rfl) ?_
          repeat (go_big_quiet_step ((go_at_call 45; with_reducible exact HLb.out _)))
          refine wpQuiet_nil ?_
          intro _ hw'
          obtain ⟨p3, hw''⟩ := hw'
          subst hw''
          clear ca cb cd
          have F := Lib.hid (FIN.out p3).1
          clear FIN
          go_wp2
          go_ret
          refine ⟨rfl, ?_⟩
          unfold stNext
          rw [E3.out]
          exact ⟨y2, _, F.out.1, F.out.2.1, F.out.2.2.1, HOW.out, F.out.2.2.2⟩
        · have e1 : (Lb == L) = false := by rw [beq_eq_false_iff_ne]; exact hEq
          have e2 : (Lb != L) = true := by simp [bne, e1]
          have e3 : ends a ((b, u) :: t') = true := by
            rw [HEE.out]
            simp only [Bool.not_eq_true', beq_eq_false_iff_ne]
            exact fun h => hEq (HEQ.out.2 h)
          have E3 := Lib.hid e3
          clear hEq e3
          go_wp2_with fail
          refine wp_region_quiet_low (by assumption) (by kernel_rfl) ?_
          repeat (go_big_quiet_step ((go_at_call 45; with_reducible exact HLb.out _)))
          refine wpQuiet_nil ?_
          intro _ hw'
          obtain ⟨p3, hw''⟩ := hw'
          subst hw''
          clear ca cb cd
          have F := FIN.out p3
          have n4 := F.1.2.1.cell 4
          have l4 := F.1.2.1.free 4
          simp only [rcells, List.getElem?_toArray, List.getElem?_cons_succ, List.getElem?_cons_zero] at n4
          have F := Lib.hid F.2
          clear FIN
          unfold nextV at F
          go_wp2
          go_ret
          refine ⟨rfl, ?_⟩
          unfold stNext
          rw [E3.out]
          exact ⟨y2, _, F.out.1, F.out.2.1, F.out.2.2.1, HOW.out, F.out.2.2.2⟩
end Go.Proofs.Ytgapncamnmngeaa
