/- Texts of this claim, packed: SiR, SiM, SiK. -/
import Derived.Test.YtedefebdfcgjeaaGreatDoorPq28
import Derived.Test.YtedefebdfcgjeaaGreatDoorPq04
import Derived.Test.YtedefebdfcgjeaaGreatDoorPq38
import Derived.StillTail
import Derived.IntWalk
import Derived.Deep.CutBlock
import Derived.Deep.DeepCutAuto
/- The law's machine: a list of steps, each so many primitives; what it does, step by step. -/
namespace Go.Proofs.YtedefebdfcgjeaaGreatDoor
open Go.RowKit Go.Shelf
set_option linter.unusedVariables false
/-- A step: so many primitives; is it done; its error. -/
structure Sp where
  did : Int
  done : Bool
  bad : Int
instance : Inhabited Sp := ⟨⟨0, false, 0⟩⟩
def spAt (l : List Sp) (i : Nat) : Sp := l.getD i ⟨0, false, 0⟩
structure StepsAt (w : World) (a : Addr) (l : List Sp) : Prop where
  c0 : ∀ i, i < l.length → w.cell? (a.add (i * 3)) = some (.int .i64 (spAt l i).did)
  c1 : ∀ i, i < l.length → w.cell? ⟨(a.add (i * 3)).block, (a.add (i * 3)).off + 1, none⟩ = some (.bool (spAt l i).done)
  c2 : ∀ i, i < l.length → w.cell? ⟨(a.add (i * 3)).block, (a.add (i * 3)).off + 2, none⟩ = some (.int .i64 (spAt l i).bad)
theorem StepsAt.below {w w' : World} {a : Addr} {l : List Sp} (h : StepsAt w a l) (hb : Below w.heap.size w w') : StepsAt w' a l :=
  ⟨fun i hi => (hb.cell (w.block_lt_of_cell? _ (h.c0 i hi))).trans (h.c0 i hi), fun i hi => (hb.cell (w.block_lt_of_cell? _ (h.c1 i hi))).trans (h.c1 i hi),
    fun i hi => (hb.cell (w.block_lt_of_cell? _ (h.c2 i hi))).trans (h.c2 i hi)⟩
theorem StepsAt.lt {w : World} {a : Addr} {l : List Sp} (h : StepsAt w a l) (h0 : 0 < l.length) : a.block < w.heap.size := by
  have := w.block_lt_of_cell? _ (h.c0 0 h0)
  rwa [add_block] at this
theorem StepsAt.but {w w' : World} {a : Addr} {l : List Sp} {fp : Nat → Prop} (h : StepsAt w a l) (hb : But w w' fp) (hn : ¬ fp a.block) : StepsAt w' a l :=
  ⟨fun i hi => hb.cell (h.c0 i hi) (by rw [add_block]; exact hn), fun i hi => hb.cell (h.c1 i hi) (by show ¬ fp (a.add (i * 3)).block; rw [add_block]; exact hn), fun i hi => hb.cell (h.c2 i hi) (by show ¬ fp (a.add (i * 3)).block; rw [add_block]; exact hn)⟩
/-- The slice (A, n, cap) holds the steps l. -/
def StepsIn (w : World) (A : Option Addr) (n cap : Nat) (l : List Sp) : Prop := l.length = n ∧ n ≤ cap ∧ n ≤ maxLen ∧ (0 < l.length → ∃ ga, A = some ga ∧ StepsAt w ga l)
/-- Which step comes behind k. -/
def spK (l : List Sp) (k : Nat) : Sp := if k < l.length then spAt l k else if l = [] then ⟨0, false, 0⟩ else spAt l (l.length - 1)
/-- What a step turns: the memory, the machine's own block. -/
structure TR (w w' : World) (y y' : Lay) (gr : Nat) : Prop where
  g : y'.g = y.g
  but : But w w' (fun q => y.fp q ∨ q = gr)
  fp : ∀ q, y'.fp q → y.fp q ∨ w.heap.size ≤ q
theorem TR.refl (w : World) (y : Lay) (gr : Nat) : TR w w y y gr := ⟨rfl, But.refl _ _, fun _ h => .inl h⟩
theorem TR.trans {w w1 w2 : World} {y y1 y2 : Lay} {gr : Nat} (h : TR w w1 y y1 gr) (h2 : TR w1 w2 y1 y2 gr) : TR w w2 y y2 gr :=
  ⟨h2.g.trans h.g, h.but.trans h2.but (fun q hq => by
    rcases hq with hq | rfl
    · rcases h.fp q hq with h3 | h3
      · exact .inl (.inl h3)
      · exact .inr h3
    · exact .inl (.inr rfl)), fun q hq => by
    rcases h2.fp q hq with h3 | h3
    · exact h.fp q h3
    · exact .inr (Nat.le_trans h.but.size h3)⟩
theorem TR.of_turn {w w' : World} {y y' : Lay} (h : Turn w w' y y') (gr : Nat) : TR w w' y y' gr := ⟨h.g, h.but.mono fun _ hq => .inl hq, h.fp⟩
theorem TR.of_below {w w' : World} (y : Lay) (h : Below w.heap.size w w') (gr : Nat) : TR w w' y y gr := ⟨rfl, But.of_below h _, fun _ h => .inl h⟩
def rcell (g : Nat) (A : Option Addr) (n cap k : Nat) : Array Value := #[.pointer (some ⟨g, 0, none⟩), .slice A n cap, .int .i64 (k : Int)]
def spc (x : Sp) : Array Value := #[.int .i64 x.did, .bool x.done, .int .i64 x.bad]
def SpPost (w : World) (y : Lay) (s : St) (gr nl N : Nat) (A : Option Addr) (n cap k : Nat) (x : Sp) (e : Ending) (w' : World) : Prop :=
  e = .returned (.tuple #[.bool x.done, .int .i64 x.bad]) ∧ ∃ y' s', MemAt w' y' s' ∧ Lds nl (N + 9) s' ∧ s'.tot = s.tot + x.did.toNat ∧ TR w w' y y' gr ∧ Row w' gr 66 (rcell y.g A n cap (k + 1))
/-- Behind i primitives of a step. -/
def PrI (w : World) (y : Lay) (s : St) (gr nl N : Nat) (A : Option Addr) (n cap K : Nat) (x : Sp) (i : Nat) (wr : World) : Prop :=
  ∃ y' s', MemAt wr y' s' ∧ Lds nl (N + i) s' ∧ s'.tot = s.tot + i ∧ TR w wr y y' gr ∧ Row wr gr 66 (rcell y.g A n cap K) ∧ Row wr w.heap.size 62 (spc x) ∧ ¬ y'.fp w.heap.size
/-- One primitive more. -/
theorem PrI.next {w wr w2 : World} {y y' y2 : Lay} {s s' s2 : St} {gr nl N : Nat} {A : Option Addr} {n cap K : Nat} {x : Sp} {i : Nat} (hL : Lds nl (N + (i + 1)) s2) (ht : s2.tot = s'.tot + 1) (ht' : s'.tot = s.tot + i) (T : TR w wr y y' gr)
    (hr : Row wr gr 66 (rcell y.g A n cap K)) (hb : Row wr w.heap.size 62 (spc x)) (n1 : ¬ y'.fp gr) (n2 : ¬ y'.fp w.heap.size) (hm : MemAt w2 y2 s2) (t2 : Turn wr w2 y' y2) : PrI w y s gr nl N A n cap K x (i + 1) w2 :=
  ⟨y2, s2, hm, hL, by omega, T.trans (TR.of_turn t2 gr), t2.but.row hr n1, t2.but.row hb n2, fun hf => by
    rcases t2.fp _ hf with h1 | h1
    · exact n2 h1
    · have := hb.lt; omega⟩
theorem fence_tot (s : St) (c : Nat) : (s.fence c).tot = s.tot + 1 := by show s.ld + s.st + s.fl + (s.fe + 1) = s.ld + s.st + s.fl + s.fe + 1; omega
theorem flush_tot (s : St) (c a : Nat) : (s.flush c a).tot = s.tot + 1 := by show s.ld + s.st + (s.fl + 1) + s.fe = s.ld + s.st + s.fl + s.fe + 1; omega
theorem store_tot (s : St) (a v : Nat) : (s.store a v).tot = s.tot + 1 := by show s.ld + (s.st + 1) + s.fl + s.fe = s.ld + s.st + s.fl + s.fe + 1; omega
theorem load_tot (s : St) : ({ s with ld := s.ld + 1 } : St).tot = s.tot + 1 := by show (s.ld + 1) + s.st + s.fl + s.fe = s.ld + s.st + s.fl + s.fe + 1; omega
theorem Lds.ld1 {nl n : Nat} {s : St} (h : Lds nl n s) (hn : n ≤ 1000000) : Lds nl (n + 1) { s with ld := s.ld + 1 } :=
  ⟨h.nls, ⟨h.ok.las, h.ok.vie, h.ok.put, h.ok.few, h.ok.mks, by have := h.num; exact ⟨by show s.ld + 1 < _; omega, h.ok.num.2⟩⟩, h.pl, fun j => Nat.le_succ_of_le (h.few j), h.vl, by have := h.num; show s.ld + 1 ≤ _; omega, by have := h.num; show s.st ≤ _; omega, by have := h.num; show s.fl ≤ _; omega, by have := h.num; show s.fe ≤ _; omega⟩
set_option maxRecDepth 100000 in
set_option maxHeartbeats 2000000 in
theorem rstep_any {w : World} {y : Lay} {s : St} {gr nl N k n cap : Nat} {A : Option Addr} {l : List Sp} (h : MemAt w y s) (hL : Lds nl N s) (hN : N ≤ 900000) (hnl : 1 ≤ nl) (hr : Row w gr 66 (rcell y.g A n cap k))
    (hS : StepsIn w A n cap l) (hn : n ≤ 1000000) (hk : k ≤ 1000000) (sep : ¬ y.fp gr) (hd0 : 0 ≤ (spK l k).did) (hd9 : (spK l k).did ≤ 9) :
    Calls Tryz.prog 26 #[.pointer (some ⟨gr, 0, none⟩)] w (SpPost w y s gr nl N A n cap k (spK l k)) := by
  have mixed : Tryz.prog.follows .mixedOrders = true := by kernel_rfl
  have HM := Lib.hid h
  have HLd := Lib.hid hL
  have HR := Lib.hid hr
  have HS := Lib.hid hS
  have HSEP := Lib.hid sep
  have HB0 := Lib.hid (alloc_below w (.cells #[.int .i64 0, .bool false, .int .i64 0] 62))
  have k1 := (hr.alloc (.cells #[.int .i64 0, .bool false, .int .i64 0] 62)).cell 1
  simp only [rcell, List.getElem?_toArray, List.getElem?_cons_succ, List.getElem?_cons_zero] at k1
  obtain ⟨⟨xd, xdn, xbd⟩, hx⟩ : ∃ x, x = spK l k := ⟨_, rfl⟩
  rw [← hx] at hd0 hd9 ⊢
  obtain ⟨D, rfl⟩ : ∃ D : Nat, xd = (D : Int) := ⟨xd.toNat, by dsimp only at hd0; omega⟩
  have hD9 : D ≤ 9 := by dsimp only at hd9; omega
  have HXX := Lib.hid hx
  obtain ⟨W1, hW1⟩ : ∃ W1, W1 = w.alloc (.cells #[.int .i64 0, .bool false, .int .i64 0] 62) := ⟨_, rfl⟩
  have hrow1 : Row W1 w.heap.size 62 #[.int .i64 0, .bool false, .int .i64 0] := by rw [hW1]; exact Row.new _ _ _
  have HR1 := Lib.hid hrow1
  rw [← hW1] at HB0 k1
  clear h hL hr hS sep hrow1 hd0 hd9 hx
  go_enter Tryz.func26, Tryz.ntmps26
  go_upto_region 2 with (fail)
  rw [← hW1]
  clear hW1
  go_upto_if 12 with (fail)
  go_cut [0] (fun s0 wx => s0 = .pointer (some ⟨gr, 0, none⟩) ∧ Row wx w.heap.size 62 (spc (if l = [] then ⟨0, false, 0⟩ else spAt l (l.length - 1))) ∧ Below w.heap.size w wx)
  case first =>
    rcases Nat.eq_zero_or_pos n with h0 | h0
    · have hl : l = [] := List.eq_nil_of_length_eq_zero (by have := HS.out.1; omega)
      have HL0 := Lib.hid hl
      clear hl
      subst h0
      go_wp2_with fail
      go_meet
      case rel => exact ⟨rfl, by rw [if_pos HL0.out]; exact HR1.out, HB0.out⟩
    · obtain ⟨ga, hga, hst⟩ := HS.out.2.2.2 (by have := HS.out.1; omega)
      obtain ⟨i, hi⟩ : ∃ i, n = i + 1 := ⟨n - 1, by omega⟩
      have hil : i < l.length := by have := HS.out.1; omega
      have hst1 := hst.below HB0.out
      have d0 := hst1.c0 i hil
      have d1 := hst1.c1 i hil
      have d2 := hst1.c2 i hil
      obtain ⟨x, hx⟩ : ∃ x, x = spAt l i := ⟨_, rfl⟩
      rw [← hx] at d0 d1 d2
      have e1 : IntKind.i64.wrap ((n : Int) - 1) = (i : Int) := by rw [IntWalk.i64_in _ (by omega)]; omega
      have e2 : (0 : Int) ≤ (i : Int) := by omega
      have e3 : (i : Int) < (n : Int) := by omega
      have hgt : decide (0 < n) = true := by simpa using h0
      have ca := fun p : LowBy W1 => p.cell k1
      have cb := fun p : LowBy W1 => p.cell d0
      have cc := fun p : LowBy W1 => p.cell d1
      have cd := fun p : LowBy W1 => p.cell d2
      have HX := Lib.hid (show x = spAt l (l.length - 1) by rw [hx]; congr 1; have := HS.out.1; omega)
      have HNE := Lib.hid (show l ≠ [] from fun h => by rw [h] at hil; exact absurd hil (Nat.not_lt_zero _))
      subst hga
      clear hst hst1 hil hi hx
      go_wp2_with fail
      refine wp_region_low_tail 12 (by assumption) (by kernel_rfl) ?_
      simp only [List.take_succ_cons, List.take_zero, List.drop_succ_cons, List.drop_zero]
      repeat (go_big_quiet_step (fail))
      refine wpQuiet_nil ?_
      intro _ hw'
      obtain ⟨p, hw''⟩ := hw'
      subst hw''
      have hp := HR1.out.below p.low HR1.out.lt
      have hpl := hp.lt
      have q0 := hp.cell 0
      have q1 := hp.cell 1
      have q2 := hp.cell 2
      have f0 := hp.free 0
      have f1 := hp.free 1
      have f2 := hp.free 2
      simp only [List.getElem?_toArray, List.getElem?_cons_succ, List.getElem?_cons_zero] at q0 q1 q2
      have HP := Lib.hid hp
      have HPB := Lib.hid p.low
      clear ca cb cc cd hp e1 e2 e3 hgt k1
      go_wp2_with fail
      go_meet
      case rel =>
        refine ⟨rfl, ?_, ?_⟩
        · rw [if_neg HNE.out, ← HX.out]
          exact ((HP.out.set 0 _).set 1 _).set 2 _
        · exact (((Below.trans HB0.out (HPB.out.mono HB0.out.size)).setCell (Nat.le_refl _) _).setCell (Nat.le_refl _) _).setCell (Nat.le_refl _) _
  case rest =>
    obtain ⟨rfl, hrow2, hbw2⟩ := hcut
    have HRW := Lib.hid hrow2
    have HBW := Lib.hid hbw2
    have hr2 := HR.out.below hbw2 HR.out.lt
    have j1 := hr2.cell 1
    have j2 := hr2.cell 2
    simp only [rcell, List.getElem?_toArray, List.getElem?_cons_succ, List.getElem?_cons_zero] at j1 j2
    have ca := fun p : LowBy wc => p.cell j1
    have cb := fun p : LowBy wc => p.cell j2
    clear hrow2 hbw2 hr2 k1 HB0 HR1 j1 j2
    go_wp2_with fail
    refine wp_region_quiet_low (by assumption) (by kernel_rfl) ?_
    repeat (go_big_quiet_step (fail))
    refine wpQuiet_nil ?_
    intro _ hw'
    obtain ⟨p, hw''⟩ := hw'
    subst hw''
    have hpb := HBW.out.trans (p.low.mono HBW.out.size)
    have hpr := HRW.out.below p.low HRW.out.lt
    obtain ⟨W2, hW2⟩ : ∃ W2, W2 = p.W := ⟨_, rfl⟩
    rw [← hW2] at hpb hpr ⊢
    have HPB := Lib.hid hpb
    have HPR := Lib.hid hpr
    clear ca cb hpb hpr hW2
    go_upto_if 34 with (fail)
    go_cut [0] (fun s0 wx => s0 = .pointer (some ⟨gr, 0, none⟩) ∧ Row wx w.heap.size 62 (spc ⟨(D : Int), xdn, xbd⟩) ∧ Below w.heap.size w wx)
    case first =>
      by_cases hkn : k < n
      · obtain ⟨ga, hga, hst⟩ := HS.out.2.2.2 (by have := HS.out.1; omega)
        have hil : k < l.length := by have := HS.out.1; omega
        have hst1 := hst.below HPB.out
        have d0 := hst1.c0 k hil
        have d1 := hst1.c1 k hil
        have d2 := hst1.c2 k hil
        obtain ⟨x, hx⟩ : ∃ x, x = spAt l k := ⟨_, rfl⟩
        rw [← hx] at d0 d1 d2
        have hr2 := HR.out.below HPB.out HR.out.lt
        have j1 := hr2.cell 1
        have j2 := hr2.cell 2
        simp only [rcell, List.getElem?_toArray, List.getElem?_cons_succ, List.getElem?_cons_zero] at j1 j2
        subst hga
        have ca := fun p : LowBy W2 => p.cell j1
        have ca2 := fun p : LowBy W2 => p.cell j2
        have cb := fun p : LowBy W2 => p.cell d0
        have cc := fun p : LowBy W2 => p.cell d1
        have cd := fun p : LowBy W2 => p.cell d2
        have HX := Lib.hid (show x = spK l k by rw [hx]; unfold spK; rw [if_pos hil])
        have e2 : (0 : Int) ≤ (k : Int) := by omega
        have e3 : (k : Int) < (n : Int) := by omega
        clear hst hst1 hil hx hr2 j1 j2 d0 d1 d2
        go_wp2_with fail
        refine wp_region_low_tail 10 (by assumption) (by kernel_rfl) ?_
        simp only [List.take_succ_cons, List.take_zero, List.drop_succ_cons, List.drop_zero]
        repeat (go_big_quiet_step (fail))
        refine wpQuiet_nil ?_
        intro _ hw'
        obtain ⟨p2, hw''⟩ := hw'
        subst hw''
        have hp := HPR.out.below p2.low HPR.out.lt
        have hpl := hp.lt
        have q0 := hp.cell 0
        have q1 := hp.cell 1
        have q2 := hp.cell 2
        have f0 := hp.free 0
        have f1 := hp.free 1
        have f2 := hp.free 2
        simp only [spc, List.getElem?_toArray, List.getElem?_cons_succ, List.getElem?_cons_zero] at q0 q1 q2
        have HP := Lib.hid hp
        have HPB2 := Lib.hid p2.low
        clear ca ca2 cb cc cd hp e2 e3
        go_wp2_with fail
        go_meet
        case rel =>
          refine ⟨rfl, ?_, ?_⟩
          · rw [HXX.out, ← HX.out]
            exact ((HP.out.set 0 _).set 1 _).set 2 _
          · exact (((Below.trans HPB.out (HPB2.out.mono HPB.out.size)).setCell (Nat.le_refl _) _).setCell (Nat.le_refl _) _).setCell (Nat.le_refl _) _
      · have HX := Lib.hid (show (if l = [] then ⟨0, false, 0⟩ else spAt l (l.length - 1)) = spK l k by unfold spK; rw [if_neg (show ¬ k < l.length from by have := HS.out.1; omega)])
        go_wp2_with fail
        go_meet
        case rel => exact ⟨rfl, by rw [HXX.out, ← HX.out]; exact HPR.out, HPB.out⟩
    case rest =>
      obtain ⟨rfl, hrow3, hbw3⟩ := hcut
      clear HRW HBW HPB HPR
      have hr3 := HR.out.below hbw3 HR.out.lt
      have j2 := hr3.cell 2
      have z2 := hr3.free 2
      simp only [rcell, List.getElem?_toArray, List.getElem?_cons_succ, List.getElem?_cons_zero] at j2
      obtain ⟨W3, hW3⟩ : ∃ W3, W3 = wc.setCell ⟨gr, 2, none⟩ (.int .i64 ((k : Int) + 1)) := ⟨_, rfl⟩
      obtain ⟨K, hK⟩ : ∃ K, K = k + 1 := ⟨_, rfl⟩
      have hK1 : K ≤ 2000000 := by omega
      have hgb : gr < w.heap.size := HR.out.lt
      have H0 := Lib.hid (show PrI w y s gr nl N A n cap K ⟨(D : Int), xdn, xbd⟩ 0 W3 by
        refine ⟨y, s, ?_, HLd.out, rfl, ⟨rfl, ?_, fun q hq => .inl hq⟩, ?_, ?_, fun hf => Nat.lt_irrefl _ (HM.out.lt _ hf)⟩
        · rw [hW3]
          exact (HM.out.below hbw3).same fun q hq => heap_setCell_other _ _ _ _ (fun e => by cases e; exact HSEP.out hq)
        · rw [hW3]
          exact (But.of_below hbw3 _).set (p := ⟨gr, 2, none⟩) (.inr rfl) _
        · rw [hW3, hK]
          exact hr3.set 2 _
        · rw [hW3]
          exact hrow3.other (fun e => by cases e; exact Nat.lt_irrefl _ hgb) _)
      have HKK := Lib.hid hK
      clear hr3 hrow3 hbw3 hK
      go_wp2_with fail
      rw [← hW3]
      clear hW3 j2 z2
      go_loopw [5] (fun v wr => ∃ i : Nat, v = .int .i64 (i : Int) ∧ i ≤ D ∧ PrI w y s gr nl N A n cap K ⟨(D : Int), xdn, xbd⟩ i wr) (fun v _ => D - (intOf v).toNat)
      case atStart => exact ⟨0, rfl, Nat.zero_le _, H0.out⟩
      case round =>
        obtain ⟨i, rfl, hi, y', s', hmem, hlds, htt, hT, hrr, hbb, n2⟩ := hrel
        rename World => wr
        have j0 := hrr.cell 0
        have j2 := hrr.cell 2
        have q0 := hbb.cell 0
        have q1 := hbb.cell 1
        have q2 := hbb.cell 2
        simp only [rcell, spc, List.getElem?_toArray, List.getElem?_cons_succ, List.getElem?_cons_zero] at j0 j2 q0 q1 q2
        have n1 : ¬ y'.fp gr := fun hf => by
          rcases hT.fp _ hf with h1 | h1
          · exact HSEP.out h1
          · omega
        have hgy := hT.g
        obtain ⟨g, hg⟩ : ∃ g, g = y.g := ⟨_, rfl⟩
        rw [← hg] at j0 hgy
        have HMEM := Lib.hid hmem
        have HLDS := Lib.hid hlds
        have HTT := Lib.hid htt
        have HT := Lib.hid hT
        have HRR := Lib.hid hrr
        have HBB := Lib.hid hbb
        have HN1 := Lib.hid n1
        have HN2 := Lib.hid n2
        have HG := Lib.hid hg
        have hnls := hlds.nls
        clear hmem hlds htt hT hrr hbb n1 n2 hg
        by_cases hiD : i < D
        · have hm4 : i % 4 = 0 ∨ i % 4 = 1 ∨ i % 4 = 2 ∨ i % 4 = 3 := by omega
          have i0 : (0 : Int) ≤ (i : Int) := by omega
          have hi9 : (i : Int) < 9 := by omega
          have HNL := Lib.hid hnls
          clear hnls
          rcases hm4 with hm4 | hm4 | hm4 | hm4
          · have hmod : (i : Int) % 4 = 0 := by omega
            have HC := Lib.hid fun (W : World) (hb : Below wr.heap.size wr W) => load_ok (HMEM.out.below hb) HLDS.out.ok 0 (by decide) (by have := HNL.out; omega)
            have HNX := Lib.hid fun (W w2 : World) (hb : Below wr.heap.size wr W) (y2 : Lay) (hm : MemAt w2 y2 (({ s' with ld := s'.ld + 1 } : St))) (t2 : Turn W w2 y' y2) => PrI.next (s2 := ({ s' with ld := s'.ld + 1 } : St)) (w := w) (s := s) (s' := s') (i := i) (HLDS.out.ld1 (by omega)) (load_tot s') HTT.out (HT.out.trans (TR.of_below y' hb gr)) (HRR.out.below hb HRR.out.lt) (HBB.out.below hb HBB.out.lt) HN1.out HN2.out hm t2
            rw [hgy] at HC
            clear hm4
            go_wp2_with fail
            refine (HC.out _ (Below.refl _ _)).mono ?_
            rintro e w2 ⟨rfl, y2, hm2, t2⟩
            have HE := Lib.hid (HNX.out _ _ (Below.refl _ _) y2 hm2 t2)
            clear hm2 t2
            go_wp2
            go_roundw
            case rel => exact ⟨i + 1, by go_num, by omega, HE.out⟩
            case measure => simp [intOf]; omega
          · have hmod : (i : Int) % 4 = 1 := by omega
            have HC := Lib.hid fun (W : World) (hb : Below wr.heap.size wr W) => store_ok (HMEM.out.below hb) 8 K (by decide) (by have := HNL.out; omega) (by omega) (by have := HLDS.out.num; omega) (fun m hm => HLDS.out.ok.few m hm)
            have HNX := Lib.hid fun (W w2 : World) (hb : Below wr.heap.size wr W) (y2 : Lay) (hm : MemAt w2 y2 (s'.store 8 K)) (t2 : Turn W w2 y' y2) => PrI.next (s2 := s'.store 8 K) (w := w) (s := s) (s' := s') (i := i) (HLDS.out.store (by omega) (by decide) (by omega) (by omega)) (store_tot s' 8 K) HTT.out (HT.out.trans (TR.of_below y' hb gr)) (HRR.out.below hb HRR.out.lt) (HBB.out.below hb HBB.out.lt) HN1.out HN2.out hm t2
            rw [hgy] at HC
            clear hm4
            have ca := fun p : LowBy wr => p.cell j0
            have cb := fun p : LowBy wr => p.cell j2
            go_wp2_with fail
            refine wp_region_low_tail 9 (by assumption) (by kernel_rfl) ?_
            simp only [List.take_succ_cons, List.take_zero, List.drop_succ_cons, List.drop_zero]
            repeat (go_big_quiet_step (fail))
            refine wpQuiet_nil ?_
            intro _ hw'
            obtain ⟨p, hw''⟩ := hw'
            subst hw''
            clear ca cb
            go_wp2_with fail
            refine (HC.out p.W p.low).mono ?_
            rintro e w2 ⟨rfl, y2, hm2, t2⟩
            have HE := Lib.hid (HNX.out _ _ p.low y2 hm2 t2)
            clear hm2 t2
            go_wp2
            go_roundw
            case rel => exact ⟨i + 1, by go_num, by omega, HE.out⟩
            case measure => simp [intOf]; omega
          · have hmod : (i : Int) % 4 = 2 := by omega
            have HC := Lib.hid fun (W : World) (hb : Below wr.heap.size wr W) => flush_ok (HMEM.out.below hb) HLDS.out.ok 3 0 (by decide) (by decide) (by have := HNL.out; omega)
            have HNX := Lib.hid fun (W w2 : World) (hb : Below wr.heap.size wr W) (y2 : Lay) (hm : MemAt w2 y2 (s'.flush 3 0)) (t2 : Turn W w2 y' y2) => PrI.next (s2 := s'.flush 3 0) (w := w) (s := s) (s' := s') (i := i) (HLDS.out.flush (by omega) 3 0) (flush_tot s' 3 0) HTT.out (HT.out.trans (TR.of_below y' hb gr)) (HRR.out.below hb HRR.out.lt) (HBB.out.below hb HBB.out.lt) HN1.out HN2.out hm t2
            rw [hgy] at HC
            clear hm4
            go_wp2_with fail
            refine (HC.out _ (Below.refl _ _)).mono ?_
            rintro e w2 ⟨rfl, y2, hm2, t2⟩
            have HE := Lib.hid (HNX.out _ _ (Below.refl _ _) y2 hm2 t2)
            clear hm2 t2
            go_wp2
            go_roundw
            case rel => exact ⟨i + 1, by go_num, by omega, HE.out⟩
            case measure => simp [intOf]; omega
          · have hmod : (i : Int) % 4 = 3 := by omega
            have HC := Lib.hid fun (W : World) (hb : Below wr.heap.size wr W) => fence_ok (HMEM.out.below hb) HLDS.out.ok 3 (by decide) (by have := HLDS.out.num; omega)
            have HNX := Lib.hid fun (W w2 : World) (hb : Below wr.heap.size wr W) (y2 : Lay) (hm : MemAt w2 y2 (s'.fence 3)) (t2 : Turn W w2 y' y2) => PrI.next (s2 := s'.fence 3) (w := w) (s := s) (s' := s') (i := i) (HLDS.out.fence (by omega) 3) (fence_tot s' 3) HTT.out (HT.out.trans (TR.of_below y' hb gr)) (HRR.out.below hb HRR.out.lt) (HBB.out.below hb HBB.out.lt) HN1.out HN2.out hm t2
            rw [hgy] at HC
            clear hm4
            go_wp2_with fail
            refine (HC.out _ (Below.refl _ _)).mono ?_
            rintro e w2 ⟨rfl, y2, hm2, t2⟩
            have HE := Lib.hid (HNX.out _ _ (Below.refl _ _) y2 hm2 t2)
            clear hm2 t2
            go_wp2
            go_roundw
            case rel => exact ⟨i + 1, by go_num, by omega, HE.out⟩
            case measure => simp [intOf]; omega
        · have hiD' : i = D := by omega
          have ca := fun p : LowBy wr => p.cell q1
          have cb := fun p : LowBy wr => p.cell q2
          have HE := Lib.hid (show ∀ p : LowBy wr, SpPost w y s gr nl N A n cap k ⟨(D : Int), xdn, xbd⟩ (.returned (.tuple #[.bool xdn, .int .i64 xbd])) p.W from fun p =>
            ⟨rfl, y', s', HMEM.out.below p.low, HLDS.out.mono (by omega), by rw [HTT.out, hiD']; rfl, HT.out.trans (TR.of_below y' p.low gr), by have := HRR.out.below p.low HRR.out.lt; rw [HKK.out] at this; exact this⟩)
          clear hiD' hnls
          go_wp2_with fail
          refine wp_region_quiet_low (by assumption) (by kernel_rfl) ?_
          repeat (go_big_quiet_step (fail))
          refine wpQuiet_nil ?_
          intro _ hw'
          obtain ⟨p, hw''⟩ := hw'
          subst hw''
          clear ca cb
          go_wp2
          go_ret2
          exact HE.out p
end Go.Proofs.YtedefebdfcgjeaaGreatDoor
/- Whole of the law's machine; the reference's Whole, which tells the same. -/
namespace Go.Proofs.YtedefebdfcgjeaaGreatDoor
open Go.RowKit Go.Shelf
set_option linter.unusedVariables false
def dnL (l : List Sp) (k : Nat) : Bool := (spK l k).done
def erL (l : List Sp) (k : Nat) : Int := (spK l k).bad
def odL (l : List Sp) (k : Nat) : Bool := decide (1 < (spK l k).did)
def totL (l : List Sp) (t : Nat) : Nat → Nat
  | 0 => t
  | k + 1 => totL l t k + (spK l k).did.toNat
/-- Steps of none to nine primitives. -/
def FewL (l : List Sp) : Prop := ∀ x ∈ l, 0 ≤ x.did ∧ x.did ≤ 9
theorem spAt_mem {l : List Sp} {i : Nat} (h : i < l.length) : spAt l i ∈ l := by
  unfold spAt
  rw [List.getD_eq_getElem?_getD, List.getElem?_eq_getElem h]
  exact List.getElem_mem h
theorem FewL.at_ {l : List Sp} (h : FewL l) (k : Nat) : 0 ≤ (spK l k).did ∧ (spK l k).did ≤ 9 := by
  unfold spK
  split
  · rename_i hk
    exact h _ (spAt_mem hk)
  · split
    · exact ⟨Int.le_refl _, by decide⟩
    · rename_i h1 h2
      have : 0 < l.length := List.length_pos_iff.2 h2
      exact h _ (spAt_mem (by omega))
theorem totL_le {l : List Sp} (h : FewL l) (t k : Nat) : totL l t k ≤ t + 9 * k := by
  induction k with
  | zero => exact Nat.le_refl _
  | succ k ih =>
    have := h.at_ k
    show totL l t k + _ ≤ _
    omega
theorem odT_tot {l : List Sp} (h : FewL l) (t : Nat) : odT (totL l t) = odL l := by
  funext k
  have := h.at_ k
  show decide (totL l t k + 1 < totL l t k + (spK l k).did.toNat) = decide (1 < (spK l k).did)
  rw [Bool.eq_iff_iff]
  simp only [decide_eq_true_eq]
  omega
/-- Behind k steps. -/
def RI (w : World) (y0 : Lay) (gr nl N : Nat) (A : Option Addr) (n cap : Nat) (l : List Sp) (t : Nat) (P : Nat → Prop) (k : Nat) (W : World) : Prop :=
  ∃ y s, MemAt W y s ∧ Lds nl (N + 9 * k) s ∧ s.tot = totL l t k ∧ TR w W y0 y gr ∧ Row W gr 66 (rcell y0.g A n cap k) ∧ (∀ q, P q → ¬ y.fp q ∧ q ≠ gr ∧ w.heap.size ≤ q ∧ q < W.heap.size)
theorem stepsIn_tr {w W : World} {y0 y : Lay} {gr : Nat} {A : Option Addr} {n cap : Nat} {l : List Sp} (h : StepsIn w A n cap l) (t : TR w W y0 y gr) (ha : ∀ a, A = some a → 0 < n → ¬ y0.fp a.block ∧ a.block ≠ gr) : StepsIn W A n cap l := by
  obtain ⟨h1, h2, h3, h4⟩ := h
  refine ⟨h1, h2, h3, fun h0 => ?_⟩
  obtain ⟨a, hA, hst⟩ := h4 h0
  refine ⟨a, hA, hst.but t.but ?_⟩
  have := ha a hA (by omega)
  rintro (hf | hf)
  · exact this.1 hf
  · exact this.2 hf
theorem runner_mach {w : World} {y0 : Lay} {s0 : St} {gr nl N n cap : Nat} {A : Option Addr} {l : List Sp} {most : Int} (h : MemAt w y0 s0) (hL : Lds nl N s0) (hN : N ≤ 1000) (hnl : 1 ≤ nl) (hr : Row w gr 66 (rcell y0.g A n cap 0))
    (hS : StepsIn w A n cap l) (hn : n ≤ 1000) (hf : FewL l) (sep : ¬ y0.fp gr) (ha : ∀ a, A = some a → 0 < n → ¬ y0.fp a.block ∧ a.block ≠ gr) (hm : most ≤ 1000) :
    Mach w y0.g 26 (.pointer (some ⟨gr, 0, none⟩)) most (RI w y0 gr nl N A n cap l s0.tot) (totL l s0.tot) (dnL l) (erL l) := by
  have ht0 : s0.tot ≤ 4 * N := by have := hL.num; unfold St.tot; omega
  refine ⟨fun args W => enters_of Tryz.func26 (by kernel_rfl) rfl args W, by omega, fun k hk => ?_, fun W P hb hP => ?_, fun P k W hI => ?_, fun P k W W' hI hb => ?_, fun P k W hI hk _ => ?_⟩
  · have := totL_le hf s0.tot k
    omega
  · exact ⟨y0, s0, h.below hb, hL, rfl, TR.of_below y0 hb gr, hr.below hb hr.lt, fun q hq => ⟨fun hf2 => by have := h.lt _ hf2; have := (hP q hq).1; omega, by have := hr.lt; have := (hP q hq).1; omega, (hP q hq).1, (hP q hq).2⟩⟩
  · obtain ⟨y, s, hmem, _, ht, hT, _, hP⟩ := hI
    exact ⟨y, s, hT.g, hmem, ht, fun q hq => (hP q hq).1⟩
  · obtain ⟨y, s, hmem, hl, ht, hT, hrr, hP⟩ := hI
    refine ⟨y, s, hmem.but hb (fun q hq hp => (hP q hp).1 hq), hl, ht, ⟨hT.g, hT.but.trans hb (fun q hq => .inr (hP q hq).2.2.1), hT.fp⟩, hb.row hrr (fun hp => (hP _ hp).2.1 rfl), fun q hq => ⟨(hP q hq).1, (hP q hq).2.1, (hP q hq).2.2.1, Nat.lt_of_lt_of_le (hP q hq).2.2.2 hb.size⟩⟩
  · obtain ⟨y, s, hmem, hl, ht, hT, hrr, hP⟩ := hI
    have hd := hf.at_ k
    have hrr' : Row W gr 66 (rcell y.g A n cap k) := by rw [hT.g]; exact hrr
    have sep' : ¬ y.fp gr := fun hf2 => by
      rcases hT.fp _ hf2 with h1 | h1
      · exact sep h1
      · have := hr.lt; omega
    refine (rstep_any hmem hl (by omega) hnl hrr' (stepsIn_tr hS hT ha) (by omega) (by omega) sep' hd.1 hd.2).mono ?_
    rintro e W' ⟨rfl, y', s', hm', hl', ht', hT', hr'⟩
    refine ⟨rfl, ⟨y', s', hm', hl'.mono (by omega), by rw [ht', ht]; rfl, hT.trans hT', by rw [hT.g] at hr'; exact hr', fun q hq => ⟨fun hf2 => ?_, (hP q hq).2.1, (hP q hq).2.2.1, Nat.lt_of_lt_of_le (hP q hq).2.2.2 hT'.but.size⟩⟩, hT'.but.mono fun q hq hp => ?_⟩
    · rcases hT'.fp _ hf2 with h1 | h1
      · exact (hP q hq).1 h1
      · have := (hP q hq).2.2.2; omega
    · rcases hq with h1 | h1
      · exact (hP q hp).1 h1
      · exact (hP q hp).2.1 h1
/-- What is told, and what stands behind it. -/
def RWPost (w : World) (y0 : Lay) (gr nl N : Nat) (A : Option Addr) (n cap : Nat) (l : List Sp) (most : Int) (r : Nat × Bool × Int) (e : Ending) (w' : World) : Prop :=
  e = .returned (.tuple #[.int .i64 (r.1 : Int), .bool r.2.1, .int .i64 r.2.2]) ∧ ∃ y s, MemAt w' y s ∧ Lds nl (N + 9 * r.1) s ∧ s.tot = totL l N r.1 ∧ TR w w' y0 y gr ∧ Row w' gr 66 (rcell y0.g A n cap r.1)
theorem runner_whole {w : World} {y0 : Lay} {s0 : St} {gr nl N t n cap : Nat} {A : Option Addr} {l : List Sp} {most : Int} (h : MemAt w y0 s0) (hL : Lds nl N s0) (hN : N ≤ 1000) (hnl : 1 ≤ nl) (ht : s0.tot = t) (hr : Row w gr 66 (rcell y0.g A n cap 0))
    (hS : StepsIn w A n cap l) (hn : n ≤ 1000) (hf : FewL l) (sep : ¬ y0.fp gr) (ha : ∀ a, A = some a → 0 < n → ¬ y0.fp a.block ∧ a.block ≠ gr) (hm : most ≤ 1000) :
    Calls Tryz.prog 14 #[.pointer (some ⟨y0.g, 0, none⟩), .func (.func 26) #[.pointer (some ⟨gr, 0, none⟩)] #[], .int .i64 most] w fun e w' =>
      ∃ r : Nat × Bool × Int, r = runP (odL l) (dnL l) (erL l) most.toNat 0 false ∧ r.1 ≤ most.toNat ∧ e = .returned (.tuple #[.int .i64 (r.1 : Int), .bool r.2.1, .int .i64 r.2.2]) ∧ ∃ y s, MemAt w' y s ∧ Lds nl (N + 9 * r.1) s ∧ s.tot = totL l t r.1 ∧ TR w w' y0 y gr ∧ Row w' gr 66 (rcell y0.g A n cap r.1) := by
  refine (whole_any (runner_mach h hL hN hnl hr hS hn hf sep ha hm)).mono ?_
  rintro e w' ⟨k, o, c, P, hrun, rfl, hI, _⟩
  obtain ⟨y, s, hmem, hl, ht', hT, hrr, _⟩ := hI
  rw [odT_tot hf] at hrun
  have hle := runP_le (odL l) (dnL l) (erL l) most.toNat 0 false
  rw [hrun] at hle
  refine ⟨(k, o, c), hrun.symm, by simpa using hle, rfl, y, s, hmem, hl, by rw [ht', ht], hT, hrr⟩
/-- The reference's rounds. -/
def RfI (w : World) (l : List Sp) (most : Int) (f : Nat) (a b : Value) (wr : World) : Prop :=
  ∃ (k : Nat) (o : Bool), a = .bool o ∧ b = .int .i64 (k : Int) ∧ k + f = most.toNat ∧ runP (odL l) (dnL l) (erL l) f k o = runP (odL l) (dnL l) (erL l) most.toNat 0 false ∧ Below w.heap.size w wr
def RfPost (w : World) (l : List Sp) (most : Int) (e : Ending) (w' : World) : Prop :=
  ∃ r : Nat × Bool × Int, r = runP (odL l) (dnL l) (erL l) most.toNat 0 false ∧ e = .returned (.tuple #[.int .i64 (r.1 : Int), .bool r.2.1, .int .i64 r.2.2]) ∧ Below w.heap.size w w'
end Go.Proofs.YtedefebdfcgjeaaGreatDoor
/- known of stage 13: the chapter's row comes out as it says; in any world. -/
namespace Go.Proofs.YtedefebdfcgjeaaGreatDoor
open Go.RowKit Go.Shelf
set_option linter.unusedVariables false
def l13 : List Sp := [⟨2, false, 0⟩, ⟨2, false, 0⟩, ⟨2, true, 0⟩]
theorem l13_few : FewL l13 := by
  intro x hx
  simp only [l13, List.mem_cons, List.not_mem_nil, or_false] at hx
  rcases hx with rfl | rfl | rfl <;> decide
theorem l13_run9 : runP (odL l13) (dnL l13) (erL l13) 9 0 false = (3, true, 0) := by decide
theorem l13_run2 : runP (odL l13) (dnL l13) (erL l13) 2 0 false = (2, true, 10) := by decide
set_option maxRecDepth 100000 in
set_option maxHeartbeats 2000000 in
theorem known13_any (w : World) : Calls Tryz.prog 5 #[] w fun e w' => e = .returned (.bool true) ∧ Below w.heap.size w w' := by
  have HN : Calls Tryz.prog 6 #[.int .i64 64] w (NewPost 1 w) := new_yes 1 w (by decide) (by decide)
  go_enter Tryz.func5, Tryz.ntmps5
  go_wp2_with fail
  refine HN.mono ?_
  rintro e w1 ⟨y, rfl, hm1, hfp, hb1⟩
  have HM1 := Lib.hid hm1
  have HFP := Lib.hid hfp
  have HB1 := Lib.hid hb1
  clear hm1 hfp hb1 HN
  obtain ⟨g, hg⟩ : ∃ g, g = y.g := ⟨_, rfl⟩
  rw [← hg]
  have HG := Lib.hid hg
  clear hg
  go_wp2_with fail
  obtain ⟨W2, hW2⟩ : ∃ W2, W2 = w1.alloc (.cells #[.int .i64 2, .bool false, .int .i64 0, .int .i64 2, .bool false, .int .i64 0, .int .i64 2, .bool true, .int .i64 0] 62) := ⟨_, rfl⟩
  obtain ⟨W3, hW3⟩ : ∃ W3, W3 = W2.alloc (.cells #[.pointer (some ⟨g, 0, none⟩), .slice (some ⟨w1.heap.size, 0, none⟩) 3 3, .int .i64 0] 66) := ⟨_, rfl⟩
  obtain ⟨W4, hW4⟩ : ∃ W4, W4 = W3.alloc (.cells #[.pointer (some ⟨g, 0, none⟩), .slice (some ⟨w1.heap.size, 0, none⟩) 3 3, .int .i64 0] 66) := ⟨_, rfl⟩
  rw [← hW2, ← hW3, ← hW4]
  have z2 : W2.heap.size = w1.heap.size + 1 := by rw [hW2]; simp
  have z3 : W3.heap.size = w1.heap.size + 1 + 1 := by rw [hW3]; simp [z2]
  have hl2 : Row W2 w1.heap.size 62 #[.int .i64 2, .bool false, .int .i64 0, .int .i64 2, .bool false, .int .i64 0, .int .i64 2, .bool true, .int .i64 0] := by rw [hW2]; exact Row.new _ _ _
  have hl4 : Row W4 w1.heap.size 62 #[.int .i64 2, .bool false, .int .i64 0, .int .i64 2, .bool false, .int .i64 0, .int .i64 2, .bool true, .int .i64 0] := by rw [hW4, hW3]; exact (hl2.alloc _).alloc _
  have ha4 : Row W4 (w1.heap.size + 1) 66 (rcell g (some ⟨w1.heap.size, 0, none⟩) 3 3 0) := by rw [hW4, ← z2]; exact Row.alloc (by rw [hW3]; exact Row.new _ _ _) _
  have hb4 : Row W4 (w1.heap.size + 1 + 1) 66 (rcell g (some ⟨w1.heap.size, 0, none⟩) 3 3 0) := by rw [hW4, ← z3]; exact Row.new _ _ _
  have hB4 : Below w1.heap.size w1 W4 := by
    rw [hW4, hW3, hW2]
    exact Below.and (Below.and (alloc_below _ _) (alloc_below _ _)) (alloc_below _ _)
  have hm4 := HM1.out.below hB4
  have hst : ∀ W, Row W w1.heap.size 62 #[.int .i64 2, .bool false, .int .i64 0, .int .i64 2, .bool false, .int .i64 0, .int .i64 2, .bool true, .int .i64 0] → StepsIn W (some ⟨w1.heap.size, 0, none⟩) 3 3 l13 := fun W hr =>
    ⟨rfl, Nat.le_refl _, by decide, fun _ => ⟨_, rfl, ⟨fun i hi => by
      rcases (by simp [l13] at hi; omega : i = 0 ∨ i = 1 ∨ i = 2) with rfl | rfl | rfl <;> (rw [add_lit]; exact (hr.cell _).trans rfl), fun i hi => by
      rcases (by simp [l13] at hi; omega : i = 0 ∨ i = 1 ∨ i = 2) with rfl | rfl | rfl <;> (rw [add_lit]; exact (hr.cell _).trans rfl), fun i hi => by
      rcases (by simp [l13] at hi; omega : i = 0 ∨ i = 1 ∨ i = 2) with rfl | rfl | rfl <;> (rw [add_lit]; exact (hr.cell _).trans rfl)⟩⟩⟩
  have hlt : ∀ q, y.fp q → q < w1.heap.size := HM1.out.lt
  have H1 := Lib.hid (runner_whole (t := 0) (most := 9) hm4 (zero_Lds 1) (Nat.zero_le _) (Nat.le_refl _) rfl (by rw [← HG.out]; exact ha4) (hst W4 hl4) (by decide) l13_few (fun hf => by have := hlt _ hf; omega)
    (fun a ha _ => by cases ha; exact ⟨fun hf => Nat.lt_irrefl _ (hlt _ hf), by dsimp only; omega⟩) (by decide))
  rw [← HG.out] at H1
  have HST := Lib.hid hst
  have HL4 := Lib.hid hl4
  have HB4 := Lib.hid hb4
  have HBW := Lib.hid (HB1.out.trans (hB4.mono HB1.out.size))
  have HLT := Lib.hid hlt
  clear hW2 hW3 hW4 z2 z3 hl2 hl4 ha4 hb4 hB4 hm4 hst hlt
  refine H1.out.mono ?_
  rintro e w5 ⟨r, hr, hr9, rfl, y5, s5, hm5, hl5, ht5, hT5, hr5⟩
  rw [show (9 : Int).toNat = 9 from rfl, l13_run9] at hr
  subst hr
  have hw1 := HB1.out.size
  have hb5 := hT5.but.row HB4.out (fun hf => by
    rcases hf with h1 | h1
    · have := HLT.out _ h1; omega
    · omega)
  have hL5 := hT5.but.row HL4.out (fun hf => by
    rcases hf with h1 | h1
    · exact Nat.lt_irrefl _ (HLT.out _ h1)
    · omega)
  have hs4 := HB4.out.lt
  have hfp5 : ∀ q, y5.fp q → y.fp q ∨ w1.heap.size + 1 + 1 < q := fun q hq => by
    rcases hT5.fp q hq with h1 | h1
    · exact .inl h1
    · exact .inr (by omega)
  have hB5 := HBW.out.trans (hT5.but.below (B := w.heap.size) (by have := HBW.out.size; omega) (fun q hq => by
    rcases hq with h1 | h1
    · exact HFP.out q h1
    · omega))
  have H2 := Lib.hid (runner_whole (t := 6) (most := 2) hm5 hl5 (by decide) (Nat.le_refl _) ht5 (by rw [hT5.g, ← HG.out]; exact hb5) (HST.out w5 hL5) (by decide) l13_few (fun hf => by
      rcases hfp5 _ hf with h1 | h1
      · have := HLT.out _ h1; omega
      · omega)
    (fun a ha _ => by
      cases ha
      refine ⟨fun hf => ?_, by dsimp only; omega⟩
      rcases hfp5 _ hf with h1 | h1
      · exact Nat.lt_irrefl _ (HLT.out _ h1)
      · dsimp only at h1; omega) (by decide))
  rw [hT5.g, ← HG.out] at H2
  have HR5 := Lib.hid hr5
  have HF5 := Lib.hid hfp5
  have HB5 := Lib.hid hB5
  clear hm5 hl5 ht5 hT5 hr5 hb5 hL5 hfp5 hB5 hr9 H1
  go_wp2_with fail
  refine H2.out.mono ?_
  rintro e w6 ⟨r, hr, hr2, rfl, y6, s6, hm6, hl6, ht6, hT6, hr6⟩
  rw [show (2 : Int).toNat = 2 from rfl, l13_run2] at hr
  subst hr
  have ha6 := hT6.but.row HR5.out (fun hf => by
    rcases hf with h1 | h1
    · rcases HF5.out _ h1 with h2 | h2
      · have := HLT.out _ h2; omega
      · omega
    · omega)
  have HB6 := Lib.hid (HB5.out.trans (hT6.but.below (B := w.heap.size) (by have := HB5.out.size; omega) (fun q hq => by
    rcases hq with h1 | h1
    · rcases HF5.out _ h1 with h2 | h2
      · exact HFP.out q h2
      · omega
    · omega)))
  have c1 := ha6.cell 2
  have c2 := hr6.cell 2
  simp only [rcell, List.getElem?_toArray, List.getElem?_cons_succ, List.getElem?_cons_zero] at c1 c2
  clear hm6 hl6 ht6 hT6 hr6 ha6 hr2 H2 hw1 hs4
  go_wp2
  go_ret
  exact ⟨rfl, HB6.out⟩
end Go.Proofs.YtedefebdfcgjeaaGreatDoor
