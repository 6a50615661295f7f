/- Texts of this claim, packed: Gl. -/
import Derived.Test.YtpjlajkjknkbaaaGreatDoorPg42
import Derived.Test.YtpjlajkjknkbaaaGreatDoorPg11
import Derived.Test.YtpjlajkjknkbaaaGreatDoorPg03
/- Lines that are made to last, of a node: its cells, New of three lines, its flushes, its fence, its step; conditions: the lines are a memory's. -/
namespace Go.Proofs.YtpjlajkjknkbaaaGreatDoor
open Go.RowKit Go.Shelf
set_option linter.unusedVariables false
attribute [local go_sem] Oper.semAt_some
/-- A slice that reads as these addresses. -/
def AhA (w : World) (V : Value) (l : List Nat) : Prop :=
  (l = [] ∧ ∃ A cap, V = .slice A 0 cap ∧ cap ≤ maxLen) ∨
  (l ≠ [] ∧ ∃ g off cap, V = .slice (some ⟨g, off, none⟩) l.length cap ∧ l.length ≤ cap ∧ cap ≤ maxLen ∧ ∀ (i : Nat) (u : Value), (l.map wv)[i]? = some u → w.cell? ⟨g, off + i, none⟩ = some u)
theorem AhA.same {w w' : World} {V : Value} {l : List Nat} (h : AhA w V l) (hk : ∀ k, V.ownBlock = some k → w'.heap[k]? = w.heap[k]?) : AhA w' V l := by
  rcases h with h | ⟨h0, g, off, cap, rfl, h1, h2, h3⟩
  · exact .inl h
  · exact .inr ⟨h0, g, off, cap, rfl, h1, h2, fun i u hu => (cell_heap (hk g rfl)).trans (h3 i u hu)⟩
theorem AhA.lt {w : World} {V : Value} {l : List Nat} (h : AhA w V l) (h0 : l ≠ []) {k : Nat} (hk : V.ownBlock = some k) : k < w.heap.size := by
  rcases h with ⟨h, _⟩ | ⟨_, g, off, cap, rfl, h1, h2, h3⟩
  · exact absurd h h0
  · cases hk
    cases l with
    | nil => exact absurd rfl h0
    | cons p t => exact block_lt_of_cell (h3 0 (wv p) rfl)
theorem AhA.below {w w' : World} {V : Value} {l : List Nat} (h : AhA w V l) (hb : Below w.heap.size w w') : AhA w' V l := by
  by_cases h0 : l = []
  · rcases h with h | ⟨h1, _⟩
    · exact .inl h
    · exact absurd h0 h1
  · exact h.same fun k hk => hb.block k (h.lt h0 hk)
theorem AhA.of {w : World} {V : Value} {l : List Nat} (h : Adr w V l) (h0 : l ≠ []) : AhA w V l := by
  rcases h with ⟨_, h⟩ | ⟨g, off, cap, cur, rfl, hr, h1, h2, h3, h4⟩
  · exact absurd h h0
  · refine .inr ⟨h0, g, off, cap, rfl, h1, h2, fun i u hu => ?_⟩
    have hi : i < l.length := by have := (List.getElem?_eq_some_iff.1 hu).1; simpa using this
    rw [hr.cell, ← Array.getElem?_toList]
    rw [← h4, List.getElem?_take, if_pos hi, List.getElem?_drop] at hu
    exact hu
/-- Its cells. -/
def laC (p : Option Addr) (F : Value) (d : Bool) (k c : Int) (V : Value) : Array Value := #[.pointer p, F, .bool d, .int .i64 k, .int .i64 c, V]
def laF (l : List Nat) (g : Nat) : Value := nextV (if l = [] then 102 else 101) g
set_option maxRecDepth 100000 in
set_option maxHeartbeats 3200000 in
theorem laFlushNext_any {w : World} {g : Nat} {p : Option Addr} {F : Value} {d : Bool} {k c : Int} {V : Value} {l : List Nat} (hr : Row w g 150 (laC p F d k c V)) (h : AhA w V l) :
    Calls Tryz.prog 66 #[.pointer (some ⟨g, 0, none⟩)] w fun e w' => e = .returned (.tuple #[]) ∧ Row w' g 150 (laC p (laF l g) d k c V) ∧ But w w' (fun q => q = g) := by
  have c1 : w.cell? ⟨g, 1, none⟩ = some F := hr.cell 1
  have f1 := hr.free 1
  obtain ⟨A, n, cap, rfl, hn, hl⟩ : ∃ A n cap, V = .slice A n cap ∧ n ≤ maxLen ∧ (l = [] ↔ n = 0) := by
    rcases h with ⟨rfl, A, cap, rfl, h1⟩ | ⟨h0, q, off, cap, rfl, h1, h2, _⟩
    · exact ⟨A, 0, cap, rfl, Nat.zero_le _, by simp⟩
    · exact ⟨_, _, cap, rfl, by omega, by rw [List.length_eq_zero_iff]⟩
  obtain ⟨W1, hW1⟩ : ∃ W1, W1 = w.setCell ⟨g, 1, none⟩ (nextV 101 g) := ⟨_, rfl⟩
  have hr1 : Row W1 g 150 (laC p (nextV 101 g) d k c (.slice A n cap)) := by rw [hW1]; exact hr.set 1 _
  have hb1 : But w W1 (fun q => q = g) := by rw [hW1]; exact (But.refl w (fun q => q = g)).set (p := ⟨g, 1, none⟩) rfl _
  have e1 : W1.cell? ⟨g, 1, none⟩ = some (nextV 101 g) := hr1.cell 1
  have e5 : W1.cell? ⟨g, 5, none⟩ = some (.slice A n cap) := hr1.cell 5
  have k1 := hr1.free 1
  have HR := Lib.hid hr1
  have HB := Lib.hid hb1
  have HW := Lib.hid hW1
  have HL := Lib.hid hl
  clear hr h hr1 hb1 hW1 hl
  unfold nextV at e1
  by_cases h0 : n = 0
  · subst h0
    have hF : laF l g = nextV 102 g := by unfold laF; rw [if_pos (HL.out.2 rfl)]
    rw [hF]
    have HE := Lib.hid (show Row (W1.setCell ⟨g, 1, none⟩ (.func (.func 102) #[.pointer (some ⟨g, 0, none⟩)] #[])) g 150 (laC p (nextV 102 g) d k c (.slice A 0 cap)) ∧ But w (W1.setCell ⟨g, 1, none⟩ (.func (.func 102) #[.pointer (some ⟨g, 0, none⟩)] #[])) (fun q => q = g) from ⟨HR.out.set 1 _, HB.out.set (p := ⟨g, 1, none⟩) rfl _⟩)
    clear HR HB HL hF
    go_enter Tryz.func66, Tryz.ntmps66
    go_upto_region 1 with (fail)
    rw [show w.setCell ⟨g, 1, none⟩ (.func (.func 101) #[.pointer (some ⟨g, 0, none⟩)] #[]) = W1 from HW.out.symm]
    clear c1 f1
    go_wp2
    go_end0
    exact ⟨rfl, HE.out⟩
  · have hF : laF l g = nextV 101 g := by unfold laF; rw [if_neg (fun e => h0 (HL.out.1 e))]
    rw [hF]
    have b0 : ((n : Int) == 0) = false := by rw [beq_eq_false_iff_ne]; omega
    clear HL hF h0
    go_enter Tryz.func66, Tryz.ntmps66
    go_upto_region 1 with (fail)
    rw [show w.setCell ⟨g, 1, none⟩ (.func (.func 101) #[.pointer (some ⟨g, 0, none⟩)] #[]) = W1 from HW.out.symm]
    clear c1 f1
    go_wp2
    go_end0
    exact ⟨rfl, HR.out, HB.out⟩
/-- What a flush leaves. -/
def LaP (w : World) (y : Lay) (g c : Nat) (s' : St) (t : List Nat) (V : Value) (d : Bool) (k : Int) (w' : World) : Prop := ∃ y' V', MemAt w' y' s' ∧ Row w' g 150 (laC (some ⟨y.g, 0, none⟩) (laF t g) d k c V') ∧ AhA w' V' t ∧ (t ≠ [] → V'.ownBlock = V.ownBlock) ∧ RT w w' y y' g
set_option maxRecDepth 100000 in
set_option maxHeartbeats 3200000 in
theorem laFlush_any {w : World} {y : Lay} {s : St} (h : MemAt w y s) (ok : s.Ok) {g c x : Nat} {t : List Nat} {F V : Value} {d : Bool} {k : Int}
    (hr : Row w g 150 (laC (some ⟨y.g, 0, none⟩) F d k c V)) (ha : AhA w V (x :: t)) (sep : ¬ y.fp g) (vsep : ∀ b, V.ownBlock = some b → ¬ y.fp b ∧ b ≠ g) (hc : c ≤ 64) (h8 : x % 8 = 0) (h64 : x < 64 * s.nl) :
    Calls Tryz.prog 101 #[.pointer (some ⟨g, 0, none⟩)] w fun e w' => e = .returned (.int .i64 0) ∧ LaP w y g c (s.flush c x) t V d k w' := by
  have mixed : Tryz.prog.follows .mixedOrders = true := by kernel_rfl
  rcases ha with ⟨e, _⟩ | ⟨_, b, off, cap, rfl, hlc, hcm, hcell⟩
  · cases e
  obtain ⟨hs1, hs2⟩ := vsep b rfl
  have c5 : w.cell? ⟨g, 5, none⟩ = some (.slice (some ⟨b, off, none⟩) (t.length + 1) cap) := hr.cell 5
  have f5 := hr.free 5
  have p0 : w.cell? ⟨b, off, none⟩ = some (.int .u64 (x : Int)) := hcell 0 (wv x) rfl
  obtain ⟨P2, hP2⟩ : ∃ P2 : Option Addr, P2 = (if cap = 1 then some ⟨b, off, none⟩ else some ⟨b, off + 1, none⟩) := ⟨_, rfl⟩
  have hP3 : t ≠ [] → P2 = some ⟨b, off + 1, none⟩ := fun h0 => by
    have := List.length_pos_iff.2 h0
    rw [hP2, if_neg (by simp only [List.length_cons] at hlc; omega)]
  simp only [List.length_cons] at hlc
  have hbl : b < w.heap.size := block_lt_of_cell p0
  obtain ⟨n, hn⟩ : ∃ n, n = t.length := ⟨_, rfl⟩
  rw [← hn] at c5 hlc
  have HAH := Lib.hid (show AhA w (.slice P2 n (cap - 1)) t from by
    cases t with
    | nil => exact .inl ⟨rfl, _, _, by rw [hn]; rfl, by omega⟩
    | cons u t' =>
      refine .inr ⟨by simp, b, off + 1, cap - 1, by rw [hP3 (by simp), hn], by rw [← hn]; omega, by omega, fun i v hv => ?_⟩
      have := hcell (i + 1) v hv
      rw [show off + 1 + i = off + (i + 1) from by omega]
      exact this)
  obtain ⟨W1, hW1⟩ : ∃ W1, W1 = w.setCell ⟨g, 5, none⟩ (.slice P2 n (cap - 1)) := ⟨_, rfl⟩
  have hr1 : Row W1 g 150 (laC (some ⟨y.g, 0, none⟩) F d k c (.slice P2 n (cap - 1))) := by rw [hW1]; exact hr.set 5 _
  have hb1 : But w W1 (fun q => q = g) := by rw [hW1]; exact (But.refl w (fun q => q = g)).set (p := ⟨g, 5, none⟩) rfl _
  have hah1 : AhA W1 (.slice P2 n (cap - 1)) t := by
    by_cases h0 : t = []
    · subst h0
      exact .inl ⟨rfl, _, _, by rw [hn]; rfl, by omega⟩
    · exact HAH.out.same fun q hq => by
        rw [hP3 h0] at hq
        cases hq
        exact hb1.block b hbl hs2
  have HFN := Lib.hid (laFlushNext_any hr1 hah1)
  have HFIN := Lib.hid (show ∀ w2, Row w2 g 150 (laC (some ⟨y.g, 0, none⟩) (laF t g) d k c (.slice P2 n (cap - 1))) → But W1 w2 (fun q => q = g) → ∀ (p : LowBy w2),
      Calls Tryz.prog 123 #[.pointer (some ⟨y.g, 0, none⟩), .int .i64 (c : Int), .int .u64 (x : Int)] p.W fun e w' => e = .returned (.int .i64 0) ∧ LaP w y g c (s.flush c x) t (.slice (some ⟨b, off, none⟩) (n + 1) cap) d k w' from fun w2 hr2 hb2 p => by
    have hb12 : But w w2 (fun q => q = g) := hb1.trans hb2 fun q hq => .inl hq
    have hm2 : MemAt w2 y s := h.but hb12 (fun q hq e => sep (e ▸ hq))
    refine (flush_ok (hm2.below p.low) ok c x hc h8 h64).mono ?_
    rintro e w3 ⟨rfl, y', hm3, ht3⟩
    have hT : RT w w3 y y' g := (RT.trans ⟨rfl, hb12.mono fun q hq => .inr hq, fun _ h => .inl h⟩ (RT.of_below y g p.low)).trans (RT.of_turn g ht3)
    refine ⟨rfl, y', _, hm3, ht3.but.row (hr2.below p.low hr2.lt) sep, ?_, fun h0 => by rw [hP3 h0]; rfl, hT⟩
    by_cases h0 : t = []
    · subst h0
      exact .inl ⟨rfl, _, _, by rw [hn]; rfl, by omega⟩
    · exact HAH.out.same fun q hq => by
        rw [hP3 h0] at hq
        cases hq
        exact hT.but.block b hbl (fun e => e.elim hs1 hs2))
  have HK := Lib.hid (show ∀ w2, Row w2 g 150 (laC (some ⟨y.g, 0, none⟩) (laF t g) d k c (.slice P2 n (cap - 1))) → w2.cell? ⟨g, 0, none⟩ = some (.pointer (some ⟨y.g, 0, none⟩)) ∧ w2.cell? ⟨g, 4, none⟩ = some (.int .i64 (c : Int)) from fun w2 h => ⟨h.cell 0, h.cell 4⟩)
  rw [show (x :: t).length = n + 1 from by rw [hn]; rfl]
  have hsl : ((n : Int) + 1 == 0) = false := by rw [beq_eq_false_iff_ne]; omega
  have hl1 : (1 : Int) ≤ (n : Int) + 1 := by omega
  have HW := Lib.hid hW1
  have HP2 := Lib.hid hP2
  clear h ok hr sep vsep hc h8 h64 hs1 hs2 hcell hP3 hP2 hn hr1 hb1 hah1 hW1 HAH hbl
  by_cases hcap : cap = 1
  · subst hcap
    obtain rfl : n = 0 := by omega
    have hw : w.setCell ⟨g, 5, none⟩ (.slice (some ⟨b, off, none⟩) 0 0) = W1 := by rw [HW.out, HP2.out, if_pos rfl]
    clear HW HP2
    go_enter Tryz.func101, Tryz.ntmps101
    go_wp2_with fail
    (try rw [hw])
    refine HFN.out.mono ?_
    rintro e w2 ⟨rfl, hr2, hb2⟩
    have HS := Lib.hid (HFIN.out w2 hr2 hb2)
    obtain ⟨k0, k4⟩ := HK.out w2 hr2
    have ca := fun p : LowBy w2 => p.cell k0
    have cb := fun p : LowBy w2 => p.cell k4
    clear hr2 hb2 k0 k4 HFN HFIN HK c5 f5 p0
    go_wp2_with fail
    refine wp_region_low_tail 10 (by assumption) (by kernel_rfl) ?_
    simp only [List.take_succ_cons, List.take_zero, List.drop_succ_cons, List.drop_zero]
    repeat (go_big_quiet_step (fail))
    refine wpQuiet_nil ?_
    intro _ hw'
    obtain ⟨p, hw''⟩ := hw'
    subst hw''
    clear ca cb
    go_wp2_with fail
    refine (HS.out p).mono ?_
    rintro e w3 ⟨rfl, hp⟩
    have HP := Lib.hid hp
    clear hp HS
    go_wp2
    go_ret
    exact ⟨rfl, HP.out⟩
  · have hw : w.setCell ⟨g, 5, none⟩ (.slice (some ⟨b, off + 1, none⟩) n (cap - 1)) = W1 := by rw [HW.out, HP2.out, if_neg hcap]
    clear HW HP2
    go_enter Tryz.func101, Tryz.ntmps101
    go_wp2_with fail
    (try rw [hw])
    refine HFN.out.mono ?_
    rintro e w2 ⟨rfl, hr2, hb2⟩
    have HS := Lib.hid (HFIN.out w2 hr2 hb2)
    obtain ⟨k0, k4⟩ := HK.out w2 hr2
    have ca := fun p : LowBy w2 => p.cell k0
    have cb := fun p : LowBy w2 => p.cell k4
    clear hr2 hb2 k0 k4 HFN HFIN HK c5 f5 p0
    go_wp2_with fail
    refine wp_region_low_tail 10 (by assumption) (by kernel_rfl) ?_
    simp only [List.take_succ_cons, List.take_zero, List.drop_succ_cons, List.drop_zero]
    repeat (go_big_quiet_step (fail))
    refine wpQuiet_nil ?_
    intro _ hw'
    obtain ⟨p, hw''⟩ := hw'
    subst hw''
    clear ca cb
    go_wp2_with fail
    refine (HS.out p).mono ?_
    rintro e w3 ⟨rfl, hp⟩
    have HP := Lib.hid hp
    clear hp HS
    go_wp2
    go_ret
    exact ⟨rfl, HP.out⟩
set_option maxRecDepth 100000 in
set_option maxHeartbeats 3200000 in
theorem laFence_any {w : World} {y : Lay} {s : St} (h : MemAt w y s) (ok : s.Ok) {g c : Nat} {F V : Value} {d : Bool} {k : Int}
    (hr : Row w g 150 (laC (some ⟨y.g, 0, none⟩) F d k c V)) (sep : ¬ y.fp g) (hc : c ≤ 64) (hfe : s.fe + 1 < 9223372036854775808) :
    Calls Tryz.prog 102 #[.pointer (some ⟨g, 0, none⟩)] w fun e w' => e = .returned (.int .i64 0) ∧ ∃ y', MemAt w' y' (s.fence c) ∧ Row w' g 150 (laC (some ⟨y.g, 0, none⟩) F true k c V) ∧ RT w w' y y' g := by
  have mixed : Tryz.prog.follows .mixedOrders = true := by kernel_rfl
  have c2 : w.cell? ⟨g, 2, none⟩ = some (.bool d) := hr.cell 2
  have f2 := hr.free 2
  obtain ⟨W1, hW1⟩ : ∃ W1, W1 = w.setCell ⟨g, 2, none⟩ (.bool true) := ⟨_, rfl⟩
  have hr1 : Row W1 g 150 (laC (some ⟨y.g, 0, none⟩) F true k c V) := by rw [hW1]; exact hr.set 2 _
  have hb1 : But w W1 (fun q => q = g) := by rw [hW1]; exact (But.refl w (fun q => q = g)).set (p := ⟨g, 2, none⟩) rfl _
  have k0 : W1.cell? ⟨g, 0, none⟩ = some (.pointer (some ⟨y.g, 0, none⟩)) := hr1.cell 0
  have k4 : W1.cell? ⟨g, 4, none⟩ = some (.int .i64 (c : Int)) := hr1.cell 4
  have ca := fun p : LowBy W1 => p.cell k0
  have cb := fun p : LowBy W1 => p.cell k4
  have HS := Lib.hid (show ∀ (p : LowBy W1), Calls Tryz.prog 124 #[.pointer (some ⟨y.g, 0, none⟩), .int .i64 (c : Int)] p.W fun e w' => e = .returned (.int .i64 0) ∧ ∃ y', MemAt w' y' (s.fence c) ∧ Row w' g 150 (laC (some ⟨y.g, 0, none⟩) F true k c V) ∧ RT w w' y y' g from fun p => by
    have hm1 : MemAt W1 y s := h.but hb1 (fun q hq e => sep (e ▸ hq))
    refine (fence_ok (hm1.below p.low) ok c hc hfe).mono ?_
    rintro e w3 ⟨rfl, y', hm3, ht3⟩
    exact ⟨rfl, y', hm3, ht3.but.row (hr1.below p.low hr1.lt) sep, (RT.trans ⟨rfl, hb1.mono fun q hq => .inr hq, fun _ h => .inl h⟩ (RT.of_below y g p.low)).trans (RT.of_turn g ht3)⟩)
  clear h ok hr sep hc hfe hr1 hb1 k0 k4
  go_enter Tryz.func102, Tryz.ntmps102
  go_wp2_with fail
  rw [← hW1]
  clear hW1 c2 f2
  refine wp_region_low_tail 9 (by assumption) (by kernel_rfl) ?_
  simp only [List.take_succ_cons, List.take_zero, List.drop_succ_cons, List.drop_zero]
  repeat (go_big_quiet_step (fail))
  refine wpQuiet_nil ?_
  intro _ hw'
  obtain ⟨p, hw''⟩ := hw'
  subst hw''
  clear ca cb
  go_wp2_with fail
  refine (HS.out p).mono ?_
  rintro e w3 ⟨rfl, hp⟩
  have HP := Lib.hid hp
  clear hp HS
  go_wp2
  go_ret
  exact ⟨rfl, HP.out⟩
theorem laStep_of {w : World} {g : Nat} {D : Bool} {k : Int} {Q : World → Prop} (H : Calls Tryz.prog 191 #[.pointer (some ⟨g, 0, none⟩)] w fun e w' => e = .returned (.tuple #[.bool D, .int .i64 k]) ∧ Q w') :
    Calls Tryz.prog 196 #[.pointer (some ⟨g, 0, none⟩)] w fun e w' => e = .returned (.tuple #[.bool D, .int .i64 k]) ∧ Q w' := by
  have H := Lib.hid H
  go_enter Tryz.func196, Tryz.ntmps196
  go_wp2_with fail
  refine H.out.mono ?_
  rintro e w1 ⟨rfl, hq⟩
  have HQ := Lib.hid hq
  clear hq
  go_wp2
  go_ret2
  exact ⟨rfl, HQ.out⟩
set_option maxRecDepth 100000 in
set_option maxHeartbeats 3200000 in
theorem laNew_any {w : World} {p : Option Addr} {c : Int} {V : Value} {l : List Nat} (ha : Adr w V l) (h0 : l ≠ []) (hl : l.length ≤ 1000000001) :
    Calls Tryz.prog 42 #[.pointer p, .int .i64 c, V] w fun e w' => ∃ g V', e = .returned (.pointer (some ⟨g, 0, none⟩)) ∧ Row w' g 150 (laC p (laF l g) false 0 c V') ∧ AhA w' V' l ∧ (∀ k, V'.ownBlock = some k → w.heap.size ≤ k ∧ k ≠ g) ∧ w.heap.size ≤ g ∧ Below w.heap.size w w' := by
  have HC := Lib.hid (cloneA_any ha hl)
  have H0 := Lib.hid h0
  clear ha hl h0
  go_enter Tryz.func42, Tryz.ntmps42
  go_wp2_with fail
  refine HC.out.mono ?_
  rintro e w1 ⟨V', rfl, ha1, hk1, hb1⟩
  have hah := AhA.of ha1 H0.out
  obtain ⟨A0, n0, cap0, rfl⟩ : ∃ A n cap, V' = .slice A n cap := by
    rcases hah with ⟨_, A, cap, e, _⟩ | ⟨_, q, off, cap, e, _⟩
    · exact ⟨_, _, _, e⟩
    · exact ⟨_, _, _, e⟩
  have HFN := Lib.hid (laFlushNext_any (Row.new w1 150 (laC p .nilFunc false 0 c (.slice A0 n0 cap0))) (hah.below (alloc_below _ _)))
  have HAH := Lib.hid hah
  have HK := Lib.hid hk1
  have HB := Lib.hid hb1
  clear ha1 hah hk1 hb1 HC
  unfold laC at HFN
  go_wp2_with fail
  refine HFN.out.mono ?_
  rintro e w2 ⟨rfl, hr2, hb2⟩
  have HE := Lib.hid (show ∃ g V', (w1.heap.size = g) ∧ Row w2 g 150 (laC p (laF l g) false 0 c V') ∧ AhA w2 V' l ∧ (∀ k, V'.ownBlock = some k → w.heap.size ≤ k ∧ k ≠ g) ∧ w.heap.size ≤ g ∧ Below w.heap.size w w2 from by
    have hA := HAH.out
    have hsz := HB.out.size
    refine ⟨_, _, rfl, hr2, ?_, fun k hk => ⟨HK.out k hk, fun e => ?_⟩, hsz, ?_⟩
    · refine (hA.below (alloc_below w1 _)).same fun k hk => hb2.block k ((hA.below (alloc_below w1 _)).lt H0.out hk) ?_
      intro e
      have := hA.lt H0.out hk
      omega
    · have := hA.lt H0.out hk
      omega
    · refine (HB.out.trans ((alloc_below w1 _).mono hsz)).trans (hb2.below ?_ fun k hk => by omega)
      exact Nat.le_trans hsz (by simp))
  clear hr2 hb2 HFN
  go_wp2
  go_ret
  obtain ⟨g, V2, rfl, h⟩ := HE.out
  exact ⟨_, V2, rfl, h⟩
/-- A node's lines. -/
def lns (a : Nat) : List Nat := [a, a + 64, a + 128]
set_option maxRecDepth 100000 in
set_option maxHeartbeats 3200000 in
theorem laLines_any {w : World} {a : Nat} (ha : a + 128 < 18446744073709551616) :
    Calls Tryz.prog 43 #[.int .u64 (a : Int)] w fun e w' => ∃ V, e = .returned V ∧ Adr w' V (lns a) ∧ (∀ k, V.ownBlock = some k → w.heap.size ≤ k) ∧ Below w.heap.size w w' := by
  have e1 : IntKind.u64.wrap ((a : Int) + 64) = ((a + 64 : Nat) : Int) := by rw [IntKind.wrap_u64]; omega
  have e2 : IntKind.u64.wrap ((a : Int) + 128) = ((a + 128 : Nat) : Int) := by rw [IntKind.wrap_u64]; omega
  obtain ⟨a1, h1⟩ : ∃ a1 : Nat, a1 = a + 64 := ⟨_, rfl⟩
  obtain ⟨a2, h2⟩ : ∃ a2 : Nat, a2 = a + 128 := ⟨_, rfl⟩
  rw [← h1] at e1
  rw [← h2] at e2
  have hL : lns a = [a, a1, a2] := by rw [h1, h2]; rfl
  rw [hL]
  clear ha h1 h2 hL
  go_enter Tryz.func43, Tryz.ntmps43
  go_wp2
  go_ret
  refine ⟨_, rfl, .inr ⟨_, 0, 3, _, rfl, Row.new _ _ _, Nat.le_refl _, by decide, Nat.le_refl _, rfl⟩, fun k hk => ?_, alloc_below _ _⟩
  cases hk
  exact Nat.le_refl _
end Go.Proofs.YtpjlajkjknkbaaaGreatDoor
