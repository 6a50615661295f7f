/- Texts of this claim, packed: RnA. -/
import Derived.Test.YteojhhfcfdkmdaaPm24
import Derived.Lib.SliceRun
import Derived.Deep.Cut
import Derived.Laws.EntriesVeiled
set_option linter.unusedSimpArgs false
set_option linter.unusedVariables false
/- Runs: where one lies; slices of stores that are read; the copy of one; a run anew; how many are left; for stores that lie in memory. -/
namespace Go.Proofs.Yteojhhfcfdkmdaa
open Go.RowKit Go.Shelf
set_option linter.unusedVariables false

/-- A slice that reads as these stores. -/
def Ahead (w : World) (V : Value) (l : List (Nat × Nat)) : Prop :=
  (l = [] ∧ ∃ A cap, V = .slice A 0 cap ∧ cap ≤ maxLen) ∨
  (l ≠ [] ∧ ∃ g off cap, V = .slice (some ⟨g, off, none⟩) l.length cap ∧ l.length ≤ cap ∧ cap ≤ maxLen ∧ ∀ (i : Nat) (u : Value), (flat l)[i]? = some u → w.cell? ⟨g, off + i, none⟩ = some u)
theorem Ahead.nil (w : World) : Ahead w (.slice none 0 0) [] := .inl ⟨rfl, Option.none, 0, rfl, Nat.zero_le _⟩
theorem cell_heap {w w' : World} {g i : Nat} (h : w'.heap[g]? = w.heap[g]?) : w'.cell? ⟨g, i, Option.none⟩ = w.cell? ⟨g, i, Option.none⟩ := by
  unfold World.cell?
  simp only [h]
theorem Ahead.same {w w' : World} {V : Value} {l : List (Nat × Nat)} (h : Ahead w V l) (hk : ∀ k, V.ownBlock = some k → w'.heap[k]? = w.heap[k]?) : Ahead w' V l := by
  rcases h with h | ⟨h0, g, off, cap, rfl, h1, h2, h3⟩
  · exact .inl h
  · exact .inr ⟨h0, g, off, cap, rfl, h1, h2, fun i u hu => (cell_heap (hk g rfl)).trans (h3 i u hu)⟩
theorem Ahead.lt {w : World} {V : Value} {l : List (Nat × Nat)} (h : Ahead w V l) (h0 : l ≠ []) {k : Nat} (hk : V.ownBlock = some k) : k < w.heap.size := by
  rcases h with ⟨h, _⟩ | ⟨_, g, off, cap, rfl, h1, h2, h3⟩
  · exact absurd h h0
  · cases hk
    cases l with
    | nil => exact absurd rfl h0
    | cons p t =>
      have := h3 0 (wv p.1) (by rw [flat_cons]; rfl)
      exact block_lt_of_cell this
theorem Ahead.below {w w' : World} {V : Value} {l : List (Nat × Nat)} (h : Ahead w V l) (hb : Below w.heap.size w w') : Ahead w' V l := by
  by_cases h0 : l = []
  · rcases h with h | ⟨h1, _⟩
    · exact .inl h
    · exact absurd h0 h1
  · exact h.same fun k hk => hb.block k (h.lt h0 hk)
theorem Ahead.len {w : World} {V : Value} {l : List (Nat × Nat)} (h : Ahead w V l) : ∃ A cap, V = .slice A l.length cap ∧ l.length ≤ cap ∧ cap ≤ maxLen := by
  rcases h with ⟨rfl, A, cap, rfl, h1⟩ | ⟨_, g, off, cap, rfl, h1, h2, _⟩
  · exact ⟨A, cap, rfl, Nat.zero_le _, h1⟩
  · exact ⟨_, cap, rfl, h1, h2⟩

set_option maxRecDepth 100000 in
set_option maxHeartbeats 1600000 in
theorem rcloneA_any {w : World} {V : Value} {l : List (Nat × Nat)} (h : Ahead w V l) (h0 : l = [] → V = .slice none 0 0) (hl : l.length ≤ 1000000000) :
    Calls Try.prog 49 #[V] w fun e w' => (∃ v', e = .returned v' ∧ Ahead w' v' l ∧ (∀ k, v'.ownBlock = some k → w.heap.size ≤ k)) ∧ Below w.heap.size w w' := by
  obtain ⟨i0, hi, hz0, hz1, hz2⟩ := info_parts info64
  have q22 : ∀ (w : World) (a : Option Addr) (n c n' c' : Nat), (binOp .eql 60 (.slice a n c) (.slice none n' c')).run Try.prog w = .ok (.bool a.isNone) w := fun w a n c n' c' => Lib.run_eql_slice_nil w _ _ a n c n' c' Try.underlying60
  rcases h with ⟨rfl, A, cap, rfl, hm⟩ | ⟨hn, g, off, cap, rfl, hlc, hcm, hc0⟩
  · have e := h0 rfl
    injection e with e1 _ e3
    subst e1 e3
    clear h0
    go_enter Try.func49, Try.ntmps49
    go_wp2
    go_ret
    exact ⟨⟨.slice none 0 0, rfl, Ahead.nil _, nofun⟩, Below.refl _ _⟩
  have hc : ∀ (o : Obj) (j : Nat) u, (flat l)[j]? = some u → (w.alloc o).cell? ((⟨g, off, none⟩ : Addr).add j) = some u := by
    intro o j u hu
    rw [Addr.add_lit]
    have := hc0 j u hu
    exact ((Below.alloc (Below.refl _ w) (Nat.le_refl _) o).cell (p := ⟨g, off + j, none⟩) (block_lt_of_cell this)).trans this
  have HC := Lib.hid hc
  have HL := Lib.hid hl
  have HP := Lib.hid (List.length_pos_iff.2 hn)

  clear hc hl hc0 hcm hlc h0 hn
  obtain ⟨n, hn⟩ : ∃ n, n = l.length := ⟨_, rfl⟩
  rw [← hn] at HL HP ⊢
  have HN := Lib.hid hn
  clear hn
  go_enter Try.func49, Try.ntmps49
  go_wp2_with (at_builtin; refine wpList_append_own _ rfl _ _ 60 rfl w.heap.size 64 i0 (.agg #[.int .u64 0, .int .u64 0]) 2 16 Try.underlying60 hi hz0 hz1 hz2 rfl (by decide) _ _ _ rfl (World.ownsRow_made w #[] 0 (Nat.le_refl _) (Nat.zero_le _) rfl) ⟨g, off, none⟩ n cap (flat l) rfl ?qc1 ?qc2 ?qc3 ?qc4 ?qc5 ?qc6 ?_)
  case qc1 => rw [flat_length, HN.out]; omega
  case qc2 => intro j u hj; exact HC.out _ j u hj
  case qc3 => exact flat_ones l
  case qc4 => have := HL.out; unfold maxLen; omega
  case qc5 => have := HL.out; omega
  case qc6 => simp
  intro v' w1 hown hgrow hnil
  go_wp2
  go_ret
  refine ⟨⟨v', rfl, ?_, ?_⟩, ?_⟩
  · rcases hown.2 with ⟨_, h1⟩ | ⟨g', cap', cur', rfl, hb, hh, h2, h3, h4, h5⟩
    · have := HP.out
      omega
    · refine .inr ⟨List.length_pos_iff.1 (by rw [← HN.out]; exact HP.out), g', 0, cap', by rw [← HN.out], by have := HN.out; omega, h3, ?_⟩
      intro i u hu
      have := hown.cells rfl i u (by simpa using hu)
      rw [Addr.add_lit] at this
      exact this
  · intro k hk
    exact (hown.lt k hk).1
  · exact ((Below.refl _ w).alloc (Nat.le_refl _) _).grown hgrow (by simp) (by intro k hk; simp [Value.ownBlock] at hk; omega)

/-- What a run is to do next: a store, a flush, a fence, the end. -/
inductive Ph where
  | st
  | fl
  | fe
  | en
deriving DecidableEq
/-- A run's state. -/
structure RnRS where
  c : Int
  left : List (Nat × Nat)
  line : Nat
  ph : Ph
  done : Bool
  code : Int
def Ph.fn (rg : Nat) : Ph → Value
  | .st => .func (.func 50) #[.pointer (some ⟨rg, 0, none⟩)] #[]
  | .fl => .func (.func 72) #[.pointer (some ⟨rg, 0, none⟩)] #[]
  | .fe => .func (.func 84) #[.pointer (some ⟨rg, 0, none⟩)] #[]
  | .en => .func (.func 51) #[.pointer (some ⟨rg, 0, none⟩)] #[]
/-- Where it lies. -/
structure RunAt (w : World) (rg : Nat) (p : Option Addr) (r : RnRS) (V : Value) : Prop where
  row : Row w rg 113 #[.pointer p, .int .i64 r.c, V, .int .u64 (r.line : Int), r.ph.fn rg, .bool r.done, .int .i64 r.code]
  ah : Ahead w V r.left
def RnRS.new (c : Int) (l : List (Nat × Nat)) : RnRS := ⟨c, l, 0, if l = [] then .en else .st, false, 0⟩
set_option maxRecDepth 100000 in
set_option maxHeartbeats 1600000 in
theorem rnew_any {w : World} (p : Option Addr) (c : Int) {V : Value} {l : List (Nat × Nat)} (h : Ahead w V l) (h0 : l = [] → V = .slice none 0 0) (hl : l.length ≤ 1000000000) :
    Calls Try.prog 26 #[.pointer p, .int .i64 c, V] w fun e w' => (∃ rg V', e = .returned (.pointer (some ⟨rg, 0, none⟩)) ∧ RunAt w' rg p (RnRS.new c l) V' ∧ w.heap.size ≤ rg ∧ ∀ k, V'.ownBlock = some k → l ≠ [] → w.heap.size ≤ k ∧ k ≠ rg) ∧ Below w.heap.size w w' := by
  have HC := Lib.hid fun W (hb : Below w.heap.size w W) => rcloneA_any (h.below hb) h0 hl
  obtain ⟨A, cap, rfl, hlc, hcm⟩ := h.len
  clear h
  go_enter Try.func26, Try.ntmps26
  go_wp2_with fail
  refine (HC.out _ (Below.refl _ _)).mono ?_
  rintro e w1 ⟨⟨v', rfl, hah, hnew⟩, hb⟩
  obtain ⟨A', cap', rfl, hlc', hcm'⟩ := hah.len
  have HA := Lib.hid hah
  have HW := Lib.hid hnew
  have HB := Lib.hid hb
  clear hah hnew hb hl HC
  obtain ⟨n, hn⟩ : ∃ n, n = l.length := ⟨_, rfl⟩
  have HNL := Lib.hid hn
  rw [← hn] at HA HW hlc hlc' ⊢
  clear hn h0
  go_upto_region 2 with (fail)
  obtain ⟨W2, hW2⟩ : ∃ W2, W2 = w1.alloc (.cells #[.pointer p, .int .i64 c, .slice A' n cap', .int .u64 0, Value.nilFunc, .bool false, .int .i64 0] 113) := ⟨_, rfl⟩
  rw [← hW2]
  obtain ⟨rg, hrg⟩ : ∃ rg, rg = w1.heap.size := ⟨_, rfl⟩
  rw [← hrg]
  have hr : Row W2 rg 113 #[.pointer p, .int .i64 c, .slice A' n cap', .int .u64 0, Value.nilFunc, .bool false, .int .i64 0] := by
    rw [hW2]
    exact rowAt hrg
  have c4 := hr.cell 4
  simp only [List.getElem?_toArray, List.getElem?_cons_succ, List.getElem?_cons_zero] at c4
  have f4 := hr.free 4
  obtain ⟨W3, hW3⟩ : ∃ W3, W3 = W2.setCell ⟨rg, 4, none⟩ (.func (.func 50) #[.pointer (some ⟨rg, 0, none⟩)] #[]) := ⟨_, rfl⟩
  have hr3 : Row W3 rg 113 #[.pointer p, .int .i64 c, .slice A' n cap', .int .u64 0, .func (.func 50) #[.pointer (some ⟨rg, 0, none⟩)] #[], .bool false, .int .i64 0] := by
    rw [hW3]
    exact hr.set 4 _
  have c4' := hr3.cell 4
  simp only [List.getElem?_toArray, List.getElem?_cons_succ, List.getElem?_cons_zero] at c4'
  have f4' := hr3.free 4
  have b2 : Below w1.heap.size w1 W2 := by
    rw [hW2]
    exact (Below.refl _ _).alloc (Nat.le_refl _) _
  have b3 : Below w1.heap.size w1 W3 := by
    rw [hW3]
    exact b2.setCell (p := ⟨rg, 4, none⟩) (by rw [hrg]; exact Nat.le_refl _) _
  have hsz := HB.out.size
  have hsep : ∀ k, (Value.slice A' n cap').ownBlock = some k → l ≠ [] → w.heap.size ≤ k ∧ k ≠ rg := fun k hk h0 => ⟨HW.out k hk, by
    have := HA.out.lt h0 hk
    omega⟩
  by_cases hl0 : l = []
  · have HE := Lib.hid (show (∃ V', RunAt (W3.setCell ⟨rg, 4, none⟩ (.func (.func 51) #[.pointer (some ⟨rg, 0, none⟩)] #[])) rg p (RnRS.new c l) V' ∧ w.heap.size ≤ rg ∧ ∀ k, V'.ownBlock = some k → l ≠ [] → w.heap.size ≤ k ∧ k ≠ rg) ∧ Below w.heap.size w (W3.setCell ⟨rg, 4, none⟩ (.func (.func 51) #[.pointer (some ⟨rg, 0, none⟩)] #[])) from by
      have b4 := b3.setCell (p := ⟨rg, 4, none⟩) (by rw [hrg]; exact Nat.le_refl _) (.func (.func 51) #[.pointer (some ⟨rg, 0, none⟩)] #[])
      refine ⟨⟨_, ⟨?_, HA.out.below b4⟩, by omega, hsep⟩, Below.and HB.out b4⟩
      subst hl0
      exact hr3.set 4 _)
    have hn0 : n = 0 := by rw [HNL.out, hl0]; rfl
    subst hn0
    have HW3 := Lib.hid hW3
    clear hr hr3 b2 b3 hsep hrg hW2 HNL HA HW hl0 hsz
    rw [hW3] at c4' f4' HE
    clear hW3 HW3
    go_wp2

    go_ret
    exact ⟨(HE.out.1).elim fun V' h => ⟨rg, V', rfl, h⟩, HE.out.2⟩
  · have hl1 : ((n : Int) == 0) = false := by
      have := List.length_pos_iff.2 hl0
      rw [beq_eq_false_iff_ne]; rw [HNL.out]; omega
    have HE := Lib.hid (show (∃ V', RunAt W3 rg p (RnRS.new c l) V' ∧ w.heap.size ≤ rg ∧ ∀ k, V'.ownBlock = some k → l ≠ [] → w.heap.size ≤ k ∧ k ≠ rg) ∧ Below w.heap.size w W3 from by
      refine ⟨⟨_, ⟨?_, HA.out.below b3⟩, by omega, hsep⟩, Below.and HB.out b3⟩
      unfold RnRS.new
      rw [if_neg hl0]
      exact hr3)
    rw [hW3] at HE
    clear hr hr3 b2 b3 hsep hrg hW2 HNL HA HW hl0 hsz hW3 c4' f4'
    go_wp2
    go_ret
    exact ⟨(HE.out.1).elim fun V' h => ⟨rg, V', rfl, h⟩, HE.out.2⟩
end Go.Proofs.Yteojhhfcfdkmdaa
