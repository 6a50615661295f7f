/- Texts of this claim, packed: 7Rel. -/
import Derived.Test.YtiefgmibgdidpaaGreatDoorPh08
import Derived.BigQuiet
import Derived.Deep.QuietTactic
import Derived.Deep.RegionHeld3
/- Release, Wants, New: what each answers, and which locks it leaves; for any table, client and address. -/
namespace Go.Proofs.YtiefgmibgdidpaaGreatDoor
open Go.RowKit
set_option linter.unusedVariables false
theorem rel_end {w w1 : World} {g b : Nat} {s : Lk} (hK : KAt w g b s) {c id : Nat} (hc : c < s.n) (h1 : (s.wt c = id ∧ w1 = w.setCell ⟨g, 2 + c, none⟩ (.int .u64 0)) ∨ (s.wt c ≠ id ∧ w1 = w)) :
    KAt w1 g b ⟨s.n, s.hm, (if s.wt c = id then setW s.wt c 0 else s.wt), s.sz⟩ ∧ But w w1 (kfp g b) := by
  have c64 : c < 64 := by have := hK.ok.n2; omega
  have ok : Lk.Ok ⟨s.n, s.hm, (if s.wt c = id then setW s.wt c 0 else s.wt), s.sz⟩ := by
    have h := hK.ok
    have hwt : ∀ d, (if s.wt c = id then setW s.wt c 0 else s.wt) d = s.wt d ∨ (if s.wt c = id then setW s.wt c 0 else s.wt) d = 0 := by
      intro d
      split
      · unfold setW
        split
        · exact .inr rfl
        · exact .inl rfl
      · exact .inl rfl
    refine ⟨h.n1, h.n2, h.h0, h.hc, ?_, ?_, ?_, h.zs⟩
    · intro d
      have := h.wb d
      rcases hwt d with e | e
      · show (if s.wt c = id then setW s.wt c 0 else s.wt) d < _
        rw [e]; exact this
      · show (if s.wt c = id then setW s.wt c 0 else s.wt) d < _
        rw [e]; omega
    · intro d hd
      show (if s.wt c = id then setW s.wt c 0 else s.wt) d = 0
      rcases hwt d with e | e
      · rw [e]; exact h.wo d hd
      · exact e
    · intro d hd he
      change (if s.wt c = id then setW s.wt c 0 else s.wt) d ≠ 0 at hd
      change s.hm ((if s.wt c = id then setW s.wt c 0 else s.wt) d) = some d at he
      rcases hwt d with e | e
      · rw [e] at hd he
        exact h.hw d hd he
      · exact hd e
  rcases h1 with ⟨e, rfl⟩ | ⟨e, rfl⟩
  · exact ⟨hK.wset c64 rfl rfl (if_pos e) rfl ok, But.set (But.refl _ _) (.inl rfl) _⟩
  · refine ⟨⟨?_, hK.mp, ok⟩, But.refl _ _⟩
    show Row _ _ _ (ktcells s.n (some b) (if s.wt c = id then setW s.wt c 0 else s.wt))
    rw [if_neg e]
    exact hK.row
set_option maxHeartbeats 1000000 in
theorem rel_any {w : World} {g b : Nat} {s : Lk} (h : KAt w g b s) {c id : Nat} (hc : c < s.n) (h0 : id ≠ 0) (hi : id < 18446744073709551616) :
    Calls Tryz.prog 31 #[.pointer (some ⟨g, 0, none⟩), .int .i64 (c : Int), .int .u64 (id : Int)] w (KPost w g b (relB s c id) (relS s c id)) := by
  have c64 : c < 64 := by have := h.ok.n2; omega
  have hI := kis_any h (c : Int)
  rw [isC_yes hc] at hI
  have HI := Lib.hid hI
  have HO := Lib.hid (relS_ok (id := id) h.ok hc)
  have hid0 := nat_eq0 h0
  have hcell := h.cw c64
  have hfr := h.free (2 + c)
  obtain ⟨w1, hw1⟩ : ∃ w1, w1 = (if s.wt c = id then w.setCell ⟨g, 2 + c, none⟩ (.int .u64 0) else w) := ⟨_, rfl⟩
  obtain ⟨hK1, hB1⟩ := rel_end (w1 := w1) h (id := id) hc (by by_cases e : s.wt c = id; exact .inl ⟨e, by rw [hw1, if_pos e]⟩; exact .inr ⟨e, by rw [hw1, if_neg e]⟩)
  have HH := holder_any hK1 hi
  change Calls _ _ _ w1 (fun e w' => e = .returned (.tuple #[hV (s.hm id), .bool (s.hm id).isSome]) ∧ w1 = w') at HH
  have hcm1 := hK1.cm
  obtain ⟨w2, hdel, hH2, hg2⟩ := has_del (ty := 0) hK1.mp hi
  have hrow2 : Row w2 g 135 _ := hK1.row.grown hg2 (fun e => h.ne (by injection e))
  have hbut2 : But w w2 (kfp g b) := hB1.trans (⟨hg2.os, hg2.tape, hg2.output, hg2.size, fun k hk hn => hg2.block k hk (fun e => hn (.inr (by injection e)))⟩ : But w1 w2 (kfp g b)) (fun k hk => .inl hk)
  have HR2 := Lib.hid hrow2
  have HB2 := Lib.hid hbut2
  have HH2 := Lib.hid hH2
  have HK := Lib.hid h
  have HK1 := Lib.hid hK1
  have HB1 := Lib.hid hB1
  have HW := Lib.hid hw1
  have hrel : relB s c id = true → KPost w g b (relB s c id) (relS s c id) (.returned (.bool true)) w2 := by
    intro hb
    rw [hb]
    refine ⟨rfl, ⟨HR2.out, ?_, HO.out⟩, HB2.out⟩
    have hs : (relS s c id).hm = setH s.hm id none := if_pos hb
    rw [hs]
    exact HH2.out
  have hno : relB s c id = false → KPost w g b (relB s c id) (relS s c id) (.returned (.bool false)) w1 := by
    intro hb
    rw [hb]
    refine ⟨rfl, ⟨HK1.out.row, ?_, HO.out⟩, HB1.out⟩
    have hs : (relS s c id).hm = s.hm := if_neg (by rw [hb]; simp)
    rw [hs]
    exact HK1.out.mp
  cases e : s.hm id with
  | none =>
    have hb : relB s c id = false := by unfold relB; rw [e]; rfl
    have HE := Lib.hid (hno hb)
    rw [e, hV_none, Option.isSome_none] at HH
    have HH := Lib.hid HH
    clear h hc h0 hi hb hg2 hrow2 hbut2 hH2 hI hrel hno hdel hcm1 hK1 hB1 e
    by_cases ht : s.wt c = id
    · rw [if_pos ht] at hw1
      subst hw1
      rw [ht] at hcell
      clear ht
      go_enter Tryz.func31, Tryz.ntmps31
      go_wp2_with fail
      refine HI.out.mono ?_
      rintro e w1 ⟨rfl, rfl⟩
      go_wp2_with fail
      refine HH.out.mono ?_
      rintro e w1 ⟨rfl, rfl⟩
      go_wp2
      go_ret
      exact HE.out
    · rw [if_neg ht] at hw1
      subst hw1
      have ht' := nat_ne' ht
      clear ht
      generalize s.wt c = t at *
      go_enter Tryz.func31, Tryz.ntmps31
      go_wp2_with fail
      refine HI.out.mono ?_
      rintro e w1 ⟨rfl, rfl⟩
      go_wp2_with fail
      refine HH.out.mono ?_
      rintro e w1 ⟨rfl, rfl⟩
      go_wp2
      go_ret
      exact HE.out
  | some x =>
    rw [e, hV_some, Option.isSome_some] at HH
    have HH := Lib.hid HH
    by_cases hx : x = c
    · have hb : relB s c id = true := by unfold relB; rw [e, hx]; simp
      have HE := Lib.hid (hrel hb)
      subst hx
      clear h hc h0 hi hb hg2 hrow2 hbut2 hH2 hI hrel hno hK1 hB1 e
      by_cases ht : s.wt x = id
      · rw [if_pos ht] at hw1
        subst hw1
        rw [ht] at hcell
        clear ht
        go_enter Tryz.func31, Tryz.ntmps31
        go_wp2_with fail
        refine HI.out.mono ?_
        rintro e w1 ⟨rfl, rfl⟩
        go_wp2_with fail
        refine HH.out.mono ?_
        rintro e w1 ⟨rfl, rfl⟩
        go_wp2
        go_ret
        exact HE.out
      · rw [if_neg ht] at hw1
        subst hw1
        have ht' := nat_ne' ht
        clear ht
        generalize s.wt x = t at *
        go_enter Tryz.func31, Tryz.ntmps31
        go_wp2_with fail
        refine HI.out.mono ?_
        rintro e w1 ⟨rfl, rfl⟩
        go_wp2_with fail
        refine HH.out.mono ?_
        rintro e w1 ⟨rfl, rfl⟩
        go_wp2
        go_ret
        exact HE.out
    · have hb : relB s c id = false := by unfold relB; rw [e]; simpa using hx
      have HE := Lib.hid (hno hb)
      have hne := nat_ne hx
      clear h hc h0 hi hb hg2 hrow2 hbut2 hH2 hI hrel hno hdel hcm1 hK1 hB1 e hx
      by_cases ht : s.wt c = id
      · rw [if_pos ht] at hw1
        subst hw1
        rw [ht] at hcell
        clear ht
        go_enter Tryz.func31, Tryz.ntmps31
        go_wp2_with fail
        refine HI.out.mono ?_
        rintro e w1 ⟨rfl, rfl⟩
        go_wp2_with fail
        refine HH.out.mono ?_
        rintro e w1 ⟨rfl, rfl⟩
        go_wp2
        go_ret
        exact HE.out
      · rw [if_neg ht] at hw1
        subst hw1
        have ht' := nat_ne' ht
        clear ht
        generalize s.wt c = t at *
        go_enter Tryz.func31, Tryz.ntmps31
        go_wp2_with fail
        refine HI.out.mono ?_
        rintro e w1 ⟨rfl, rfl⟩
        go_wp2_with fail
        refine HH.out.mono ?_
        rintro e w1 ⟨rfl, rfl⟩
        go_wp2
        go_ret
        exact HE.out
theorem nat_bne0 (n : Nat) : ((n : Int) != 0) = decide (n ≠ 0) := by
  rw [Bool.eq_iff_iff]
  simp
theorem wants_any {w : World} {g b : Nat} {s : Lk} (h : KAt w g b s) {c : Nat} (hc : c < s.n) :
    Calls Tryz.prog 30 #[.pointer (some ⟨g, 0, none⟩), .int .i64 (c : Int)] w fun e w' => e = .returned (.tuple #[.int .u64 (s.wt c : Int), .bool (decide (s.wt c ≠ 0))]) ∧ Below w.heap.size w w' := by
  have c64 : c < 64 := by have := h.ok.n2; omega
  have hI := kis_any h (c : Int)
  rw [isC_yes hc] at hI
  have HI := Lib.hid hI
  have hcell := h.cw c64
  have hb := nat_bne0 (s.wt c)
  clear h hc hI
  generalize s.wt c = t at *
  generalize decide (t ≠ 0) = y at *
  go_enter Tryz.func30, Tryz.ntmps30
  go_wp2_with fail
  refine HI.out.mono ?_
  rintro e w1 ⟨rfl, rfl⟩
  go_wp2
  go_quiet (fail)
  go_wp2
  go_ret2
  exact ⟨rfl, drewN_below _ _⟩
/-- Locks that nobody has. -/
def lk0 (n : Nat) : Lk := ⟨n, fun _ => none, fun _ => 0, 0⟩
theorem lk0_ok {n : Nat} (h1 : 1 ≤ n) (h2 : n ≤ 64) : (lk0 n).Ok :=
  ⟨h1, h2, rfl, fun _ _ h => (by cases h), fun _ => (by show (0 : Nat) < _; omega), fun _ _ => rfl, fun _ h => absurd rfl h, (by show (0 : Nat) ≤ _; omega)⟩
def KNewPost (w : World) (n : Nat) (e : Ending) (w' : World) : Prop := ∃ g b, e = .returned (.tuple #[.pointer (some ⟨g, 0, none⟩), .int .i64 0]) ∧ KAt w' g b (lk0 n) ∧ w.heap.size ≤ g ∧ w.heap.size ≤ b ∧ Below w.heap.size w w'
theorem hasAt_new {w : World} {b : Nat} (h : w.heap[b]? = some (.map #[] 0)) : HasAt w b (fun _ => none) 0 :=
  ⟨.map [], ⟨#[], 0, h, ⟨by simp, MapKept.stamped_empty 0, by simp⟩, Nat.le_refl _, rfl⟩, fun k hk => (by cases hk), fun id _ => rfl, fun id c _ h => (by cases h)⟩
theorem knew_mk {w : World} {n : Nat} (h1 : 1 ≤ n) (h2 : n ≤ 64) {W : World} (hW : W = (w.alloc (.map #[] 0)).alloc (.cells (ktcells n (some w.heap.size) fun _ => 0) 135)) :
    KNewPost w n (.returned (.tuple #[.pointer (some ⟨w.heap.size + 1, 0, none⟩), .int .i64 0])) W := by
  subst hW
  refine ⟨w.heap.size + 1, w.heap.size, rfl, ⟨?_, ?_, lk0_ok h1 h2⟩, by omega, by omega, Below.and (alloc_below _ _) (alloc_below _ _)⟩
  · have := Row.new (w.alloc (.map #[] 0)) 135 (ktcells n (some w.heap.size) fun _ => 0)
    simp only [lk0]
    simpa using this
  · refine hasAt_new ?_
    exact (Below.heap_alloc _ _ _ (by simp)).trans (heap_alloc_new w _)
theorem zeros_t : Tryz.zeroCells135 = ktcells 0 none (fun _ => 0) := by kernel_rfl
theorem tcells_else (n k : Nat) (m l : Option Nat) (wt : Nat → Nat) (j : Nat) (h : 2 ≤ j) : (ktcells n m wt)[j]? = (ktcells k l wt)[j]? := by
  unfold ktcells
  rw [Array.getElem?_append_right (by simpa using h), Array.getElem?_append_right (by simpa using h)]
  rfl
theorem tcells_size (n : Nat) (m : Option Nat) (wt : Nat → Nat) : (ktcells n m wt).size = 66 := by simp [ktcells]
theorem tcells_sn (n k : Nat) (m : Option Nat) (wt : Nat → Nat) : (ktcells n m wt).setIfInBounds 0 (.int .i64 (k : Int)) = ktcells k m wt := by
  apply Array.ext_getElem?
  intro j
  rw [Array.getElem?_setIfInBounds]
  by_cases e : 0 = j
  · subst e
    rw [if_pos rfl, if_pos (by rw [tcells_size]; omega), tcells_0]
  · rw [if_neg e]
    by_cases e1 : j = 1
    · subst e1
      rw [tcells_1, tcells_1]
    · exact tcells_else _ _ _ _ _ _ (by omega)
theorem tcells_sm (n : Nat) (m k : Option Nat) (wt : Nat → Nat) : (ktcells n m wt).setIfInBounds 1 (.map k) = ktcells n k wt := by
  apply Array.ext_getElem?
  intro j
  rw [Array.getElem?_setIfInBounds]
  by_cases e : 1 = j
  · subst e
    rw [if_pos rfl, if_pos (by rw [tcells_size]; omega), tcells_1]
  · rw [if_neg e]
    by_cases e1 : j = 0
    · subst e1
      rw [tcells_0, tcells_0]
    · exact tcells_else _ _ _ _ _ _ (by omega)
theorem tcells_made (n : Nat) (k : Option Nat) : (Tryz.zeroCells135.setIfInBounds 0 (.int .i64 (n : Int))).setIfInBounds 1 (.map k) = ktcells n k (fun _ => 0) := by
  rw [zeros_t, tcells_sn, tcells_sm]
set_option maxRecDepth 100000 in
set_option maxHeartbeats 1000000 in
theorem knew_yes {n : Nat} (w : World) (h1 : 1 ≤ n) (h2 : n ≤ 64) : Calls Tryz.prog 43 #[.int .i64 (n : Int)] w (KNewPost w n) := by
  have HE := Lib.hid (fun W hW => knew_mk (w := w) h1 h2 (W := W) hW)
  have hmm := @run_makeMap Tryz.prog
  have g1 : decide ((n : Int) < 1) = false := by simp; omega
  have g2 : decide (64 < (n : Int)) = false := by simp; omega
  clear h1 h2
  go_enter Tryz.func43, Tryz.ntmps43
  go_wp2
  go_ret2
  exact HE.out _ (by rw [tcells_made])
end Go.Proofs.YtiefgmibgdidpaaGreatDoor
