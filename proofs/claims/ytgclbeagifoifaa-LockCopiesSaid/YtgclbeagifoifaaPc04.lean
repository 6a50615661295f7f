/- Texts of this claim, packed: 7Try. -/
import Derived.Test.YtgclbeagifoifaaPc03
/- Try, Release, Wants: what each answers, and which locks it leaves; for any table, client and address. -/
namespace Go.Proofs.Ytgclbeagifoifaa
open Go.RowKit
set_option linter.unusedVariables false
/-- May the client have the lock? -/
def tryB (s : Lk) (c id : Nat) : Bool := match s.hm id with | none => true | some h => h == c
def tryS (s : Lk) (c id : Nat) : Lk := if tryB s c id = true then ⟨s.n, setH s.hm id (some c), setW s.wt c 0, s.sz + 1⟩ else ⟨s.n, s.hm, setW s.wt c id, s.sz⟩
def relB (s : Lk) (c id : Nat) : Bool := s.hm id == some c
def relS (s : Lk) (c id : Nat) : Lk := ⟨s.n, (if relB s c id = true then setH s.hm id none else s.hm), (if s.wt c = id then setW s.wt c 0 else s.wt), s.sz⟩
theorem tryS_n (s : Lk) (c id : Nat) : (tryS s c id).n = s.n := by unfold tryS; split <;> rfl
theorem tryS_sz (s : Lk) (c id : Nat) : (tryS s c id).sz ≤ s.sz + 1 := by unfold tryS; split <;> simp
theorem tryS_ok {s : Lk} (h : s.Ok) {c id : Nat} (hc : c < s.n) (h0 : id ≠ 0) (hi : id < 18446744073709551616) (hz : s.sz < 1000000) : (tryS s c id).Ok := by
  unfold tryS
  split
  · rename_i hb
    refine ⟨h.n1, h.n2, ?_, ?_, ?_, ?_, ?_, by show s.sz + 1 ≤ _; omega⟩
    · show setH s.hm id (some c) 0 = none
      unfold setH
      rw [if_neg (by omega)]
      exact h.h0
    · intro i d hd
      change setH s.hm id (some c) i = some d at hd
      unfold setH at hd
      split at hd
      · rename_i e
        cases hd
        exact ⟨hc, by omega⟩
      · exact h.hc i d hd
    · intro d
      show setW s.wt c 0 d < _
      unfold setW
      split
      · omega
      · exact h.wb d
    · intro d hd
      show setW s.wt c 0 d = 0
      unfold setW
      split
      · rfl
      · exact h.wo d hd
    · intro d hd
      change setW s.wt c 0 d ≠ 0 at hd
      show setH s.hm id (some c) (setW s.wt c 0 d) ≠ some d
      unfold setW at hd ⊢
      split at hd
      · exact absurd rfl hd
      · rename_i e
        rw [if_neg e]
        unfold setH
        split
        · intro e'
          injection e' with e'
          exact e e'.symm
        · exact h.hw d hd
  · rename_i hb
    refine ⟨h.n1, h.n2, h.h0, h.hc, ?_, ?_, ?_, h.zs⟩
    · intro d
      show setW s.wt c id d < _
      unfold setW
      split
      · exact hi
      · exact h.wb d
    · intro d hd
      have : d ≠ c := by have : s.n ≤ d := hd; omega
      show setW s.wt c id d = 0
      unfold setW
      rw [if_neg this]
      exact h.wo d hd
    · intro d hd
      change setW s.wt c id d ≠ 0 at hd
      show s.hm (setW s.wt c id d) ≠ some d
      unfold setW at hd ⊢
      split
      · rename_i e
        subst e
        intro e'
        apply hb
        unfold tryB
        rw [e']
        simp
      · rename_i e
        rw [if_neg e] at hd
        exact h.hw d hd
theorem relS_ok {s : Lk} (h : s.Ok) {c id : Nat} (hc : c < s.n) : (relS s c id).Ok := by
  have hwt : ∀ d, (relS s c id).wt d = s.wt d ∨ (relS s c id).wt d = 0 := by
    intro d
    unfold relS
    simp only
    split
    · unfold setW
      split
      · exact .inr rfl
      · exact .inl rfl
    · exact .inl rfl
  have hhm : ∀ i d, (relS s c id).hm i = some d → s.hm i = some d := by
    intro i d
    unfold relS
    simp only
    split
    · unfold setH
      split
      · intro e; cases e
      · exact fun e => e
    · exact fun e => e
  refine ⟨h.n1, h.n2, ?_, fun i d hd => h.hc i d (hhm i d hd), ?_, ?_, ?_, h.zs⟩
  · cases e : (relS s c id).hm 0 with
    | none => rfl
    | some x => have := hhm _ _ e; rw [h.h0] at this; cases this
  · intro d
    have := h.wb d
    rcases hwt d with e | e <;> rw [e] <;> omega
  · intro d hd
    rcases hwt d with e | e
    · rw [e]; exact h.wo d hd
    · exact e
  · intro d hd he
    have h1 := hhm _ _ he
    rcases hwt d with e | e
    · rw [e] at h1 hd
      exact h.hw d hd h1
    · exact hd e
def KPost (w : World) (g b : Nat) (ok : Bool) (s' : Lk) (e : Ending) (w' : World) : Prop := e = .returned (.bool ok) ∧ KAt w' g b s' ∧ But w w' (kfp g b)
theorem hV_some (c : Nat) : hV (some c) = .int .i64 (c : Int) := rfl
theorem hV_none : hV none = .int .i64 0 := rfl
theorem KAt.wset {w : World} {g b : Nat} {s s' : Lk} (h : KAt w g b s) {c a : Nat} (hc : c < 64) (hs : s'.n = s.n) (hh : s'.hm = s.hm) (hw : s'.wt = setW s.wt c a) (hz : s'.sz = s.sz) (ho : s'.Ok) : KAt (w.setCell ⟨g, 2 + c, none⟩ (.int .u64 (a : Int))) g b s' := by
  refine ⟨?_, ?_, ho⟩
  · rw [hs, hw, ← ktcells_set _ _ _ _ _ hc]
    exact h.row.set _ _
  · rw [hh, hz]
    exact h.mp.same (heap_setCell_other w _ _ _ (fun e => h.ne e.symm))
theorem try_out {p : Option Addr} {w : World} {c : Int} {id : Nat} (h : Calls Try.prog 33 #[.pointer p, .int .i64 c] w fun e w' => e = .returned (.bool false) ∧ w = w') :
    Calls Try.prog 14 #[.pointer p, .int .i64 c, .int .u64 (id : Int)] w fun e w' => e = .returned (.bool false) ∧ w = w' := by
  have H := Lib.hid h
  clear h
  go_enter Try.func14, Try.ntmps14
  go_wp2_with fail
  refine H.out.mono ?_
  rintro e w1 ⟨rfl, rfl⟩
  go_wp2
  go_ret
  exact ⟨rfl, rfl⟩
theorem rel_out {p : Option Addr} {w : World} {c : Int} {id : Nat} (h : Calls Try.prog 33 #[.pointer p, .int .i64 c] w fun e w' => e = .returned (.bool false) ∧ w = w') :
    Calls Try.prog 17 #[.pointer p, .int .i64 c, .int .u64 (id : Int)] w fun e w' => e = .returned (.bool false) ∧ w = w' := by
  have H := Lib.hid h
  clear h
  go_enter Try.func17, Try.ntmps17
  go_wp2_with fail
  refine H.out.mono ?_
  rintro e w1 ⟨rfl, rfl⟩
  go_wp2
  go_ret
  exact ⟨rfl, rfl⟩
theorem try_zero {w : World} {g b : Nat} {s : Lk} (h : KAt w g b s) {c : Nat} (hc : c < s.n) :
    Calls Try.prog 14 #[.pointer (some ⟨g, 0, none⟩), .int .i64 (c : Int), .int .u64 0] w fun e w' => e = .returned (.bool false) ∧ w = w' := by
  have H := kis_any h (c : Int)
  rw [isC_yes hc] at H
  have H := Lib.hid H
  clear h hc
  go_enter Try.func14, Try.ntmps14
  go_wp2_with fail
  refine H.out.mono ?_
  rintro e w1 ⟨rfl, rfl⟩
  go_wp2
  go_ret
  exact ⟨rfl, rfl⟩
theorem rel_zero {w : World} {g b : Nat} {s : Lk} (h : KAt w g b s) {c : Nat} (hc : c < s.n) :
    Calls Try.prog 17 #[.pointer (some ⟨g, 0, none⟩), .int .i64 (c : Int), .int .u64 0] w fun e w' => e = .returned (.bool false) ∧ w = w' := by
  have H := kis_any h (c : Int)
  rw [isC_yes hc] at H
  have H := Lib.hid H
  clear h hc
  go_enter Try.func17, Try.ntmps17
  go_wp2_with fail
  refine H.out.mono ?_
  rintro e w1 ⟨rfl, rfl⟩
  go_wp2
  go_ret
  exact ⟨rfl, rfl⟩
theorem nat_eq0 {n : Nat} (h : n ≠ 0) : ((n : Int) == 0) = false := by
  rw [Bool.eq_false_iff]
  intro hh
  have := beq_iff_eq.1 hh
  omega
theorem nat_ne {n m : Nat} (h : n ≠ m) : ((n : Int) != (m : Int)) = true := by
  rw [bne_iff_ne]
  omega
theorem nat_ne' {n m : Nat} (h : n ≠ m) : ((n : Int) == (m : Int)) = false := by
  rw [Bool.eq_false_iff]
  intro hh
  have := beq_iff_eq.1 hh
  omega
set_option maxHeartbeats 1000000 in
theorem try_any {w : World} {g b : Nat} {s : Lk} (h : KAt w g b s) {c id : Nat} (hc : c < s.n) (h0 : id ≠ 0) (hi : id < 18446744073709551616) (hz : s.sz < 1000000) :
    Calls Try.prog 14 #[.pointer (some ⟨g, 0, none⟩), .int .i64 (c : Int), .int .u64 (id : Int)] w (KPost w g b (tryB s c id) (tryS s c id)) := by
  have c64 : c < 64 := by have := h.ok.n2; omega
  have hI := kis_any h (c : Int)
  rw [isC_yes hc] at hI
  have HI := Lib.hid hI
  have HH := holder_any h hi
  have HO := Lib.hid (tryS_ok h.ok hc h0 hi hz)
  have hid0 := nat_eq0 h0
  have hcell := h.cw c64
  have hfr := h.free (2 + c)
  have hcm := h.cm
  obtain ⟨w2, hput, hH2, hg2⟩ := has_put (c := c) h.mp h.ok.zs hi
  have hrow2 : Row w2 g 55 (ktcells s.n (some b) s.wt) := h.row.grown hg2 (fun e => h.ne (by injection e))
  have hcell2 : w2.cell? ⟨g, 2 + c, none⟩ = some (.int .u64 (s.wt c : Int)) := by rw [hrow2.cell]; exact tcells_w _ _ _ c64
  have hfr2 : w2.frozen? ⟨g, 2 + c, none⟩ = false := hrow2.free _
  have hbut2 : But w w2 (kfp g b) := ⟨hg2.os, hg2.tape, hg2.output, hg2.size, fun k hk hn => hg2.block k hk (fun e => hn (.inr (by injection e)))⟩
  have HR2 := Lib.hid hrow2
  have HB2 := Lib.hid hbut2
  have HH2 := Lib.hid hH2
  have HK := Lib.hid h
  cases e : s.hm id with
  | none =>
    have hb : tryB s c id = true := by unfold tryB; rw [e]
    rw [hb]
    rw [e, hV_none, Option.isSome_none] at HH
    have HH := Lib.hid HH
    have HE : Hid (∀ w3, w3 = w2.setCell ⟨g, 2 + c, none⟩ (.int .u64 0) → KPost w g b true (tryS s c id) (.returned (.bool true)) w3) := Lib.hid (by
      rintro w3 rfl
      refine ⟨rfl, ?_, HB2.out.set (.inl rfl) _⟩
      have hs : tryS s c id = ⟨s.n, setH s.hm id (some c), setW s.wt c 0, s.sz + 1⟩ := by unfold tryS; rw [if_pos hb]
      refine ⟨?_, ?_, HO.out⟩
      · rw [hs]
        show Row _ _ _ (ktcells s.n (some b) (setW s.wt c 0))
        rw [← ktcells_set _ _ _ _ _ c64]
        exact HR2.out.set _ _
      · rw [hs]
        exact HH2.out.same (heap_setCell_other w2 _ _ _ (fun e => HK.out.ne e.symm)))
    clear h hc h0 hi hz e hb hg2 hrow2 hbut2 hH2 hI
    generalize s.wt c = t at *
    go_enter Try.func14, Try.ntmps14
    go_wp2_with fail
    refine HI.out.mono ?_
    rintro e w1 ⟨rfl, rfl⟩
    go_wp2_with fail
    refine HH.out.mono ?_
    rintro e w1 ⟨rfl, rfl⟩
    go_wp2
    go_ret
    exact HE.out _ rfl
  | some x =>
    rw [e, hV_some, Option.isSome_some] at HH
    have HH := Lib.hid HH
    by_cases hx : x = c
    · have hb : tryB s c id = true := by unfold tryB; rw [e]; simpa using hx
      rw [hb]
      have HE : Hid (∀ w3, w3 = w2.setCell ⟨g, 2 + c, none⟩ (.int .u64 0) → KPost w g b true (tryS s c id) (.returned (.bool true)) w3) := Lib.hid (by
        rintro w3 rfl
        refine ⟨rfl, ?_, HB2.out.set (.inl rfl) _⟩
        have hs : tryS s c id = ⟨s.n, setH s.hm id (some c), setW s.wt c 0, s.sz + 1⟩ := by unfold tryS; rw [if_pos hb]
        refine ⟨?_, ?_, HO.out⟩
        · rw [hs]
          show Row _ _ _ (ktcells s.n (some b) (setW s.wt c 0))
          rw [← ktcells_set _ _ _ _ _ c64]
          exact HR2.out.set _ _
        · rw [hs]
          exact HH2.out.same (heap_setCell_other w2 _ _ _ (fun e => HK.out.ne e.symm)))
      clear h hc h0 hi hz e hb hg2 hrow2 hbut2 hH2 hI
      subst hx
      generalize s.wt x = t at *
      go_enter Try.func14, Try.ntmps14
      go_wp2_with fail
      refine HI.out.mono ?_
      rintro e w1 ⟨rfl, rfl⟩
      go_wp2_with fail
      refine HH.out.mono ?_
      rintro e w1 ⟨rfl, rfl⟩
      go_wp2
      go_ret
      exact HE.out _ rfl
    · have hb : tryB s c id = false := by unfold tryB; rw [e]; simpa using hx
      rw [hb]
      have hne := nat_ne hx
      have HE : Hid (∀ w3, w3 = w.setCell ⟨g, 2 + c, none⟩ (.int .u64 (id : Int)) → KPost w g b false (tryS s c id) (.returned (.bool false)) w3) := Lib.hid (by
        rintro w3 rfl
        have hs : tryS s c id = ⟨s.n, s.hm, setW s.wt c id, s.sz⟩ := by unfold tryS; rw [if_neg (by rw [hb]; simp)]
        exact ⟨rfl, HK.out.wset c64 (by rw [hs]) (by rw [hs]) (by rw [hs]) (by rw [hs]) HO.out, But.set (But.refl _ _) (.inl rfl) _⟩)
      clear h hc h0 hi hz e hb hg2 hrow2 hbut2 hH2 hI hput hcell2 hfr2 hx
      generalize s.wt c = t at *
      go_enter Try.func14, Try.ntmps14
      go_wp2_with fail
      refine HI.out.mono ?_
      rintro e w1 ⟨rfl, rfl⟩
      go_wp2_with fail
      refine HH.out.mono ?_
      rintro e w1 ⟨rfl, rfl⟩
      go_wp2
      go_ret
      exact HE.out _ rfl
end Go.Proofs.Ytgclbeagifoifaa
