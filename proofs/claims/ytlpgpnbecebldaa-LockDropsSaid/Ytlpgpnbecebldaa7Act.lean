/- Try, Release, Held at any number and address; the law's list of acts as it lies in memory. -/
import Derived.Test.Ytlpgpnbecebldaa7Held
import Derived.Test.Ytlpgpnbecebldaa7Known
import Derived.Test.Ytlpgpnbecebldaa7Rel
namespace Go.Proofs.Ytlpgpnbecebldaa
open Go.RowKit
set_option linter.unusedVariables false
def tryR (s : Lk) (c : Int) (id : Nat) : Bool := isC s c && decide (id ≠ 0) && tryB s c.toNat id
def tryT (s : Lk) (c : Int) (id : Nat) : Lk := if isC s c = true ∧ id ≠ 0 then tryS s c.toNat id else s
def relR (s : Lk) (c : Int) (id : Nat) : Bool := isC s c && decide (id ≠ 0) && relB s c.toNat id
def relT (s : Lk) (c : Int) (id : Nat) : Lk := if isC s c = true ∧ id ≠ 0 then relS s c.toNat id else s
theorem tryT_n (s : Lk) (c : Int) (id : Nat) : (tryT s c id).n = s.n := by unfold tryT; split <;> simp [tryS_n]
theorem tryT_sz (s : Lk) (c : Int) (id : Nat) : (tryT s c id).sz ≤ s.sz + 1 := by unfold tryT; split; exact tryS_sz _ _ _; omega
theorem relT_n (s : Lk) (c : Int) (id : Nat) : (relT s c id).n = s.n := by unfold relT; split <;> rfl
theorem relT_sz (s : Lk) (c : Int) (id : Nat) : (relT s c id).sz = s.sz := by unfold relT; split <;> rfl
theorem but_same (w : World) (fp : Nat → Prop) : But w w fp := But.refl w fp
theorem try_all {w : World} {g b : Nat} {s : Lk} (h : KAt w g b s) (c : Int) {id : Nat} (hi : id < 18446744073709551616) (hz : s.sz < 1000000) :
    Calls Try.prog 19 #[.pointer (some ⟨g, 0, none⟩), .int .i64 c, .int .u64 (id : Int)] w (KPost w g b (tryR s c id) (tryT s c id)) := by
  by_cases hc : isC s c = true
  · obtain ⟨k, rfl, hk⟩ := isC_of hc
    by_cases h0 : id = 0
    · subst h0
      refine (try_zero h hk).mono ?_
      rintro e w' ⟨rfl, rfl⟩
      exact ⟨by simp [tryR], by simpa [tryT] using h, But.refl _ _⟩
    · have := try_any h hk h0 hi hz
      simpa [tryR, tryT, hc, h0] using this
  · have hcf : isC s c = false := by simpa using hc
    have hI := kis_any h c
    rw [hcf] at hI
    refine (try_out (id := id) hI).mono ?_
    rintro e w' ⟨rfl, rfl⟩
    exact ⟨by simp [tryR, hcf], by simpa [tryT, hcf] using h, But.refl _ _⟩
theorem rel_all {w : World} {g b : Nat} {s : Lk} (h : KAt w g b s) (c : Int) {id : Nat} (hi : id < 18446744073709551616) :
    Calls Try.prog 21 #[.pointer (some ⟨g, 0, none⟩), .int .i64 c, .int .u64 (id : Int)] w (KPost w g b (relR s c id) (relT s c id)) := by
  by_cases hc : isC s c = true
  · obtain ⟨k, rfl, hk⟩ := isC_of hc
    by_cases h0 : id = 0
    · subst h0
      refine (rel_zero h hk).mono ?_
      rintro e w' ⟨rfl, rfl⟩
      exact ⟨by simp [relR], by simpa [relT] using h, But.refl _ _⟩
    · have := rel_any h hk h0 hi
      simpa [relR, relT, hc, h0] using this
  · have hcf : isC s c = false := by simpa using hc
    have hI := kis_any h c
    rw [hcf] at hI
    refine (rel_out (id := id) hI).mono ?_
    rintro e w' ⟨rfl, rfl⟩
    exact ⟨by simp [relR, hcf], by simpa [relT, hcf] using h, But.refl _ _⟩
theorem try_cases {s : Lk} (ok : s.Ok) (c : Int) (id : Nat) :
    (∃ k : Nat, c = (k : Int) ∧ tryR s c id = true ∧ (tryT s c id).hm id = some k ∧ (s.hm id = none ∨ s.hm id = some k)) ∨
    (tryR s c id = false ∧ s.hm id = none ∧ (tryT s c id).hm id = none) ∨
    (∃ h, tryR s c id = false ∧ s.hm id = some h ∧ (tryT s c id).hm id = some h) := by
  by_cases hc : isC s c = true
  · obtain ⟨k, rfl, hk⟩ := isC_of hc
    by_cases h0 : id = 0
    · subst h0
      refine .inr (.inl ⟨by simp [tryR], ok.h0, by simpa [tryT] using ok.h0⟩)
    · have e1 : tryR s (k : Int) id = tryB s k id := by simp [tryR, hc, h0]
      have e2 : tryT s (k : Int) id = tryS s k id := by simp [tryT, hc, h0]
      rw [e1, e2]
      by_cases hb : tryB s k id = true
      · refine .inl ⟨k, rfl, hb, by simp [tryS, hb, setH], ?_⟩
        unfold tryB at hb
        cases h : s.hm id with
        | none => exact .inl rfl
        | some d => rw [h] at hb; simp at hb; exact .inr (by rw [hb])
      · cases h : s.hm id with
        | none => exact absurd (by simp [tryB, h]) hb
        | some d => exact .inr (.inr ⟨d, by simpa using hb, rfl, by simp [tryS, hb, h]⟩)
  · have hcf : isC s c = false := by simpa using hc
    have e1 : tryR s c id = false := by simp [tryR, hcf]
    have e2 : tryT s c id = s := by simp [tryT, hcf]
    rw [e1, e2]
    cases h : s.hm id with
    | none => exact .inr (.inl ⟨rfl, rfl, rfl⟩)
    | some d => exact .inr (.inr ⟨d, rfl, rfl, rfl⟩)
theorem rel_cases {s : Lk} (ok : s.Ok) (c : Int) (id : Nat) :
    (relR s c id = false ∧ s.hm id = none) ∨ (∃ h : Nat, s.hm id = some h ∧ relR s c id = ((h : Int) == c)) := by
  cases h : s.hm id with
  | none =>
    refine .inl ⟨?_, rfl⟩
    simp [relR, relB, h]
  | some d =>
    refine .inr ⟨d, rfl, ?_⟩
    have h0 : id ≠ 0 := fun e => by rw [e, ok.h0] at h; cases h
    have hd := (ok.hc id d h).1
    by_cases hc : isC s c = true
    · obtain ⟨k, rfl, hk⟩ := isC_of hc
      rw [Bool.eq_iff_iff]
      simp [relR, relB, h, hc, h0]
      omega
    · have hcf : isC s c = false := by simpa using hc
      have : ¬ (d : Int) = c := fun e => by subst e; rw [isC_yes hd] at hcf; cases hcf
      have e2 : ((d : Int) == c) = false := by simp [this]
      rw [e2]
      simp [relR, hcf]
theorem held_ex {s : Lk} (ok : s.Ok) (c : Nat) : ∃ xs, HeldIs s c xs := by
  refine ⟨(List.range 18446744073709551616).filter (fun id => s.hm id == some c), ?_, fun id => ?_⟩
  · exact List.pairwise_lt_range.filter _
  · rw [List.mem_filter, List.mem_range]
    constructor
    · rintro ⟨_, h⟩
      simpa using h
    · intro h
      exact ⟨(ok.hc id c h).2, by simpa using h⟩
/-- An act: what to do, for whom, of which lock. -/
structure Ac where
  k : Int
  c : Int
  id : Nat
def acAt (l : List Ac) (i : Nat) : Ac := l.getD i ⟨0, 0, 0⟩
structure ActsAt (w : World) (a : Addr) (l : List Ac) : Prop where
  c0 : ∀ i, i < l.length → w.cell? (a.add (i * 3)) = some (.int .i64 (acAt l i).k)
  c1 : ∀ i, i < l.length → w.cell? ⟨(a.add (i * 3)).block, (a.add (i * 3)).off + 1, none⟩ = some (.int .i64 (acAt l i).c)
  c2 : ∀ i, i < l.length → w.cell? ⟨(a.add (i * 3)).block, (a.add (i * 3)).off + 2, none⟩ = some (.int .u64 ((acAt l i).id : Int))
  fit : ∀ i, i < l.length → (acAt l i).id < 18446744073709551616
theorem ActsAt.below {w w' : World} {a : Addr} {l : List Ac} (h : ActsAt w a l) (hb : Below w.heap.size w w') : ActsAt w' a l :=
  ⟨fun i hi => (hb.cell (w.block_lt_of_cell? _ (h.c0 i hi))).trans (h.c0 i hi), fun i hi => (hb.cell (w.block_lt_of_cell? _ (h.c1 i hi))).trans (h.c1 i hi),
    fun i hi => (hb.cell (w.block_lt_of_cell? _ (h.c2 i hi))).trans (h.c2 i hi), h.fit⟩
/-- The slice (A, n, cap) holds the acts l. -/
def ActsIn (w : World) (A : Option Addr) (n cap : Nat) (l : List Ac) : Prop := l.length = n ∧ n ≤ cap ∧ n ≤ maxLen ∧ (0 < l.length → ∃ ga, A = some ga ∧ ActsAt w ga l)
end Go.Proofs.Ytlpgpnbecebldaa
