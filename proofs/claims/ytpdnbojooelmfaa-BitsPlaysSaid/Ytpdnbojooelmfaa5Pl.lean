/- BitsPlays returns true, whatever the addresses and the acts: the walk of its body. -/
import Derived.Test.Ytpdnbojooelmfaa5Same
import Derived.Test.YtpdnbojooelmfaaBKnown
import Derived.Deep.LoopGhost
namespace Go.Proofs.Ytpdnbojooelmfaa
open Go Go.RowKit
set_option linter.unusedVariables false
/-- The set and the document's list, new since w0, apart. -/
structure PK (w0 w : World) (g : Nat) (v : Value) (Ls : List Nat) (gs : Nat) (vL : Value) (Ld : List Nat) : Prop where
  set : SetAt w g Ls v
  doc : AdAt w w0.heap.size gs Ld vL
  fpn : ∀ k, ffp g v k → w0.heap.size ≤ k
  gsn : w0.heap.size ≤ gs
  sep : ∀ k, ffp g v k → k ≠ gs ∧ vL.ownBlock ≠ some k
  bel : Below w0.heap.size w0 w
section
variable {w0 w w' : World} {g gs : Nat} {v vL : Value} {Ls Ld : List Nat}
theorem PK.docn (h : PK w0 w g v Ls gs vL Ld) : ∀ k, vL.ownBlock = some k → w0.heap.size ≤ k := fun k hk => (own_fromA h.doc.li k hk).1
theorem pk_set {s' Ls' : List Nat} (h : PK w0 w g v Ls gs vL Ld) (hl : LeftSet w g v s' w') (hp : s'.Perm Ls') : ∃ v', PK w0 w' g v' Ls' gs vL Ld := by
  obtain ⟨v', hs, hb, hf⟩ := hl
  have hn : ∀ k, ffp g v' k → ffp g v k ∨ w.heap.size ≤ k := by
    rintro k (rfl | hk)
    · exact .inl (.inl rfl)
    · exact (hf k hk).imp .inr id
  have hlt := h.doc.lt
  refine ⟨v', hs.perm hp, h.doc.keep hb (fun hf => (h.sep gs hf).1 rfl) (fun k hk hf => (h.sep k hf).2 hk), fun k hk => ?_, h.gsn, fun k hk => ?_, Below.trans h.bel (hb.below h.bel.size h.fpn)⟩
  · rcases hn k hk with h1 | h1
    · exact h.fpn k h1
    · exact Nat.le_trans h.bel.size h1
  · rcases hn k hk with h1 | h1
    · exact h.sep k h1
    · exact ⟨by have := hlt.1; omega, fun e => by have := hlt.2 k e; omega⟩
theorem pk_doc {Ld' : List Nat} (h : PK w0 w g v Ls gs vL Ld) (hl : AdLeft w w0.heap.size gs Ld' w') : ∃ vL', PK w0 w' g v Ls gs vL' Ld' := by
  obtain ⟨vL', hd, hn, hb⟩ := hl
  refine ⟨vL', h.set.keep hb (fun k hk e => (h.sep k hk).1 e), hd, h.fpn, h.gsn, fun k hk => ⟨(h.sep k hk).1, fun e => ?_⟩, Below.trans h.bel (hb.below h.bel.size fun k hk => by rw [hk]; exact h.gsn)⟩
  have := hn k e
  have := h.set.fp hk
  omega
theorem PK.below (h : PK w0 w g v Ls gs vL Ld) (hb : Below w.heap.size w w') : PK w0 w' g v Ls gs vL Ld :=
  ⟨h.set.below hb, h.doc.below hb, h.fpn, h.gsn, h.sep, Below.and h.bel hb⟩
theorem PK.but {fp : Nat → Prop} (h : PK w0 w g v Ls gs vL Ld) (hb : But w w' fp) (hf : ∀ k, fp k → w0.heap.size ≤ k ∧ ¬ ffp g v k ∧ k ≠ gs ∧ vL.ownBlock ≠ some k) : PK w0 w' g v Ls gs vL Ld :=
  ⟨h.set.keep hb (fun k hk hk2 => (hf k hk2).2.1 hk), h.doc.keep hb (fun hg => (hf gs hg).2.2.1 rfl) (fun k hk hk2 => (hf k hk2).2.2.2 hk), h.fpn, h.gsn, h.sep, Below.trans h.bel (hb.below h.bel.size fun k hk => (hf k hk).1)⟩
end
/-- A copy beside. -/
structure PA (w0 w : World) (g : Nat) (v : Value) (g2 : Nat) (v2 : Value) (L2 : List Nat) (gs : Nat) (vL : Value) (Ld : List Nat) : Prop where
  pk : ∃ Ls, PK w0 w g v Ls gs vL Ld
  set : SetAt w g2 L2 v2
  fpn : ∀ k, ffp g2 v2 k → w0.heap.size ≤ k
  ap : ∀ k, ffp g2 v2 k → ¬ ffp g v k
  sep : ∀ k, ffp g2 v2 k → k ≠ gs ∧ vL.ownBlock ≠ some k
theorem PA.step {w0 w w' : World} {g g2 gs : Nat} {v v2 vL : Value} {L2 Ld s' Ls : List Nat} (h : PA w0 w g v g2 v2 L2 gs vL Ld) (hp : PK w0 w g v Ls gs vL Ld) (hl : LeftSet w g v s' w') : ∃ v', PA w0 w' g v' g2 v2 L2 gs vL Ld ∧ PK w0 w' g v' s' gs vL Ld := by
  obtain ⟨v', hs, hb, hf⟩ := hl
  have hn : ∀ k, ffp g v' k → ffp g v k ∨ w.heap.size ≤ k := by
    rintro k (rfl | hk)
    · exact .inl (.inl rfl)
    · exact (hf k hk).imp .inr id
  have hlt := hp.doc.lt
  have hpk : PK w0 w' g v' s' gs vL Ld := by
    refine ⟨hs, hp.doc.keep hb (fun hf => (hp.sep gs hf).1 rfl) (fun k hk hf => (hp.sep k hf).2 hk), fun k hk => ?_, hp.gsn, fun k hk => ?_, Below.trans hp.bel (hb.below hp.bel.size hp.fpn)⟩
    · rcases hn k hk with h1 | h1
      · exact hp.fpn k h1
      · exact Nat.le_trans hp.bel.size h1
    · rcases hn k hk with h1 | h1
      · exact hp.sep k h1
      · exact ⟨by have := hlt.1; omega, fun e => by have := hlt.2 k e; omega⟩
  refine ⟨v', ⟨⟨_, hpk⟩, h.set.keep hb (fun k hk hk2 => h.ap k hk hk2), h.fpn, fun k hk hk2 => ?_, h.sep⟩, hpk⟩
  rcases hn k hk2 with h1 | h1
  · exact h.ap k hk h1
  · have := h.set.fp hk
    omega
theorem PA.out {w0 w : World} {g g2 gs : Nat} {v v2 vL : Value} {L2 Ld : List Nat} (h : PA w0 w g v g2 v2 L2 gs vL Ld) : PK w0 w g2 v2 L2 gs vL Ld := by
  obtain ⟨Ls, hp⟩ := h.pk
  exact ⟨h.set, hp.doc, h.fpn, hp.gsn, h.sep, hp.bel⟩
theorem pa_of {w0 w w' : World} {g g2 gs : Nat} {v v2 vL : Value} {L Ld : List Nat} (h : PK w0 w g v L gs vL Ld) (hs : SetAt w' g2 L v2) (hn : ∀ k, ffp g2 v2 k → w.heap.size ≤ k) (hb : Below w.heap.size w w') : PA w0 w' g v g2 v2 L gs vL Ld ∧ PK w0 w' g v L gs vL Ld := by
  have hlt := h.doc.lt
  refine ⟨⟨⟨_, h.below hb⟩, hs, fun k hk => Nat.le_trans h.bel.size (hn k hk), fun k hk hk2 => ?_, fun k hk => ⟨?_, fun e => ?_⟩⟩, h.below hb⟩
  · have := hn k hk
    have := h.set.fp hk2
    omega
  · have := hn k hk
    omega
  · have := hn k hk
    have := hlt.2 k e
    omega
/-- Put of any address, answered whatever. -/
theorem fput_all {w : World} {g : Nat} {v : Value} {s : List Nat} (hS : SetAt w g s v) (hl : s.length ≤ 999999999) (a : Nat) :
    Calls Try.prog 8 #[.pointer (some ⟨g, 0, none⟩), wv a] w fun e w' => (∃ k, e = .returned (.int .i64 k)) ∧ ∃ s', LeftSet w g v s' w' := by
  by_cases h0 : a = 0
  · subst h0
    refine (put_zero g w).mono ?_
    rintro e w' ⟨rfl, rfl⟩
    exact ⟨⟨2, rfl⟩, s, v, hS, FTurn.refl _ _ _⟩
  · refine (put_any hS hl h0).mono ?_
    rintro e w' ⟨rfl, h⟩
    exact ⟨⟨0, rfl⟩, _, h⟩
/-- Take of a set that lies in order. -/
theorem ftake_all {w : World} {g : Nat} {v : Value} {L : List Nat} (hS : SetAt w g L v) (hl : L.length ≤ 1000000000) (hs : L.Pairwise (· < ·)) :
    Calls Try.prog 9 #[.pointer (some ⟨g, 0, none⟩)] w fun e w' => (∃ (x : Nat) (b : Bool), e = .returned (.tuple #[.int .u64 (x : Int), .bool b])) ∧ ∃ s', s'.length ≤ L.length ∧ LeftSet w g v s' w' := by
  cases L with
  | nil =>
    refine (take_none hS).mono ?_
    rintro e w' ⟨rfl, rfl⟩
    exact ⟨⟨0, false, rfl⟩, [], Nat.le_refl _, v, hS, FTurn.refl _ _ _⟩
  | cons a t =>
    have hp := List.pairwise_cons.1 hs
    refine (take_any hS hl (m := a) List.mem_cons_self (fun x hx => ?_)).mono ?_
    · rcases List.mem_cons.1 hx with rfl | hx
      · exact Nat.le_refl _
      · exact Nat.le_of_lt (hp.1 x hx)
    · rintro e w' ⟨rfl, h⟩
      exact ⟨⟨a, true, rfl⟩, _, by rw [List.erase_cons_head]; simp, h⟩
theorem insN_perm (L : List Nat) (a : Nat) : (insN L a).Perm (a :: L) := by
  unfold insN
  refine List.perm_middle.trans ?_
  rw [List.takeWhile_append_dropWhile]
theorem nodup_of_lt {L : List Nat} (h : L.Pairwise (· < ·)) : L.Nodup := by
  rw [List.nodup_iff_pairwise_ne]
  exact h.imp fun h => by omega
theorem pw_ext5 : ∀ {a b : List Nat}, a.Pairwise (· < ·) → b.Pairwise (· < ·) → (∀ x, x ∈ a ↔ x ∈ b) → a = b
  | [], [], _, _, _ => rfl
  | [], y :: t, _, _, h => by have := (h y).2 List.mem_cons_self; cases this
  | x :: t, [], _, _, h => by have := (h x).1 List.mem_cons_self; cases this
  | x :: t, y :: u, ha, hb, h => by
    rw [List.pairwise_cons] at ha hb
    have e : x = y := by
      rcases List.mem_cons.1 ((h x).1 List.mem_cons_self) with e | e
      · exact e
      · rcases List.mem_cons.1 ((h y).2 List.mem_cons_self) with e2 | e2
        · exact e2.symm
        · have := hb.1 x e
          have := ha.1 y e2
          omega
    subst e
    rw [pw_ext5 ha.2 hb.2 fun z => ?_]
    constructor
    · intro hz
      rcases List.mem_cons.1 ((h z).1 (List.mem_cons_of_mem _ hz)) with e2 | e2
      · subst e2; exact absurd (ha.1 _ hz) (Nat.lt_irrefl _)
      · exact e2
    · intro hz
      rcases List.mem_cons.1 ((h z).2 (List.mem_cons_of_mem _ hz)) with e2 | e2
      · subst e2; exact absurd (hb.1 _ hz) (Nat.lt_irrefl _)
      · exact e2
/-- The document's Put of any address. -/
def putD (L : List Nat) (a : Nat) : List Nat := if a = 0 ∨ a ∈ L then L else insN L a
theorem putD_lt {L : List Nat} (h : L.Pairwise (· < ·)) (a : Nat) : (putD L a).Pairwise (· < ·) := by
  unfold putD
  split
  · exact h
  · rename_i hn
    exact insN_sorted h (fun hm => hn (.inr hm))
theorem putD_len (L : List Nat) (a : Nat) : (putD L a).length ≤ L.length + 1 := by
  unfold putD
  split
  · omega
  · rw [insN_len]; exact Nat.le_refl _
theorem putD_mem {L : List Nat} {a x : Nat} : x ∈ putD L a ↔ x ∈ L ∨ (x = a ∧ a ≠ 0) := by
  unfold putD
  split
  · rename_i h
    constructor
    · exact .inl
    · rintro (h1 | ⟨rfl, h2⟩)
      · exact h1
      · exact h.resolve_left h2
  · rename_i h
    rw [insN_mem]
    constructor
    · rintro (rfl | h1)
      · exact .inr ⟨rfl, fun e => h (.inl e)⟩
      · exact .inl h1
    · rintro (h1 | ⟨h1, _⟩)
      · exact .inr h1
      · exact .inl h1
theorem aPut_all {w : World} {B gs : Nat} {L : List Nat} {vL : Value} (h : AdAt w B gs L vL) (hL : L.length ≤ 1000) (hB : B ≤ w.heap.size) (a : Nat) :
    Calls Try.prog 7 #[.pointer (some ⟨gs, 0, none⟩), wv a] w fun e w' => e = .returned (.int .i64 (if a = 0 then 2 else 0)) ∧ (AdLeft w B gs (putD L a) w' ∨ (putD L a = L ∧ w = w')) := by
  by_cases h0 : a = 0
  · subst h0
    refine (aPut_zero gs).mono ?_
    rintro e w' ⟨rfl, rfl⟩
    exact ⟨rfl, .inr ⟨if_pos (.inl rfl), rfl⟩⟩
  · rw [if_neg h0]
    by_cases ha : a ∈ L
    · refine (aPut_old h hL h0 ha).mono ?_
      rintro e w' ⟨rfl, rfl⟩
      exact ⟨rfl, .inr ⟨if_pos (.inr ha), rfl⟩⟩
    · refine (aPut_new h hL hB h0 ha).mono ?_
      rintro e w' ⟨rfl, hl⟩
      have e : putD L a = insN L a := if_neg (fun h => h.elim h0 ha)
      exact ⟨rfl, .inl (by rw [e]; exact hl)⟩
theorem pk_put {w0 w w' : World} {g gs : Nat} {v vL : Value} {Ls L : List Nat} {a : Nat} (h : PK w0 w g v Ls gs vL L) (hl : AdLeft w w0.heap.size gs (putD L a) w' ∨ (putD L a = L ∧ w = w')) : ∃ vL', PK w0 w' g v Ls gs vL' (putD L a) := by
  rcases hl with hl | ⟨e, rfl⟩
  · exact pk_doc h hl
  · exact ⟨vL, by rw [e]; exact h⟩
theorem fPut_pk {w0 w : World} {g gs : Nat} {v vL : Value} {L : List Nat} (h : PK w0 w g v L gs vL L) (hl : L.length ≤ 1000) (a : Nat) :
    Calls Try.prog 8 #[.pointer (some ⟨g, 0, none⟩), wv a] w fun e w' => e = .returned (.int .i64 (if a = 0 then 2 else 0)) ∧ ∃ v', PK w0 w' g v' (putD L a) gs vL L := by
  by_cases h0 : a = 0
  · subst h0
    refine (put_zero g w).mono ?_
    rintro e w' ⟨rfl, rfl⟩
    exact ⟨rfl, v, by rw [show putD L 0 = L from if_pos (.inl rfl)]; exact h⟩
  · rw [if_neg h0]
    refine (put_any h.set (by omega) h0).mono ?_
    rintro e w' ⟨rfl, hs⟩
    refine ⟨rfl, pk_set h hs ?_⟩
    by_cases ha : a ∈ L
    · rw [if_pos ha, show putD L a = L from if_pos (.inr ha)]
    · rw [if_neg ha, show putD L a = insN L a from if_neg (fun h => h.elim h0 ha)]
      exact (insN_perm L a).symm
end Go.Proofs.Ytpdnbojooelmfaa
