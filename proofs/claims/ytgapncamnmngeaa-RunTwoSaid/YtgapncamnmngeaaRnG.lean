/- A run's step, on what it is: the run behind it, the memory behind it; for runs of stores that may be. -/
import Derived.Test.YtgapncamnmngeaaRnF
import Derived.Test.YtgapncamnmngeaaPOk
namespace Go.Proofs.Ytgapncamnmngeaa
open Go.RowKit Go.Shelf
set_option linter.unusedVariables false

/-- The run behind a step. -/
def RS.next (r : RS) : RS := match r.ph with
  | .st => match r.left with
    | [] => r
    | (a, _) :: t => { r with left := t, line := a / 64 * 64, ph := if ends a t then .fl else .st }
  | .fl => { r with ph := .fe }
  | .fe => { r with ph := .st, done := r.left.isEmpty }
  | .en => { r with done := true }
/-- The memory behind it. -/
def RS.mem (r : RS) (s : St) : St := match r.ph with
  | .st => match r.left with
    | [] => s
    | (a, v) :: _ => s.store a v
  | .fl => s.flush r.c.toNat r.line
  | .fe => s.fence r.c.toNat
  | .en => s
/-- A run that may go on in a memory of so many lines. -/
structure RS.Good (r : RS) (nl : Nat) : Prop where
  c0 : 0 ≤ r.c
  c1 : r.c ≤ 64
  dn : r.done = false
  cd : r.code = 0
  lf : r.ph = .st → r.left ≠ []
  pu : ∀ p ∈ r.left, p.1 % 8 = 0 ∧ p.1 < 64 * nl ∧ p.2 < 18446744073709551616
  l8 : r.line % 8 = 0
  l64 : r.line < 64 * nl
/-- A memory of which at most i things were done. -/
structure Small (s : St) (i : Nat) : Prop where
  st : s.st ≤ i
  fl : s.fl ≤ i
  fe : s.fe ≤ i
  pe : ∀ l ∈ s.pend, l.length ≤ i
/-- A run in a memory that lies. -/
structure RunOn (w : World) (y : Lay) (rg : Nat) (r : RS) (V : Value) : Prop where
  run : RunAt w rg (some ⟨y.g, 0, none⟩) r V
  sep : ¬ y.fp rg
  vsep : ∀ b, V.ownBlock = some b → r.left ≠ [] → ¬ y.fp b ∧ b ≠ rg
theorem RunOn.lt {w : World} {y : Lay} {rg : Nat} {r : RS} {V : Value} (h : RunOn w y rg r V) : rg < w.heap.size := h.run.row.lt
/-- What a step leaves. -/
def StepPost (w : World) (y : Lay) (rg : Nat) (r' : RS) (s' : St) (w' : World) : Prop := ∃ y' V', MemAt w' y' s' ∧ RunOn w' y' rg r' V' ∧ RT w w' y y' rg
theorem rcells_set (p : Option Addr) (c line : Int) (V F : Value) (d : Bool) (k : Int) (D : Bool) (K : Int) : ((rcells p c V line F d k).setIfInBounds 6 (.int .i64 K)).setIfInBounds 5 (.bool D) = rcells p c V line F D K := rfl
theorem Ahead.keep {w w' : World} {V : Value} {t : List (Nat × Nat)} {y y' : Lay} {rg : Nat} (hA : Ahead w V t) (T : RT w w' y y' rg) (hAs : ∀ b, V.ownBlock = some b → t ≠ [] → ¬ y.fp b ∧ b ≠ rg) : Ahead w' V t := by
  by_cases h0 : t = []
  · rcases hA with h1 | ⟨h1, _⟩
    · exact .inl h1
    · exact absurd h0 h1
  · exact hA.same fun b hb' => T.but.block b (hA.lt h0 hb') (by
      rintro (h1 | h1)
      · exact (hAs b hb' h0).1 h1
      · exact (hAs b hb' h0).2 h1)
theorem RT.nfp {w w' : World} {y y' : Lay} {rg k : Nat} (T : RT w w' y y' rg) (hk : k < w.heap.size) (h : ¬ y.fp k) : ¬ y'.fp k := fun hf => by
  rcases T.fp k hf with h1 | h1
  · exact h h1
  · omega
/-- Behind rstep_of: what was called, then the two cells that Step itself writes. -/
theorem step_fin {w w1 w' : World} {y y' : Lay} {s' : St} {rg : Nat} {V : Value} {r' : RS} {D : Bool}
    (hm : MemAt w1 y' s') (hrow : Row w1 rg 66 (rcells (some ⟨y.g, 0, none⟩) r'.c V r'.line (nextV r'.ph.no rg) D 0)) (hA : Ahead w1 V r'.left) (hAs : ∀ b, V.ownBlock = some b → r'.left ≠ [] → ¬ y'.fp b ∧ b ≠ rg) (T : RT w w1 y y' rg) (sep : ¬ y.fp rg) (hlt : rg < w.heap.size)
    (hD : r'.done = D) (hk : r'.code = 0) (hb : Below (rstepW w1 rg D 0).heap.size (rstepW w1 rg D 0) w') : StepPost w y rg r' s' w' := by
  have sep' := T.nfp hlt sep
  have hm2 : MemAt (rstepW w1 rg D 0) y' s' := (hm.rset sep' 6 _).rset sep' 5 _
  have T1 : RT w1 (rstepW w1 rg D 0) y' y' rg := (RT.set y' rg 6 _).trans (RT.set y' rg 5 _)
  have hr2 : Row (rstepW w1 rg D 0) rg 66 (rcells (some ⟨y.g, 0, none⟩) r'.c V r'.line (nextV r'.ph.no rg) D 0) := by
    have := (hrow.set 6 (.int .i64 0)).set 5 (.bool D)
    rw [rcells_set] at this
    exact this
  have hA2 := hA.keep T1 hAs
  refine ⟨y', V, hm2.below hb, ⟨⟨?_, hA2.below hb⟩, sep', hAs⟩, (T.trans T1).trans (RT.of_below y' rg hb)⟩
  have := hr2.below hb hr2.lt
  rw [Ph.fn_no, hD, hk, T.g]
  exact this

theorem rstep_any {w : World} {y : Lay} {s : St} {rg : Nat} {r : RS} {V : Value} {i : Nat} (h : MemAt w y s) (ok : s.Ok) (hs : Small s i) (hi : i ≤ 1000) (hr : RunOn w y rg r V) (g : r.Good s.nl) :
    Calls Try.prog 16 #[.pointer (some ⟨rg, 0, none⟩)] w fun e w' => e = .returned (.tuple #[.bool r.next.done, .int .i64 0]) ∧ StepPost w y rg r.next (r.mem s) w' := by
  have hpos := h.pos
  have hrow := hr.run.cells
  have hcn : r.c = ((r.c.toNat : Nat) : Int) := by have := g.c0; omega
  have hc64 : r.c.toNat ≤ 64 := by have := g.c1; omega
  obtain ⟨c, left, line, ph, done, code⟩ := r
  obtain ⟨gc0, gc1, gdn, gcd, glf, gpu, gl8, gl64⟩ := g
  dsimp only at *
  subst gdn gcd
  cases ph with
  | st =>
    cases left with
    | nil => exact absurd rfl (glf rfl)
    | cons av t =>
      obtain ⟨a, v⟩ := av
      obtain ⟨h8, h64, hv⟩ := gpu (a, v) List.mem_cons_self
      have H := rstore_any h hrow hr.run.ah hr.sep (fun b hb => hr.vsep b hb (by simp)) h8 h64 hv (by have := hs.st; omega) (fun l hl => by have := hs.pe l hl; omega) (fun p hp => by have := (gpu p (List.mem_cons_of_mem _ hp)).2.1; have := h.most; omega)
      refine (rstep_of (k := 0) (D := false) (P := fun w1 => RstPost w y (s.store a v) rg (some ⟨y.g, 0, none⟩) c ((a / 64 * 64 : Nat) : Int) (stNext a t) false 0 t V.ownBlock w1) (d := false) (fun w v => Try.call30 _ _) hrow gc0 gc1 (by omega) (fun h => rfl) rfl (size_yes h) (H.mono fun e w' ⟨he, hp⟩ => ⟨he, ?_, hp⟩)).mono ?_
      · obtain ⟨y', V', _, h2, _⟩ := hp
        exact ⟨_, _, _, h2⟩
      · rintro e w' ⟨he, w1, ⟨y', V', hm', hr', hA', ho', T'⟩, hb⟩
        refine ⟨he, step_fin (r' := RS.next ⟨c, (a, v) :: t, line, .st, false, 0⟩) (D := false) hm' ?_ hA' ?_ T' hr.sep hr.lt rfl rfl hb⟩
        · have : stNext a t = (RS.next ⟨c, (a, v) :: t, line, .st, false, 0⟩).ph.no := by
            unfold stNext RS.next
            dsimp only
            cases ends a t <;> rfl
          rw [← this]
          exact hr'
        · intro b hb' h0
          have := ho' h0
          rw [this] at hb'
          obtain ⟨v1, v2⟩ := hr.vsep b hb' (by simp)
          exact ⟨T'.nfp (hr.run.ah.lt (by simp) hb') v1, v2⟩
  | fl =>
    have H := rflush_any h ok (c := c.toNat) (by rw [← hcn]; exact hrow) hr.sep hc64 gl8 gl64
    rw [← hcn] at H
    refine (rstep_of (k := 0) (D := false) (P := fun w1 => RflPost w y (s.flush c.toNat line) rg (rcells (some ⟨y.g, 0, none⟩) c V line (nextV 51 rg) false 0) w1) (d := false) (fun w v => Try.call46 _ _) hrow gc0 gc1 (by omega) (fun h => rfl) rfl (size_yes h) (H.mono fun e w' ⟨he, hp⟩ => ⟨he, ?_, hp⟩)).mono ?_
    · obtain ⟨y', _, h2, _⟩ := hp
      exact ⟨_, _, _, h2⟩
    · rintro e w' ⟨he, w1, ⟨y', hm', hr', T'⟩, hb⟩
      exact ⟨he, step_fin (r' := RS.next ⟨c, left, line, .fl, false, 0⟩) (D := false) hm' hr' (hr.run.ah.keep T' hr.vsep) (fun b hb' h0 => ⟨T'.nfp (hr.run.ah.lt h0 hb') (hr.vsep b hb' h0).1, (hr.vsep b hb' h0).2⟩) T' hr.sep hr.lt rfl rfl hb⟩
  | fe =>
    obtain ⟨A, cap, rfl, _, _⟩ := hr.run.ah.len
    have hD : left.isEmpty = ((left.length : Int) == 0) := by
      cases left with
      | nil => rfl
      | cons a t =>
        have : ((((a :: t).length : Nat) : Int) == 0) = false := by simp only [List.length_cons]; rw [beq_eq_false_iff_ne]; omega
        rw [this]
        rfl
    have H := rfence_any h ok (c := c.toNat) (by rw [← hcn]; exact hrow) hr.sep hc64 (by have := hs.fe; omega) left.isEmpty hD
    rw [← hcn] at H
    refine (rstep_of (k := 0) (D := left.isEmpty) (P := fun w1 => RflPost w y (s.fence c.toNat) rg (rcells (some ⟨y.g, 0, none⟩) c (.slice A left.length cap) line (nextV 30 rg) left.isEmpty 0) w1) (d := left.isEmpty) (fun w v => Try.call51 _ _) hrow gc0 gc1 (by omega) (fun h => rfl) (by simp) (size_yes h) (H.mono fun e w' ⟨he, hp⟩ => ⟨he, ?_, hp⟩)).mono ?_
    · obtain ⟨y', _, h2, _⟩ := hp
      exact ⟨_, _, _, h2⟩
    · rintro e w' ⟨he, w1, ⟨y', hm', hr', T'⟩, hb⟩
      exact ⟨he, step_fin (r' := RS.next ⟨c, left, line, .fe, false, 0⟩) (D := left.isEmpty) hm' hr' (hr.run.ah.keep T' hr.vsep) (fun b hb' h0 => ⟨T'.nfp (hr.run.ah.lt h0 hb') (hr.vsep b hb' h0).1, (hr.vsep b hb' h0).2⟩) T' hr.sep hr.lt rfl rfl hb⟩
  | en =>
    have H := rend_any hrow
    refine (rstep_of (k := 0) (D := true) (P := fun w1 => w.setCell ⟨rg, 5, none⟩ (.bool true) = w1) (d := true) (fun w v => Try.call31 _ _) hrow gc0 gc1 (by omega) (fun h => rfl) rfl (size_yes h) (H.mono fun e w' ⟨he, hp⟩ => ⟨he, ?_, hp⟩)).mono ?_
    · subst hp
      exact ⟨_, _, _, hrow.set 5 _⟩
    · rintro e w' ⟨he, w1, rfl, hb⟩
      exact ⟨he, step_fin (r' := RS.next ⟨c, left, line, .en, false, 0⟩) (D := true) (h.rset hr.sep 5 _) (hrow.set 5 _) (hr.run.ah.keep (RT.set y rg 5 _) hr.vsep) hr.vsep (RT.set y rg 5 _) hr.sep hr.lt rfl rfl hb⟩
end Go.Proofs.Ytgapncamnmngeaa
