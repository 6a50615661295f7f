/- A run's step where only the store that comes next is known to be one that may be; one where it may not; for runs of any stores. -/
import Derived.Test.YtgapncamnmngeaaRnI
namespace Go.Proofs.Ytgapncamnmngeaa
open Go.RowKit Go.Shelf
set_option linter.unusedVariables false

structure RS.Fit (r : RS) (nl : Nat) : Prop where
  c0 : 0 ≤ r.c
  c1 : r.c ≤ 64
  dn : r.done = false
  cd : r.code = 0
  lf : r.ph = .st → r.left ≠ []
  pu : ∀ p ∈ r.left, p.1 < 18446744073709551616
  l8 : r.line % 8 = 0
  l64 : r.line < 64 * nl
def RS.HeadOk (r : RS) (nl : Nat) : Prop := r.ph = .st → ∀ a v t, r.left = (a, v) :: t → a % 8 = 0 ∧ a < 64 * nl ∧ v < 18446744073709551616
theorem rstep_fit {w : World} {y : Lay} {s : St} {rg : Nat} {r : RS} {V : Value} {i : Nat} (h : MemAt w y s) (ok : s.Ok) (hs : Small s i) (hi : i ≤ 1000) (hr : RunOn w y rg r V) (g : r.Fit s.nl) (hh : r.HeadOk s.nl) :
    Calls Try.prog 16 #[.pointer (some ⟨rg, 0, none⟩)] w fun e w' => e = .returned (.tuple #[.bool r.next.done, .int .i64 0]) ∧ StepPost w y rg r.next (r.mem s) w' := by
  have hpos := h.pos
  have hrow := hr.run.cells
  have hcn : r.c = ((r.c.toNat : Nat) : Int) := by have := g.c0; omega
  have hc64 : r.c.toNat ≤ 64 := by have := g.c1; omega
  obtain ⟨c, left, line, ph, done, code⟩ := r
  obtain ⟨gc0, gc1, gdn, gcd, glf, gpu, gl8, gl64⟩ := g
  have hh0 := hh
  dsimp only at *
  subst gdn gcd
  cases ph with
  | st =>
    cases left with
    | nil => exact absurd rfl (glf rfl)
    | cons av t =>
      obtain ⟨a, v⟩ := av
      obtain ⟨h8, h64, hv⟩ := hh0 rfl a v t rfl
      have H := rstore_any h hrow hr.run.ah hr.sep (fun b hb => hr.vsep b hb (by simp)) h8 h64 hv (by have := hs.st; omega) (fun l hl => by have := hs.pe l hl; omega) (fun p hp => gpu p (List.mem_cons_of_mem _ hp))
      refine (rstep_of (k := 0) (D := false) (P := fun w1 => RstPost w y (s.store a v) rg (some ⟨y.g, 0, none⟩) c ((a / 64 * 64 : Nat) : Int) (stNext a t) false 0 t V.ownBlock w1) (d := false) (fun w v => Try.call30 _ _) hrow gc0 gc1 (by omega) (fun h => rfl) rfl (size_yes h) (H.mono fun e w' ⟨he, hp⟩ => ⟨he, ?_, hp⟩)).mono ?_
      · obtain ⟨y', V', _, h2, _⟩ := hp
        exact ⟨_, _, _, h2⟩
      · rintro e w' ⟨he, w1, ⟨y', V', hm', hr', hA', ho', T'⟩, hb⟩
        refine ⟨he, step_fin (r' := RS.next ⟨c, (a, v) :: t, line, .st, false, 0⟩) (D := false) hm' ?_ hA' ?_ T' hr.sep hr.lt rfl rfl hb⟩
        · have : stNext a t = (RS.next ⟨c, (a, v) :: t, line, .st, false, 0⟩).ph.no := by
            unfold stNext RS.next
            dsimp only
            cases ends a t <;> rfl
          rw [← this]
          exact hr'
        · intro b hb' h0
          have := ho' h0
          rw [this] at hb'
          obtain ⟨v1, v2⟩ := hr.vsep b hb' (by simp)
          exact ⟨T'.nfp (hr.run.ah.lt (by simp) hb') v1, v2⟩
  | fl =>
    have H := rflush_any h ok (c := c.toNat) (by rw [← hcn]; exact hrow) hr.sep hc64 gl8 gl64
    rw [← hcn] at H
    refine (rstep_of (k := 0) (D := false) (P := fun w1 => RflPost w y (s.flush c.toNat line) rg (rcells (some ⟨y.g, 0, none⟩) c V line (nextV 51 rg) false 0) w1) (d := false) (fun w v => Try.call46 _ _) hrow gc0 gc1 (by omega) (fun h => rfl) rfl (size_yes h) (H.mono fun e w' ⟨he, hp⟩ => ⟨he, ?_, hp⟩)).mono ?_
    · obtain ⟨y', _, h2, _⟩ := hp
      exact ⟨_, _, _, h2⟩
    · rintro e w' ⟨he, w1, ⟨y', hm', hr', T'⟩, hb⟩
      exact ⟨he, step_fin (r' := RS.next ⟨c, left, line, .fl, false, 0⟩) (D := false) hm' hr' (hr.run.ah.keep T' hr.vsep) (fun b hb' h0 => ⟨T'.nfp (hr.run.ah.lt h0 hb') (hr.vsep b hb' h0).1, (hr.vsep b hb' h0).2⟩) T' hr.sep hr.lt rfl rfl hb⟩
  | fe =>
    obtain ⟨A, cap, rfl, _, _⟩ := hr.run.ah.len
    have hD : left.isEmpty = ((left.length : Int) == 0) := by
      cases left with
      | nil => rfl
      | cons a t =>
        have : ((((a :: t).length : Nat) : Int) == 0) = false := by simp only [List.length_cons]; rw [beq_eq_false_iff_ne]; omega
        rw [this]
        rfl
    have H := rfence_any h ok (c := c.toNat) (by rw [← hcn]; exact hrow) hr.sep hc64 (by have := hs.fe; omega) left.isEmpty hD
    rw [← hcn] at H
    refine (rstep_of (k := 0) (D := left.isEmpty) (P := fun w1 => RflPost w y (s.fence c.toNat) rg (rcells (some ⟨y.g, 0, none⟩) c (.slice A left.length cap) line (nextV 30 rg) left.isEmpty 0) w1) (d := left.isEmpty) (fun w v => Try.call51 _ _) hrow gc0 gc1 (by omega) (fun h => rfl) (by simp) (size_yes h) (H.mono fun e w' ⟨he, hp⟩ => ⟨he, ?_, hp⟩)).mono ?_
    · obtain ⟨y', _, h2, _⟩ := hp
      exact ⟨_, _, _, h2⟩
    · rintro e w' ⟨he, w1, ⟨y', hm', hr', T'⟩, hb⟩
      exact ⟨he, step_fin (r' := RS.next ⟨c, left, line, .fe, false, 0⟩) (D := left.isEmpty) hm' hr' (hr.run.ah.keep T' hr.vsep) (fun b hb' h0 => ⟨T'.nfp (hr.run.ah.lt h0 hb') (hr.vsep b hb' h0).1, (hr.vsep b hb' h0).2⟩) T' hr.sep hr.lt rfl rfl hb⟩
  | en =>
    have H := rend_any hrow
    refine (rstep_of (k := 0) (D := true) (P := fun w1 => w.setCell ⟨rg, 5, none⟩ (.bool true) = w1) (d := true) (fun w v => Try.call31 _ _) hrow gc0 gc1 (by omega) (fun h => rfl) rfl (size_yes h) (H.mono fun e w' ⟨he, hp⟩ => ⟨he, ?_, hp⟩)).mono ?_
    · subst hp
      exact ⟨_, _, _, hrow.set 5 _⟩
    · rintro e w' ⟨he, w1, rfl, hb⟩
      exact ⟨he, step_fin (r' := RS.next ⟨c, left, line, .en, false, 0⟩) (D := true) (h.rset hr.sep 5 _) (hrow.set 5 _) (hr.run.ah.keep (RT.set y rg 5 _) hr.vsep) hr.vsep (RT.set y rg 5 _) hr.sep hr.lt rfl rfl hb⟩
theorem next_Fit {r : RS} {nl : Nat} (g : r.Fit nl) (hh : r.HeadOk nl) (hd : r.next.done = false) : r.next.Fit nl := by
  obtain ⟨c, left, line, ph, done, code⟩ := r
  obtain ⟨gc0, gc1, gdn, gcd, glf, gpu, gl8, gl64⟩ := g
  cases ph with
  | st =>
    cases left with
    | nil => exact absurd rfl (glf rfl)
    | cons av t =>
      obtain ⟨a, v⟩ := av
      have ha := hh rfl a v t rfl
      refine ⟨gc0, gc1, gdn, gcd, ?_, fun p hp => gpu p (List.mem_cons_of_mem _ hp), ?_, ?_⟩
      · intro h
        have h' : (if ends a t then Ph.fl else Ph.st) = .st := h
        intro h0
        have h0' : t = [] := h0
        subst h0'
        cases h'
      · show a / 64 * 64 % 8 = 0
        omega
      · show a / 64 * 64 < 64 * nl
        have := ha.2.1
        omega
  | fl => exact ⟨gc0, gc1, gdn, gcd, (fun h => by cases h), gpu, gl8, gl64⟩
  | fe =>
    refine ⟨gc0, gc1, hd, gcd, fun _ => ?_, gpu, gl8, gl64⟩
    have h' : left.isEmpty = false := hd
    intro h0
    have h0' : left = [] := h0
    subst h0'
    cases h'
  | en => cases hd
theorem mem_OkF {r : RS} {s : St} {i : Nat} (ok : s.Ok) (hs : Small s i) (hi : i ≤ 1000) (hp : s.pend.length = s.nl) (hh : r.HeadOk s.nl) : (r.mem s).Ok := by
  unfold RS.mem
  split
  · split
    · exact ok
    · rename_i hph _ a v t hl
      have h1 := hh hph a v t hl
      have h2 : a / 64 < s.pend.length := by rw [hp]; have := h1.2.1; omega
      refine store_Ok ok h1.1 h2 h1.2.2 (by have := hs.st; omega) ?_
      rw [getD_at h2]
      have := hs.pe _ (List.getElem_mem h2)
      omega
  · exact flush_Ok ok (by have := hs.fl; omega)
  · exact fence_Ok ok (by have := hs.fe; omega)
  · exact ok

theorem new_Fit {c : Int} {l : List (Nat × Nat)} {nl : Nat} (c0 : 0 ≤ c) (c1 : c ≤ 64) (hn : 0 < nl) (pu : ∀ p ∈ l, p.1 < 18446744073709551616) : (RS.new c l).Fit nl := by
  refine ⟨c0, c1, rfl, rfl, fun h h0 => ?_, pu, rfl, by show 0 < _; omega⟩
  have h0' : l = [] := h0
  unfold RS.new at h
  rw [if_pos h0'] at h
  cases h
/-- What a step leaves whose store may not be. -/
theorem rstep_bad {w : World} {y : Lay} {s : St} {rg : Nat} {r : RS} {V : Value} {a v : Nat} {t : List (Nat × Nat)} (h : MemAt w y s) (hr : RunOn w y rg r V) (g : r.Fit s.nl) (hp : r.ph = .st) (hl : r.left = (a, v) :: t) (hbad : a % 8 ≠ 0 ∨ 64 * s.nl ≤ a) :
    Calls Try.prog 16 #[.pointer (some ⟨rg, 0, none⟩)] w fun e w' => e = .returned (.tuple #[.bool true, .int .i64 3]) ∧ ∃ y', MemAt w' y' s ∧ y'.g = y.g ∧ Row w' rg 66 (rcells (some ⟨y.g, 0, none⟩) r.c V r.line (nextV 30 rg) true 3) ∧ RT w w' y y' rg := by
  have hpos := h.pos
  have hrow := hr.run.cells
  obtain ⟨c, left, line, ph, done, code⟩ := r
  obtain ⟨gc0, gc1, gdn, gcd, glf, gpu, gl8, gl64⟩ := g
  dsimp only at *
  subst hp hl gdn gcd
  have H := rstore_bad h hrow hr.run.ah hbad
  refine (rstep_of (k := 3) (D := true) (P := fun w1 => Below w.heap.size w w1) (d := false) (fun w v => Try.call30 _ _) hrow gc0 gc1 (by omega) (fun h => by cases h) rfl (size_yes h) (H.mono fun e w' ⟨he, hb⟩ => ⟨he, ⟨_, _, _, hrow.below hb hrow.lt⟩, hb⟩)).mono ?_
  rintro e w' ⟨he, w1, hb1, hb2⟩
  have m1 := h.below hb1
  have m2 : MemAt (rstepW w1 rg true 3) y s := (m1.rset hr.sep 6 _).rset hr.sep 5 _
  have r2 : Row (rstepW w1 rg true 3) rg 66 (rcells (some ⟨y.g, 0, none⟩) c V line (nextV 30 rg) true 3) := by
    have := ((hrow.below hb1 hrow.lt).set 6 (.int .i64 3)).set 5 (.bool true)
    rw [rcells_set] at this
    exact this
  have T : RT w (rstepW w1 rg true 3) y y rg := ((RT.of_below y rg hb1).trans (RT.set y rg 6 _)).trans (RT.set y rg 5 _)
  exact ⟨he, y, m2.below hb2, rfl, r2.below hb2 r2.lt, T.trans (RT.of_below y rg hb2)⟩
/-- What is seen of a run. -/
structure VInv (n : Nat) (l : List (Nat × Nat)) (s : St) (r : RS) (m : Nat) : Prop where
  hm : m ≤ l.length
  left : r.left = l.drop m
  view : s.view = vw n (l.take m)
theorem vinv_step {n : Nat} {l : List (Nat × Nat)} {s : St} {r : RS} {m : Nat} (h : VInv n l s r m) (g : r.Fit n) : ∃ m', VInv n l (r.mem s) r.next m' ∧ (r.ph = .st → m' = m + 1) ∧ (r.ph ≠ .st → m' = m) := by
  obtain ⟨c, left, line, ph, done, code⟩ := r
  cases ph with
  | st =>
    cases left with
    | nil => exact absurd rfl (g.lf rfl)
    | cons av q =>
      obtain ⟨a, v⟩ := av
      obtain ⟨hat, hq, hml⟩ : l[m]? = some (a, v) ∧ q = l.drop (m + 1) ∧ m < l.length := by
        have hdr : l.drop m = (a, v) :: q := h.left.symm
        have h0 : (l.drop m)[0]? = some (a, v) := by rw [hdr]; rfl
        rw [List.getElem?_drop, Nat.add_zero] at h0
        refine ⟨h0, by rw [← List.drop_drop, hdr]; rfl, ?_⟩
        by_cases hm : m < l.length
        · exact hm
        · rw [List.getElem?_eq_none (by omega)] at h0
          cases h0
      refine ⟨m + 1, ⟨hml, hq, ?_⟩, fun _ => rfl, fun h => absurd rfl h⟩
      show s.view.set (a / 8) v = _
      rw [take_next hat, h.view]
      unfold vw
      rw [lastW_snoc]
  | fl => exact ⟨m, ⟨h.hm, h.left, h.view⟩, (fun h => by cases h), fun _ => rfl⟩
  | fe => exact ⟨m, ⟨h.hm, h.left, h.view⟩, (fun h => by cases h), fun _ => rfl⟩
  | en => exact ⟨m, ⟨h.hm, h.left, h.view⟩, (fun h => by cases h), fun _ => rfl⟩
end Go.Proofs.Ytgapncamnmngeaa
