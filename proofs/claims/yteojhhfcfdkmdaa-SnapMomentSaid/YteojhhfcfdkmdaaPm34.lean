/- Texts of this claim, packed: SnG, SnP, SnL, SnQ, SnLd, RnGv. -/
import Derived.Test.YteojhhfcfdkmdaaPm29
import Derived.Test.YteojhhfcfdkmdaaPm24
import Derived.Test.YteojhhfcfdkmdaaPm28
import Derived.Test.YteojhhfcfdkmdaaPm05
import Derived.Test.YteojhhfcfdkmdaaPm11
import Derived.Test.YteojhhfcfdkmdaaPm33
set_option linter.unusedSimpArgs false
set_option linter.unusedVariables false
/- A snapshot in a memory that lies: what a step makes of it; for any address. -/
namespace Go.Proofs.Yteojhhfcfdkmdaa
open Go.RowKit
set_option linter.unusedVariables false
/-- What a snapshot does next. -/
inductive Sp where
  | bg
  | rd
  | lw
  | en
deriving DecidableEq
def Sp.no : Sp → Nat
  | .bg => 28
  | .rd => 54
  | .lw => 74
  | .en => 75
/-- A snapshot's state. -/
structure SS where
  ph : Sp
  d : Bool
  k : Int
  a : Nat
  r : Nat → Int
  wh : Nat
  wd : Nat
  lo : Int
  n : Nd
def SS.new (a : Nat) : SS := ⟨.bg, false, 0, a, fun _ => 0, 0, 0, 0, zeroNd⟩
def SnapAt (w : World) (g : Nat) (p : Option Addr) (s : SS) : Prop := ∃ cs, Row w g 80 cs ∧ IsS cs p (nextV s.ph.no g) s.d s.k s.a s.r s.wh s.wd s.lo s.n
/-- Where it looks next. -/
def SS.ask (s : SS) : Nat := match s.ph with
  | .bg => snWordAt s.a 3
  | .rd => snWordAt s.a s.wd
  | .lw => snWordAt (s.r 26).toNat 1
  | .en => snWordAt s.a 3
def rdP (s : SS) (v : Int) : Sp := if (bh s.wd v).2 = true then .rd else if s.wh = 0 then .rd else if rput s.r (24 * s.wh + s.wd) v 26 = 0 then .en else .lw
/-- The snapshot behind a step that loaded v, with that error. -/
def SS.next (s : SS) (v kk : Int) : SS := match s.ph with
  | .bg => { s with ph := .rd, d := kk != 0, k := kk, r := rBeg v, wh := 0, wd := 0 }
  | .rd => { s with ph := rdP s v, d := kk != 0, k := kk, r := rput s.r (24 * s.wh + s.wd) v, wh := rdWh s.wh s.wd v, wd := (bh s.wd v).1 }
  | .lw => { s with ph := .en, d := kk != 0, k := kk, lo := v }
  | .en => { s with ph := if kk = 0 ∧ sameR (rput s.r 27 v) = true then .en else .bg, d := enD false (rput s.r 27 v) kk || enK (rput s.r 27 v) kk != 0, k := enK (rput s.r 27 v) kk, r := rput s.r 27 v, n := enN s.n (rput s.r 27 v) kk }
structure SS.Good (s : SS) : Prop where
  d : s.d = false
  a : s.a < 18446744073709551616
  wh : s.wh = 0 ∨ s.wh = 1
  wd : s.wd < 24
  r : ∀ j, 0 ≤ s.r j ∧ s.r j < 18446744073709551616
theorem new_SGood {a : Nat} (ha : a < 18446744073709551616) : (SS.new a).Good := ⟨rfl, ha, .inl rfl, by show 0 < 24; omega, fun j => ⟨Int.le_refl 0, by show (0 : Int) < _; omega⟩⟩
theorem rput_in {r : Nat → Int} (h : ∀ j, 0 ≤ r j ∧ r j < 18446744073709551616) {i : Nat} {v : Int} (hv : 0 ≤ v ∧ v < 18446744073709551616) (j : Nat) : 0 ≤ rput r i v j ∧ rput r i v j < 18446744073709551616 := by
  unfold rput
  split
  · exact hv
  · exact h j
theorem bh_lt {k : Nat} (hk : k < 24) (v : Int) : (bh k v).1 < 24 := by
  unfold bh
  split
  · show 4 < 24; omega
  · split
    · show 8 < 24; omega
    · split
      · show 0 < 24; omega
      · rename_i h
        show k + 1 < 24
        have : k ≠ 23 := fun e => h (.inl e)
        omega
theorem SS.next_good {s : SS} (G : s.Good) {v kk : Int} (hv : 0 ≤ v ∧ v < 18446744073709551616) (hd : (s.next v kk).d = false) : (s.next v kk).Good := by
  obtain ⟨ph, d, k, a, r, wh, wd, lo, n⟩ := s
  obtain ⟨g1, g2, g3, g4, g5⟩ := G
  cases ph with
  | bg => exact ⟨hd, g2, .inl rfl, by show 0 < 24; omega, fun j => by
      show 0 ≤ rBeg v j ∧ rBeg v j < _
      unfold rBeg
      split
      · exact hv
      · omega⟩
  | rd => exact ⟨hd, g2, by
      show rdWh wh wd v = 0 ∨ rdWh wh wd v = 1
      unfold rdWh
      split
      · exact g3
      · exact .inr rfl, bh_lt g4 v, fun j => rput_in g5 hv j⟩
  | lw => exact ⟨hd, g2, g3, g4, g5⟩
  | en => exact ⟨hd, g2, g3, g4, fun j => rput_in g5 hv j⟩
/-- What a load answers, of a memory's state. -/
def ldV (s : St) (A : Nat) : Int := if A % 8 = 0 ∧ A < 64 * s.nl then ((s.view.getD (A / 8) 0 : Nat) : Int) else 0
def ldK (s : St) (A : Nat) : Int := if A % 8 = 0 ∧ A < 64 * s.nl then 0 else 3
def ldS (s : St) (A : Nat) : St := if A % 8 = 0 ∧ A < 64 * s.nl then { s with ld := s.ld + 1 } else s
theorem load_any {w : World} {y : Lay} {s : St} (h : MemAt w y s) (ok : s.Ok) (A : Nat) :
    Calls Try.prog 30 #[.pointer (some ⟨y.g, 0, none⟩), .int .u64 (A : Int)] w (AnsPost w y (ldS s A) (.tuple #[.int .u64 (ldV s A), .int .i64 (ldK s A)])) := by
  unfold ldS ldV ldK
  by_cases hA : A % 8 = 0 ∧ A < 64 * s.nl
  · simp only [if_pos hA]
    exact load_ok h ok A hA.1 hA.2
  · simp only [if_neg hA]
    exact (load_range h A (by omega)).mono fun e w' ⟨he, hw⟩ => ⟨he, y, by rw [← hw]; exact h, by rw [← hw]; exact Turn.refl _ _⟩
/-- What a snapshot's step leaves of a memory and the snapshot. -/
def SnPost (w : World) (y : Lay) (g : Nat) (S' : SS) (s' : St) (w' : World) : Prop := ∃ y', MemAt w' y' s' ∧ SnapAt w' g (some ⟨y.g, 0, none⟩) S' ∧ RT w w' y y' g
/-- What its function leaves. -/
def SnP (w : World) (y : Lay) (g : Nat) (s' : St) (w' : World) : Prop := ∃ y', MemAt w' y' s' ∧ RT w w' y y' g
theorem sn_fin {w w1 w' : World} {y : Lay} {g : Nat} {s' : St} {cs' : Array Value} (hg : g < w.heap.size) (sep : ¬ y.fp g) (h1 : SnP w y g s' w1) (h2 : SnSw w1 w' g cs') : ∃ y', MemAt w' y' s' ∧ RT w w' y y' g := by
  obtain ⟨y', hm, T⟩ := h1
  have sep' : ¬ y'.fp g := fun hf => by
    rcases T.fp g hf with h | h
    · exact sep h
    · omega
  exact ⟨y', hm.same fun k hk => h2.but.block k (hm.lt k hk) (fun e => sep' (by rw [← e]; exact hk)), T.trans ⟨rfl, h2.but.mono fun k h => .inr h, fun _ h => .inl h⟩⟩
theorem sn_load {w : World} {y : Lay} {s : St} {g : Nat} {cs : Array Value} (h : MemAt w y s) (ok : s.Ok) (hr : Row w g 80 cs) (sep : ¬ y.fp g) (A : Nat) : ∀ W, Below w.heap.size w W →
    Calls Try.prog 30 #[.pointer (some ⟨y.g, 0, none⟩), .int .u64 (A : Int)] W fun e' w' => e' = .returned (.tuple #[.int .u64 (ldV s A), .int .i64 (ldK s A)]) ∧ LQ g cs (SnP w y g (ldS s A)) w' := by
  intro W hb
  refine (load_any (h.below hb) ok A).mono ?_
  rintro e w' ⟨he, y', hm, ht⟩
  exact ⟨he, ht.but.row (hr.below hb hr.lt) sep, y', hm, (RT.of_below y g hb).trans (RT.of_turn g ht)⟩
theorem sstep_any {w : World} {y : Lay} {s : St} {g : Nat} {S : SS} (h : MemAt w y s) (ok : s.Ok) (hS : SnapAt w g (some ⟨y.g, 0, none⟩) S) (sep : ¬ y.fp g) (G : S.Good) :
    Calls Try.prog 12 #[.pointer (some ⟨g, 0, none⟩)] w fun e w' => e = .returned (.tuple #[.bool (S.next (ldV s S.ask) (ldK s S.ask)).d, .int .i64 (S.next (ldV s S.ask) (ldK s S.ask)).k]) ∧ SnPost w y g (S.next (ldV s S.ask) (ldK s S.ask)) (ldS s S.ask) w' := by
  obtain ⟨cs, hr, hs⟩ := hS
  have hlt := hr.lt
  obtain ⟨ph, d, k, a, r, wh, wd, lo, n⟩ := S
  obtain ⟨g1, g2, g3, g4, g5⟩ := G
  dsimp only at g1 g2 g3 g4 g5 hs
  subst g1
  refine snStep_of ?_
  cases ph with
  | bg =>
    refine (mstep_of (fun w v => Try.call28 _ _) hr hs.c1 hs.c2 (by simp; rfl) (snBegin_any hr hs g2 (sn_load h ok hr sep _))).mono ?_
    rintro e w' ⟨he, w1, cs', h1, hi, hsw⟩
    obtain ⟨y', hm', T'⟩ := sn_fin hlt sep h1 hsw
    exact ⟨he, y', hm', ⟨cs', hsw.row, hi⟩, T'⟩
  | rd =>
    have hF : rdF (nextV 54 g) g r wh wd (ldV s (snWordAt a wd)) = nextV (rdP ⟨.rd, false, k, a, r, wh, wd, lo, n⟩ (ldV s (snWordAt a wd))).no g := by
      unfold rdF rdP
      dsimp only
      split
      · rfl
      · split
        · rfl
        · split <;> rfl
    refine (mstep_of (fun w v => Try.call54 _ _) hr hs.c1 hs.c2 (by simp; rfl) (read_any hr hs g2 g3 g4 (sn_load h ok hr sep _))).mono ?_
    rintro e w' ⟨he, w1, cs', h1, hi, hsw⟩
    obtain ⟨y', hm', T'⟩ := sn_fin hlt sep h1 hsw
    have hi' := hi
    rw [show (Sp.rd).no = 54 from rfl, hF] at hi'
    exact ⟨he, y', hm', ⟨cs', hsw.row, hi'⟩, T'⟩
  | lw =>
    refine (mstep_of (fun w v => Try.call74 _ _) hr hs.c1 hs.c2 (by simp; rfl) (readLow_any (a := (r 26).toNat) hr hs (by have := g5 26; omega) (by have := g5 26; omega) (sn_load h ok hr sep _))).mono ?_
    rintro e w' ⟨he, w1, cs', h1, hi, hsw⟩
    obtain ⟨y', hm', T'⟩ := sn_fin hlt sep h1 hsw
    exact ⟨he, y', hm', ⟨cs', hsw.row, hi⟩, T'⟩
  | en =>
    have hF : ∀ rr kk, enF (nextV 75 g) g rr kk = nextV (if kk = 0 ∧ sameR rr = true then Sp.en else Sp.bg).no g := fun rr kk => by
      unfold enF
      split <;> rfl
    refine (mstep_of (fun w v => Try.call75 _ _) hr hs.c1 hs.c2 rfl (end_any hr hs g2 (g5 24) (sn_load h ok hr sep _))).mono ?_
    rintro e w' ⟨he, w1, cs', h1, hi, hsw⟩
    obtain ⟨y', hm', T'⟩ := sn_fin hlt sep h1 hsw
    have hi' := hi
    rw [show (Sp.en).no = 75 from rfl, hF] at hi'
    exact ⟨he, y', hm', ⟨cs', hsw.row, hi'⟩, T'⟩
end Go.Proofs.Yteojhhfcfdkmdaa
/- What a snapshot comes to where nobody stores: plain facts, without conditions. -/
namespace Go.Proofs.Yteojhhfcfdkmdaa
open Go.RowKit
set_option linter.unusedVariables false
/-- A step, by what loads answer. -/
def SS.go (V K : Nat → Int) (S : SS) : SS := S.next (V S.ask) (K S.ask)
def SS.it (V K : Nat → Int) : Nat → SS → SS
  | 0, S => S
  | n + 1, S => (SS.it V K n S).go V K
theorem SS.it_add (V K : Nat → Int) (S : SS) (n : Nat) : ∀ m, SS.it V K (n + m) S = SS.it V K m (SS.it V K n S)
  | 0 => rfl
  | m + 1 => by rw [← Nat.add_assoc, SS.it, SS.it, SS.it_add V K S n m]
/-- So many steps lead there, and none ahead of it was the last one. -/
structure Goes (V K : Nat → Int) (S : SS) (n : Nat) (S' : SS) : Prop where
  it : SS.it V K n S = S'
  on : ∀ t, t < n → (SS.it V K t S).d = false
theorem Goes.zero (V K : Nat → Int) (S : SS) : Goes V K S 0 S := ⟨rfl, fun t h => absurd h (Nat.not_lt_zero _)⟩
theorem Goes.one {V K : Nat → Int} {S : SS} (h : S.d = false) : Goes V K S 1 (S.go V K) := ⟨rfl, fun t ht => by
  obtain rfl : t = 0 := by omega
  exact h⟩
theorem Goes.add {V K : Nat → Int} {S S' S'' : SS} {n m : Nat} (h : Goes V K S n S') (h' : Goes V K S' m S'') : Goes V K S (n + m) S'' := by
  refine ⟨by rw [SS.it_add, h.it, h'.it], fun t ht => ?_⟩
  by_cases hl : t < n
  · exact h.on t hl
  · obtain ⟨u, rfl⟩ : ∃ u, t = n + u := ⟨t - n, by omega⟩
    rw [SS.it_add, h.it]
    exact h'.on u (by omega)
/-- The words that are read ahead of one. -/
def prt (W : Nat → Int) (k j : Nat) : Int := if j < k ∧ j ≠ 3 ∧ (j < 5 ∨ 7 < j) then W j else 0
/-- No pointer ahead of one is 0. -/
def fullTo (W : Nat → Int) (j : Nat) : Prop := ∀ i, i < j → 9 ≤ i → i % 2 = 1 → W i ≠ 0
instance (W : Nat → Int) (j : Nat) : Decidable (fullTo W j) := by unfold fullTo; infer_instance
/-- All words that are read. -/
def full (W : Nat → Int) (j : Nat) : Int := if (j ≠ 3 ∧ (j < 5 ∨ 7 < j)) ∧ fullTo W j then W j else 0
/-- A load was refused. -/
def Erred (S : SS) : Prop := S.d = true ∧ S.k = 3 ∧ S.n = zeroNd
/-- Which loads may be refused. -/
def Bad (V K : Nat → Int) (a : Nat) : Prop := (∃ k, k < 24 ∧ K (snWordAt a k) = 3) ∨ (V (snWordAt a 2) ≠ 0 ∧ K (snWordAt (V (snWordAt a 2)).toNat 1) = 3)
def ordW (k : Nat) : Prop := k = 0 ∨ k = 1 ∨ k = 2 ∨ k = 4 ∨ (8 ≤ k ∧ k < 24)
theorem prt_put {W : Nat → Int} {r : Nat → Int} {wh k k' : Nat} (hk : ordW k) (hb : k' = if k = 2 then 4 else if k = 4 then 8 else k + 1) {c : Int}
    (hr : ∀ j, j < 24 → r (24 * wh + j) = if j = 3 then c else prt W k j) : ∀ j, j < 24 → rput r (24 * wh + k) (W k) (24 * wh + j) = if j = 3 then c else prt W k' j := by
  intro j hj
  unfold rput
  by_cases e : j = k
  · subst e
    rw [if_pos rfl]
    have h3 : j ≠ 3 := by rcases hk with h | h | h | h | h <;> omega
    rw [if_neg h3]
    unfold prt
    have : j < k' := by
      rw [hb]
      split
      · omega
      · split <;> omega
    rw [if_pos ⟨this, h3, by rcases hk with h | h | h | h | h <;> omega⟩]
  · rw [if_neg (by omega), hr j hj]
    by_cases h3 : j = 3
    · rw [if_pos h3, if_pos h3]
    · rw [if_neg h3, if_neg h3]
      unfold prt
      by_cases hc : j ≠ 3 ∧ (j < 5 ∨ 7 < j)
      · have : j < k ↔ j < k' := by
          rw [hb]
          rcases hk with h | h | h | h | h
          · subst h; simp only [show (0:Nat) ≠ 2 by omega, show (0:Nat) ≠ 4 by omega, if_false]; omega
          · subst h; simp only [show (1:Nat) ≠ 2 by omega, show (1:Nat) ≠ 4 by omega, if_false]; omega
          · subst h; simp only [if_true]; omega
          · subst h; simp only [show (4:Nat) ≠ 2 by omega, if_false, if_true]; omega
          · simp only [show k ≠ 2 by omega, show k ≠ 4 by omega, if_false]; omega
        simp only [hc, this]
      · rw [if_neg (fun h => hc h.2), if_neg (fun h => hc h.2)]
theorem full_put {W : Nat → Int} {r : Nat → Int} {wh k : Nat} (hk : ordW k) (hs : k = 23 ∨ (8 < k ∧ k % 2 = 1 ∧ W k = 0)) (hn : fullTo W k) {c : Int}
    (hr : ∀ j, j < 24 → r (24 * wh + j) = if j = 3 then c else prt W k j) : ∀ j, j < 24 → rput r (24 * wh + k) (W k) (24 * wh + j) = if j = 3 then c else full W j := by
  intro j hj
  unfold rput
  by_cases e : j = k
  · subst e
    rw [if_pos rfl]
    have h8 : 8 < j := by rcases hs with h | h <;> omega
    rw [if_neg (by omega)]
    unfold full
    rw [if_pos ⟨⟨by omega, by omega⟩, hn⟩]
  · rw [if_neg (by omega), hr j hj]
    by_cases h3 : j = 3
    · rw [if_pos h3, if_pos h3]
    · rw [if_neg h3, if_neg h3]
      unfold prt full
      by_cases hl : j < k
      · have hf : fullTo W j := fun i hi => hn i (by omega)
        simp only [hl, hf, true_and, and_true]
      · rw [if_neg (fun h => hl h.1), if_neg]
        rintro ⟨_, hf⟩
        rcases hs with h | ⟨h, h', h0⟩
        · omega
        · exact hf k (by omega) (by omega) h' h0
theorem bh_on {k : Nat} {w : Int} (h : (bh k w).2 = true) (hk : ordW k) : (bh k w).1 = (if k = 2 then 4 else if k = 4 then 8 else k + 1) ∧ ¬ (k = 23 ∨ (8 < k ∧ k % 2 = 1 ∧ w = 0)) := by
  unfold bh at h ⊢
  by_cases h2 : k = 2
  · subst h2; simp
  · by_cases h4 : k = 4
    · subst h4; simp
    · rw [if_neg h2, if_neg h4] at h ⊢
      by_cases hs : k = 23 ∨ (8 < k ∧ k % 2 = 1 ∧ w = 0)
      · rw [if_pos hs] at h; cases h
      · rw [if_neg hs, if_neg h2, if_neg h4]; exact ⟨rfl, hs⟩
theorem bh_off {k : Nat} {w : Int} (h : ¬ (bh k w).2 = true) : (bh k w).1 = 0 ∧ (k = 23 ∨ (8 < k ∧ k % 2 = 1 ∧ w = 0)) := by
  unfold bh at h ⊢
  by_cases h2 : k = 2
  · subst h2; simp at h
  · by_cases h4 : k = 4
    · subst h4; simp at h
    · rw [if_neg h2, if_neg h4] at h ⊢
      by_cases hs : k = 23 ∨ (8 < k ∧ k % 2 = 1 ∧ w = 0)
      · rw [if_pos hs]; exact ⟨rfl, hs⟩
      · rw [if_neg hs] at h; exact absurd rfl h
theorem ne_zero_true {k : Int} (h : k = 3) : (k != 0) = true := by subst h; rfl
/-- A reading. -/
theorem rd_goes {V K : Nat → Int} (hK : ∀ A, K A = 0 ∨ K A = 3) {a wh : Nat} (hwh : wh = 0 ∨ wh = 1) {c : Int} {lo : Int} : ∀ m k, 24 - k ≤ m → ordW k → ∀ (r : Nat → Int) (kk : Int),
    (∀ j, j < 24 → r (24 * wh + j) = if j = 3 then c else prt (fun i => V (snWordAt a i)) k j) → fullTo (fun i => V (snWordAt a i)) k →
    ∃ n S', 1 ≤ n ∧ n ≤ m ∧ Goes V K ⟨.rd, false, kk, a, r, wh, k, lo, zeroNd⟩ n S' ∧
      ((Erred S' ∧ ∃ i, i < 24 ∧ K (snWordAt a i) = 3) ∨
       ∃ r' : Nat → Int, S' = ⟨if wh = 0 then .rd else if r' 26 = 0 then .en else .lw, false, 0, a, r', 1, 0, lo, zeroNd⟩ ∧
         (∀ j, j < 24 → r' (24 * wh + j) = if j = 3 then c else full (fun i => V (snWordAt a i)) j) ∧ (∀ j, j / 24 ≠ wh → r' j = r j)) := by
  intro m
  induction m with
  | zero => intro k hm hk; exfalso; rcases hk with h | h | h | h | h <;> omega
  | succ m ih =>
    intro k hm hk r kk hr hf
    have hk24 : k < 24 := by rcases hk with h | h | h | h | h <;> omega
    have hgo : SS.go V K ⟨.rd, false, kk, a, r, wh, k, lo, zeroNd⟩ = ⟨rdP ⟨.rd, false, kk, a, r, wh, k, lo, zeroNd⟩ (V (snWordAt a k)), K (snWordAt a k) != 0, K (snWordAt a k), a, rput r (24 * wh + k) (V (snWordAt a k)), rdWh wh k (V (snWordAt a k)), (bh k (V (snWordAt a k))).1, lo, zeroNd⟩ := rfl
    rcases hK (snWordAt a k) with h0 | h3
    · rw [h0, show ((0 : Int) != 0) = false from rfl] at hgo
      by_cases hb : (bh k (V (snWordAt a k))).2 = true
      · obtain ⟨e1, hns⟩ := bh_on hb hk
        have hk' : ordW (bh k (V (snWordAt a k))).1 := by
          rw [e1]
          unfold ordW
          rcases hk with h | h | h | h | h
          · subst h; simp
          · subst h; simp
          · subst h; simp
          · subst h; simp
          · rw [if_neg (by omega), if_neg (by omega)]
            have : k ≠ 23 := fun e => hns (.inl e)
            omega
        have hlt : k < (bh k (V (snWordAt a k))).1 := by
          rw [e1]
          split
          · omega
          · split <;> omega
        have hf' : fullTo (fun i => V (snWordAt a i)) (bh k (V (snWordAt a k))).1 := by
          intro i hi h9 ho
          by_cases hik : i < k
          · exact hf i hik h9 ho
          · rw [e1] at hi
            have : i = k := by
              rcases hk with h | h | h | h | h
              · subst h; simp at hi; omega
              · subst h; simp at hi; omega
              · subst h; simp at hi; omega
              · subst h; simp at hi; omega
              · rw [if_neg (by omega), if_neg (by omega)] at hi; omega
            subst this
            exact fun hz => hns (.inr ⟨by omega, ho, hz⟩)
        have hp : rdP ⟨.rd, false, kk, a, r, wh, k, lo, zeroNd⟩ (V (snWordAt a k)) = .rd := by unfold rdP; rw [if_pos hb]
        have hw : rdWh wh k (V (snWordAt a k)) = wh := by unfold rdWh; rw [if_pos hb]
        rw [hp, hw] at hgo
        obtain ⟨k', hk'e⟩ : ∃ k', k' = (bh k (V (snWordAt a k))).1 := ⟨_, rfl⟩
        rw [← hk'e] at hk' hlt hf' hgo e1
        have hle : 24 - k' ≤ m := by omega
        obtain ⟨n, S', h1, h2, h3, h4⟩ := ih k' hle hk' (rput r (24 * wh + k) (V (snWordAt a k))) 0 (prt_put (W := fun i => V (snWordAt a i)) hk e1 hr) hf'
        refine ⟨1 + n, S', by omega, by omega, (Goes.one rfl).add (by rw [hgo]; exact h3), ?_⟩
        rcases h4 with h4 | ⟨r', e, ha, hb'⟩
        · exact .inl h4
        · refine .inr ⟨r', e, ha, fun j hj => ?_⟩
          rw [hb' j hj]
          unfold rput
          rw [if_neg (fun e => hj (by omega))]
      · obtain ⟨e1, hst⟩ := bh_off hb
        have hp : rdP ⟨.rd, false, kk, a, r, wh, k, lo, zeroNd⟩ (V (snWordAt a k)) = if wh = 0 then .rd else if rput r (24 * wh + k) (V (snWordAt a k)) 26 = 0 then .en else .lw := by unfold rdP; rw [if_neg hb]
        have hw : rdWh wh k (V (snWordAt a k)) = 1 := by unfold rdWh; rw [if_neg hb]
        rw [hp, hw, e1] at hgo
        refine ⟨1, _, by omega, by omega, Goes.one rfl, .inr ⟨_, hgo, full_put hk hst hf hr, fun j hj => ?_⟩⟩
        unfold rput
        rw [if_neg (fun e => hj (by omega))]
    · refine ⟨1, _, by omega, by omega, Goes.one rfl, .inl ⟨?_, k, hk24, h3⟩⟩
      rw [hgo]
      exact ⟨ne_zero_true h3, h3, rfl⟩
/-- The words of the node that is read. -/
def fullC (W : Nat → Int) (c : Int) (j : Nat) : Int := if j = 3 then c else full W j
theorem full2 (W : Nat → Int) : full W 2 = W 2 := by
  unfold full
  rw [if_pos ⟨by omega, fun i hi h9 => by omega⟩]
/-- Where nobody stores a snapshot is done within 64 steps. -/
theorem sn_alone {V K : Nat → Int} (hK : ∀ A, K A = 0 ∨ K A = 3) (a : Nat) : ∃ T S', 1 ≤ T ∧ T ≤ 60 ∧ Goes V K (SS.new a) T S' ∧ S'.d = true ∧
    ((S'.k = 3 ∧ S'.n = zeroNd ∧ Bad V K a) ∨
     (S'.k = (ofR ((List.range 24).map (fullC (fun i => V (snWordAt a i)) (V (snWordAt a 3))))).2 ∧ S'.n = (ofR ((List.range 24).map (fullC (fun i => V (snWordAt a i)) (V (snWordAt a 3))))).1 ∧
      (V (snWordAt a 2) ≠ 0 → S'.lo = V (snWordAt (V (snWordAt a 2)).toNat 1)) ∧ K (snWordAt a 3) = 0)) := by
  have hg0 : SS.go V K (SS.new a) = ⟨.rd, K (snWordAt a 3) != 0, K (snWordAt a 3), a, rBeg (V (snWordAt a 3)), 0, 0, 0, zeroNd⟩ := rfl
  rcases hK (snWordAt a 3) with h0 | h3
  · obtain ⟨c, hc⟩ : ∃ c, c = V (snWordAt a 3) := ⟨_, rfl⟩
    rw [h0, ← hc, show ((0 : Int) != 0) = false from rfl] at hg0
    rw [← hc]
    obtain ⟨n1, S1, hn1, hm1, G1, h1⟩ := rd_goes (V := V) (K := K) hK (a := a) (wh := 0) (.inl rfl) (c := c) (lo := 0) 24 0 (by omega) (.inl rfl) (rBeg c) 0 (fun j hj => by
      unfold rBeg prt
      rw [Nat.mul_zero, Nat.zero_add]
      split
      · rfl
      · rw [if_neg (by omega)]) (fun i hi => by omega)
    have G01 := (Goes.one (V := V) (K := K) (S := SS.new a) rfl).add (by rw [hg0]; exact G1)
    rcases h1 with ⟨⟨e1, e2, e3⟩, i, hi, hbad⟩ | ⟨r1, rfl, hr1, hr1'⟩
    · exact ⟨1 + n1, S1, by omega, by omega, G01, e1, .inl ⟨e2, e3, .inl ⟨i, hi, hbad⟩⟩⟩
    · rw [if_pos rfl] at G01
      simp only [Nat.mul_zero, Nat.zero_add] at hr1
      obtain ⟨n2, S2, hn2, hm2, G2, h2⟩ := rd_goes (V := V) (K := K) hK (a := a) (wh := 1) (.inr rfl) (c := 0) (lo := 0) 24 0 (by omega) (.inl rfl) r1 0 (fun j hj => by
        rw [hr1' _ (by omega)]
        unfold rBeg prt
        rw [if_neg (by omega)]
        split
        · rfl
        · rw [if_neg (by omega)]) (fun i hi => by omega)
      have G02 := G01.add G2
      rcases h2 with ⟨⟨e1, e2, e3⟩, i, hi, hbad⟩ | ⟨r2, rfl, hr2, hr2'⟩
      · exact ⟨1 + n1 + n2, S2, by omega, by omega, G02, e1, .inl ⟨e2, e3, .inl ⟨i, hi, hbad⟩⟩⟩
      · rw [if_neg (by omega)] at G02
        simp only [Nat.mul_one] at hr2
        have h26 : r2 26 = V (snWordAt a 2) := by
          have := hr2 2 (by omega)
          rw [if_neg (by omega), full2] at this
          exact this
        have EN : ∀ lo, (SS.go V K ⟨.en, false, 0, a, r2, 1, 0, lo, zeroNd⟩) = ⟨.en, true, (ofR ((List.range 24).map (fullC (fun i => V (snWordAt a i)) c))).2, a, rput r2 27 c, 1, 0, lo, (ofR ((List.range 24).map (fullC (fun i => V (snWordAt a i)) c))).1⟩ := by
          intro lo
          have hq : ∀ j, j < 24 → rput r2 27 c (24 + j) = fullC (fun i => V (snWordAt a i)) c j := by
            intro j hj
            unfold rput fullC
            by_cases e : j = 3
            · subst e; rw [if_pos rfl, if_pos rfl]
            · rw [if_neg (by omega), if_neg e, hr2 j hj, if_neg e]
          have hp : ∀ j, j < 24 → rput r2 27 c j = fullC (fun i => V (snWordAt a i)) c j := by
            intro j hj
            unfold rput
            rw [if_neg (by omega), hr2' j (by omega), hr1 j hj]
            rfl
          have hsm : sameR (rput r2 27 c) = true := by
            unfold sameR
            rw [List.all_eq_true]
            intro j hj
            have hj := List.mem_range.1 hj
            rw [hp j hj, hq j hj]
            exact beq_self_eq_true _
          have hl : rdL (rput r2 27 c) 24 = (List.range 24).map (fullC (fun i => V (snWordAt a i)) c) := by
            unfold rdL
            exact List.map_congr_left fun j hj => hq j (List.mem_range.1 hj)
          have hgo : (SS.go V K ⟨.en, false, 0, a, r2, 1, 0, lo, zeroNd⟩) = ⟨if K (snWordAt a 3) = 0 ∧ sameR (rput r2 27 (V (snWordAt a 3))) = true then .en else .bg, enD false (rput r2 27 (V (snWordAt a 3))) (K (snWordAt a 3)) || enK (rput r2 27 (V (snWordAt a 3))) (K (snWordAt a 3)) != 0, enK (rput r2 27 (V (snWordAt a 3))) (K (snWordAt a 3)), a, rput r2 27 (V (snWordAt a 3)), 1, 0, lo, enN zeroNd (rput r2 27 (V (snWordAt a 3))) (K (snWordAt a 3))⟩ := rfl
          rw [hgo, h0, ← hc]
          unfold enD enK enN
          simp only [hsm, hl, and_self, if_true, Bool.true_or]
        by_cases hz : r2 26 = 0
        · rw [if_pos hz] at G02
          have G03 := G02.add (Goes.one rfl)
          rw [EN 0] at G03
          exact ⟨_, _, by omega, by omega, G03, rfl, .inr ⟨rfl, rfl, fun h => absurd (h26.symm.trans hz) h, h0⟩⟩
        · rw [if_neg hz] at G02
          have hlw : SS.go V K ⟨.lw, false, 0, a, r2, 1, 0, 0, zeroNd⟩ = ⟨.en, K (snWordAt (r2 26).toNat 1) != 0, K (snWordAt (r2 26).toNat 1), a, r2, 1, 0, V (snWordAt (r2 26).toNat 1), zeroNd⟩ := rfl
          have G03 := G02.add (Goes.one rfl)
          rw [hlw] at G03
          rcases hK (snWordAt (r2 26).toNat 1) with hk0 | hk3
          · rw [hk0, show ((0 : Int) != 0) = false from rfl] at G03
            have G04 := G03.add (Goes.one rfl)
            rw [EN _] at G04
            exact ⟨_, _, by omega, by omega, G04, rfl, .inr ⟨rfl, rfl, fun _ => by rw [h26], h0⟩⟩
          · exact ⟨_, _, by omega, by omega, G03, ne_zero_true hk3, .inl ⟨hk3, rfl, .inr ⟨by rw [← h26]; exact hz, by rw [← h26]; exact hk3⟩⟩⟩
  · exact ⟨1, _, by omega, by omega, Goes.one rfl, by rw [hg0]; exact ne_zero_true h3, .inl ⟨by rw [hg0]; exact h3, rfl, .inl ⟨3, by omega, h3⟩⟩⟩
end Go.Proofs.Yteojhhfcfdkmdaa
/- The document's stores that lay a node; conditions: the base is small. -/
namespace Go.Proofs.Yteojhhfcfdkmdaa
open Go.RowKit
set_option linter.unusedVariables false
theorem store_w24s (w1 : World) (vs : List Value) (hl : vs.length = 24) : ∃ W2, W2 = (w1.alloc (.cells #[.int .u64 0, .int .u64 0, .int .u64 0, .int .u64 0, .int .u64 0, .int .u64 0, .int .u64 0, .int .u64 0, .int .u64 0, .int .u64 0, .int .u64 0, .int .u64 0, .int .u64 0, .int .u64 0, .int .u64 0, .int .u64 0, .int .u64 0, .int .u64 0, .int .u64 0, .int .u64 0, .int .u64 0, .int .u64 0, .int .u64 0, .int .u64 0] 76)).setCells w1.heap.size 0 vs ∧ Row W2 w1.heap.size 76 vs.toArray ∧ Below w1.heap.size w1 W2 :=
  ⟨_, rfl, row_setCells (Row.new w1 76 zeroW.toArray) hl, setCells_low _ (Nat.le_refl _) (alloc_below _ _)⟩
/-- The stores that lay a node. -/
def layL (base : Int) (n : Nd) : List (Int × Int) := (List.range 24).map fun (i : Nat) => (base + 8 * (i : Int), wAt (wi n) i)
theorem layL_len (base : Int) (n : Nd) : (layL base n).length = 24 := by simp [layL]
theorem layL_at (base : Int) (n : Nd) {i : Nat} (hi : i < 24) : (layL base n)[i]? = some (base + 8 * (i : Int), wAt (wi n) i) := by
  unfold layL
  rw [List.getElem?_map, List.getElem?_range hi]
  rfl
theorem layL_take (base : Int) (n : Nd) {k : Nat} (hk : k < 24) : (layL base n).take (k + 1) = (layL base n).take k ++ [(base + 8 * (k : Int), wAt (wi n) k)] := by
  have h := layL_at base n hk
  have hl : k < (layL base n).length := by rw [layL_len]; exact hk
  rw [List.getElem?_eq_getElem hl] at h
  rw [List.take_succ_eq_append_getElem hl, Option.some.inj h]
theorem infoPut11 : (Try.prog.info? 64).map (fun i => (i.zero, i.size, i.bytes)) = some (some (.agg #[.int .u64 0, .int .u64 0]), 2, 16) := by kernel_rfl
set_option maxRecDepth 100000 in
set_option maxHeartbeats 4000000 in
theorem r11Words_any {base : Int} (hb0 : 0 ≤ base ∧ base ≤ 1099511627776) (n : Nd) (w : World) : Calls Try.prog 20 #[.int .u64 base, n.V] w fun e w' => (∃ v, e = .returned v ∧ w'.ownsRow w.heap.size 64 2 v 24 (flatE (layL base n))) ∧ Below w.heap.size w w' := by
  obtain ⟨i0, hi, hz0, hz1, hz2⟩ := info_parts infoPut11
  have r0 := Row.new w 27 n.cl.toArray
  obtain ⟨Wa, hWa⟩ : ∃ Wa, Wa = w.alloc (.cells n.cl.toArray 27) := ⟨_, rfl⟩
  rw [← hWa] at r0
  have HSa := Lib.hid (show w.heap.size ≤ Wa.heap.size by rw [hWa]; simp)
  have HB0 := Lib.hid (show Below w.heap.size w Wa by rw [hWa]; exact alloc_below _ _)
  have R0 := Lib.hid r0
  have HWa := Lib.hid hWa
  have HW := Lib.hid (r8Words_any n Wa)
  rw [wi_words] at HW
  have hvl : ((wi n).map uw).length = 24 := by rw [List.length_map, wi_len]
  have hv1 : ∀ v ∈ (wi n).map uw, v.oneCell' = true := by
    intro v hv
    obtain ⟨x, _, rfl⟩ := List.mem_map.1 hv
    rfl
  have HGET := Lib.hid (show ∀ k, k < 24 → ((wi n).map uw)[k]? = some (.int .u64 (wAt (wi n) k)) from fun k hk => wAt_get (wi_len n) hk)
  obtain ⟨vs, hV⟩ : ∃ vs, vs = (wi n).map uw := ⟨_, rfl⟩
  rw [← hV] at HW hvl hv1 HGET
  clear r0 hWa hV
  go_enter Try.func20, Try.ntmps20
  go_wp2_with (first
    | (rw [← HWa.out]; refine wpList_load_mid rfl _ _ rfl w.heap.size 0 rfl n.cl _ (ndR R0.out) Try.underlying27 rfl ndI ?_)
    | (go_at_call 37; refine HW.out.mono ?_; rintro e w1 ⟨rfl, hb1⟩)
    | (refine wpList_store_row rfl _ _ _ rfl w1.heap.size vs rfl rfl (Row.new w1 76 zeroW.toArray) hvl (by rw [hvl]; exact w24I) hv1 ?_; obtain ⟨W2, hW2, hn2, hb2⟩ := store_w24s w1 vs hvl; rw [← hW2]; have HB1 := Lib.hid hb1; have HB2 := Lib.hid hb2; have HN2 := Lib.hid hn2; clear hW2 hb1 hb2 hn2))
  have hsz1 : w1.heap.size < W2.heap.size := HN2.out.lt
  go_loopw [5, 7] (fun o i wr => ∃ k : Nat, k ≤ 24 ∧ i = .int .i64 (k : Int) ∧ wr.ownsRow W2.heap.size 64 2 o k (flatE ((layL base n).take k)) ∧ Below W2.heap.size W2 wr) (fun _ i _ => 24 - (intOf i).toNat)
  case atStart => exact ⟨0, by omega, rfl, World.ownsRow_nil _ _ _ _, Below.refl _ _⟩
  case round =>
    rename World => wr
    obtain ⟨k, hk, rfl, ho, hb⟩ := hrel
    have HO := Lib.hid ho
    have HBr := Lib.hid hb
    have HSZ := Lib.hid hb.size
    have hwsz := hb.size
    by_cases hlt : k < 24
    · have hxi : (k : Int) < 24 := by omega
      have cg : wr.cell? ⟨w1.heap.size, k, none⟩ = some (.int .u64 (wAt (wi n) k)) := by
        rw [hb.cell (p := ⟨w1.heap.size, k, none⟩) hsz1, HN2.out.cell, List.getElem?_toArray]
        exact HGET.out k hlt
      have HST := Lib.hid (layL_take base n hlt)
      obtain ⟨x, hx⟩ : ∃ x, x = wAt (wi n) k := ⟨_, rfl⟩
      rw [← hx] at cg HST
      have hw1 : IntKind.u64.wrap (8 * (k : Int)) = 8 * (k : Int) := by rw [IntKind.wrap_u64]; omega
      have hw2 : IntKind.u64.wrap (base + 8 * (k : Int)) = base + 8 * (k : Int) := by rw [IntKind.wrap_u64]; omega
      clear ho hb hx
      go_wp2_with (at_builtin; refine wpList_append_own _ rfl _ _ 60 rfl W2.heap.size 64 i0 (.agg #[.int .u64 0, .int .u64 0]) 2 16 Try.underlying60 hi hz0 hz1 hz2 rfl (by decide) _ _ _ rfl (ownS_low HO.out (alloc_below _ _)) ⟨wr.heap.size, 0, none⟩ 1 1 [.int .u64 (base + 8 * (k : Int)), .int .u64 x] rfl ?qc1 ?qc2 ?qc3 ?qc4 ?qc5 ?qc6 ?_)
      case qc1 => rfl
      case qc2 =>
        intro j u hj
        rw [Addr.add_lit, Nat.zero_add, (Row.new _ _ _).cell, ← Array.getElem?_toList]
        exact hj
      case qc3 => intro u hu; simp at hu; rcases hu with rfl | rfl <;> rfl
      case qc4 => unfold maxLen; omega
      case qc5 => omega
      case qc6 => have := HSZ.out; simp; omega
      intro v' w4 hown hgrow hnil
      have HO4 := Lib.hid hown
      have HB4 := Lib.hid (show Below W2.heap.size W2 w4 from (Below.and HBr.out (alloc_below _ _)).grown hgrow (by have := HSZ.out; simp; omega) (fun g hg => (ownS_from HO.out g hg).1))
      clear hown hgrow hnil
      go_wp2
      exact ⟨⟨k + 1, by omega, by go_num, by rw [HST.out, flatE_snoc]; exact HO4.out, HB4.out⟩, by simp [intOf]; omega⟩
    · obtain rfl : k = 24 := by omega
      go_wp2
      go_ret
      have hs2 := HB2.out.size
      have hs1 := HB1.out.size
      refine ⟨⟨_, rfl, ?_⟩, Below.and HB0.out (Below.and HB1.out (Below.and HB2.out HBr.out))⟩
      have := ownS_mono HO.out (show w.heap.size ≤ W2.heap.size by have := HSa.out; omega)
      rw [List.take_of_length_le (Nat.le_of_eq (layL_len base n))] at this
      exact this
end Go.Proofs.Yteojhhfcfdkmdaa
/- A memory's state behind a few stores, flushes, a fence: what is seen, and that its numbers stay small; plain facts. -/
namespace Go.Proofs.Yteojhhfcfdkmdaa
open Go.RowKit
set_option linter.unusedVariables false
section
variable {nl n : Nat} {s : St}
theorem Lds.load (h : Lds nl n s) (hn : n ≤ 1000000) (A : Nat) : Lds nl (n + 1) (ldS s A) := by
  unfold ldS
  split
  · exact ⟨h.nls, ⟨h.ok.las, h.ok.vie, h.ok.put, h.ok.few, h.ok.mks, by have := h.num; exact ⟨by show s.ld + 1 < _; omega, h.ok.num.2⟩⟩, h.pl, fun j => Nat.le_succ_of_le (h.few j), h.vl, by have := h.num; show s.ld + 1 ≤ _; omega, by have := h.num; show s.st ≤ _; omega, by have := h.num; show s.fl ≤ _; omega, by have := h.num; show s.fe ≤ _; omega⟩
  · exact h.mono (Nat.le_succ n)
end
/-- Stores, one behind the other. -/
def stF (s : St) (l : List (Nat × Nat)) : St := l.foldl (fun s p => s.store p.1 p.2) s
theorem stF_snoc (s : St) (l : List (Nat × Nat)) (p : Nat × Nat) : stF s (l ++ [p]) = (stF s l).store p.1 p.2 := by simp [stF]
theorem stF_Lds {nl : Nat} : ∀ (l : List (Nat × Nat)) {n : Nat} {s : St}, Lds nl n s → n + l.length ≤ 1000000 → (∀ p ∈ l, p.1 % 8 = 0 ∧ p.1 < 64 * nl ∧ p.2 < 18446744073709551616) → Lds nl (n + l.length) (stF s l) := by
  intro l
  induction l with
  | nil => exact fun h _ _ => h
  | cons p t ih =>
    intro n s h hn hl
    rw [List.length_cons] at hn ⊢
    have hp := hl p (by simp)
    rw [show n + (t.length + 1) = n + 1 + t.length by omega]
    exact ih (h.store (by omega) hp.1 hp.2.1 hp.2.2) (by omega) (fun q hq => hl q (by simp [hq]))
/-- What is seen behind stores: the last one to a word. -/
def seenV (v : List Nat) (l : List (Nat × Nat)) : List Nat := l.foldl (fun v p => v.set (p.1 / 8) p.2) v
theorem stF_view (l : List (Nat × Nat)) : ∀ s : St, (stF s l).view = seenV s.view l := by
  induction l with
  | nil => exact fun s => rfl
  | cons p t ih => exact fun s => ih (s.store p.1 p.2)
theorem seenV_len (l : List (Nat × Nat)) : ∀ v : List Nat, (seenV v l).length = v.length := by
  induction l with
  | nil => exact fun v => rfl
  | cons p t ih => exact fun v => (ih _).trans List.length_set
theorem seenV_far {k : Nat} : ∀ (l : List (Nat × Nat)) (v : List Nat), (∀ p ∈ l, p.1 / 8 ≠ k) → (seenV v l).getD k 0 = v.getD k 0 := by
  intro l
  induction l with
  | nil => exact fun v _ => rfl
  | cons p t ih =>
    intro v h
    refine (ih (v.set (p.1 / 8) p.2) (fun q hq => h q (by simp [hq]))).trans ?_
    rw [List.getD_eq_getElem?_getD, List.getD_eq_getElem?_getD, List.getElem?_set_ne (h p (by simp))]
theorem seenV_app (v : List Nat) (l m : List (Nat × Nat)) : seenV v (l ++ m) = seenV (seenV v l) m := by simp [seenV]
/-- The stores that lay a node, as numbers that are none below 0. -/
def layN (base : Nat) (n : Nd) : List (Nat × Nat) := (List.range 24).map fun i => (base + 8 * i, (wAt (wi n) i).toNat)
theorem layN_len (base : Nat) (n : Nd) : (layN base n).length = 24 := by simp [layN]
theorem layN_at (base : Nat) (n : Nd) {i : Nat} (hi : i < 24) : (layN base n)[i]? = some (base + 8 * i, (wAt (wi n) i).toNat) := by
  unfold layN
  rw [List.getElem?_map, List.getElem?_range hi]
  rfl
theorem seenV_row (f : Nat → Nat) (b : Nat) : ∀ (k : Nat) (v : List Nat), b + k ≤ v.length → ∀ i, i < k → (seenV v ((List.range k).map fun i => (8 * (b + i), f i))).getD (b + i) 0 = f i := by
  intro k
  induction k with
  | zero => exact fun v h i hi => absurd hi (Nat.not_lt_zero _)
  | succ k ih =>
    intro v h i hi
    rw [List.range_succ, List.map_append, seenV_app]
    simp only [List.map_cons, List.map_nil, seenV, List.foldl_cons, List.foldl_nil]
    rw [show 8 * (b + k) / 8 = b + k by omega, List.getD_eq_getElem?_getD]
    by_cases e : i = k
    · subst e
      rw [List.getElem?_set_self (by
        show b + i < (seenV v _).length
        rw [seenV_len]
        omega)]
      rfl
    · rw [List.getElem?_set_ne (by omega), ← List.getD_eq_getElem?_getD]
      exact ih v (by omega) i (by omega)
theorem seenV_row_far (f : Nat → Nat) (b k j : Nat) (v : List Nat) (h : j < b ∨ b + k ≤ j) : (seenV v ((List.range k).map fun i => (8 * (b + i), f i))).getD j 0 = v.getD j 0 :=
  seenV_far _ v fun p hp => by
    obtain ⟨i, hi, rfl⟩ := List.mem_map.1 hp
    have := List.mem_range.1 hi
    dsimp only
    omega
theorem layN_row {base b : Nat} (h : base = 8 * b) (n : Nd) : layN base n = (List.range 24).map fun i => (8 * (b + i), (wAt (wi n) i).toNat) := by
  subst h
  exact List.map_congr_left fun i _ => by rw [show 8 * b + 8 * i = 8 * (b + i) by omega]
end Go.Proofs.Yteojhhfcfdkmdaa
/- The law's laid: a memory with a node and one to its right; conditions: the numbers are such as Go's types hold. -/
namespace Go.Proofs.Yteojhhfcfdkmdaa
open Go.RowKit
set_option linter.unusedVariables false
attribute [local go_sem] Oper.semAt_some
/-- The node to the right. -/
def sideNd (low : Int) : Nd := ⟨0, low, 0, 0, 1280, 0, 0, 0, 0, 0, 0, 0, 0, 0, 0, 0, 0, 0, 0, 0, 0⟩
/-- All stores that lay both. -/
def laidL (n : Nd) (low : Int) : List (Int × Int) := layL 1088 n ++ layL 1280 (sideNd low)
theorem laidL_len (n : Nd) (low : Int) : (laidL n low).length = 48 := by simp [laidL, layL_len]
def natL (l : List (Int × Int)) : List (Nat × Nat) := l.map fun p => (p.1.toNat, p.2.toNat)
theorem flatE_cells {w : World} {B : Nat} {v : Value} {l : List (Int × Int)} (h : w.ownsRow B 64 2 v l.length (flatE l)) (h0 : 0 < l.length) : ∃ g cap, v = .slice (some ⟨g, 0, none⟩) l.length cap ∧ B ≤ g ∧ g < w.heap.size ∧ cap ≤ maxLen ∧ l.length ≤ cap ∧
    (∀ j u, (flatE l)[j]? = some u → w.cell? ⟨g, j, none⟩ = some u) := by
  rcases h.2 with ⟨rfl, h1⟩ | ⟨g, cap, cur, rfl, hb, hh, h2, h3, h4, h5⟩
  · omega
  · refine ⟨g, cap, rfl, hb, (Array.getElem?_eq_some_iff.1 hh).1, h3, h2, fun j u hu => ?_⟩
    have := h.cells rfl j u hu
    rw [Addr.add_lit, Nat.zero_add] at this
    exact this
theorem flatE_one (l : List (Int × Int)) : ∀ u ∈ flatE l, u.oneCell' = true := by
  intro u hu
  obtain ⟨p, _, hp⟩ := List.mem_flatMap.1 hu
  simp at hp
  rcases hp with rfl | rfl <;> rfl
theorem flatE_app (a b : List (Int × Int)) : flatE (a ++ b) = flatE a ++ flatE b := by simp [flatE]
/-- Where a memory lies that holds what was laid. -/
def laidS (n : Nd) (low : Int) (k : Nat) : St := stF (St.zero 64) (natL ((laidL n low).take k))
def flF (s : St) : Nat → St
  | 0 => s
  | k + 1 => (flF s k).flush 0 (1088 + 64 * k)
def laidM (n : Nd) (low : Int) : St := (flF (laidS n low 48) 6).fence 0
theorem getD_zeros (n i : Nat) : (List.replicate n (0 : Int)).getD i 0 = 0 := by
  rw [List.getD_eq_getElem?_getD, List.getElem?_replicate]
  split <;> rfl
theorem laidL_ok {n : Nd} (hw : ∀ i, i < 24 → 0 ≤ wAt (wi n) i ∧ wAt (wi n) i < 18446744073709551616) {low : Int} (hl : 0 ≤ low ∧ low < 18446744073709551616) {k : Nat} (hk : k < 48) :
    ∃ a v : Nat, (laidL n low)[k]? = some ((a : Int), (v : Int)) ∧ a % 8 = 0 ∧ a < 4096 ∧ v < 18446744073709551616 := by
  have hs : ∀ i, i < 24 → 0 ≤ wAt (wi (sideNd low)) i ∧ wAt (wi (sideNd low)) i < 18446744073709551616 := by
    intro i hi
    have hwi : wi (sideNd low) = [5495893775785918464, low, 0, 0, 1280, 0, 0, 0, 0, 0, 0, 0, 0, 0, 0, 0, 0, 0, 0, 0, 0, 0, 0, 0] := by
      unfold wi sideNd isLv
      rfl
    rw [hwi]
    match i, hi with
    | 0, _ => exact (show (0 : Int) ≤ 5495893775785918464 ∧ (5495893775785918464 : Int) < 18446744073709551616 by omega)
    | 1, _ => exact hl
    | 2, _ => exact (show (0 : Int) ≤ 0 ∧ (0 : Int) < 18446744073709551616 by omega)
    | 3, _ => exact (show (0 : Int) ≤ 0 ∧ (0 : Int) < 18446744073709551616 by omega)
    | 4, _ => exact (show (0 : Int) ≤ 1280 ∧ (1280 : Int) < 18446744073709551616 by omega)
    | i + 5, h =>
      have : wAt [5495893775785918464, low, 0, 0, 1280, 0, 0, 0, 0, 0, 0, 0, 0, 0, 0, 0, 0, 0, 0, 0, 0, 0, 0, 0] (i + 5) = 0 := by
        unfold wAt
        simp only [List.getD_cons_succ]
        exact getD_zeros 19 i
      rw [this]
      exact ⟨by decide, by decide⟩
  unfold laidL
  by_cases h24 : k < 24
  · refine ⟨1088 + 8 * k, (wAt (wi n) k).toNat, ?_, by omega, by omega, by have := hw k h24; omega⟩
    rw [List.getElem?_append_left (by rw [layL_len]; exact h24), layL_at _ _ h24]
    have := hw k h24
    congr 2 <;> omega
  · obtain ⟨j, rfl⟩ : ∃ j, k = 24 + j := ⟨k - 24, by omega⟩
    have hj : j < 24 := by omega
    refine ⟨1280 + 8 * j, (wAt (wi (sideNd low)) j).toNat, ?_, by omega, by omega, by have := hs j hj; omega⟩
    rw [List.getElem?_append_right (by rw [layL_len]; omega), layL_len, Nat.add_sub_cancel_left, layL_at _ _ hj]
    have := hs j hj
    congr 2 <;> omega
theorem laidS_succ {n : Nd} {low : Int} {k a v : Nat} (h : (laidL n low)[k]? = some ((a : Int), (v : Int))) : laidS n low (k + 1) = (laidS n low k).store a v := by
  unfold laidS
  have hk : k < (laidL n low).length := (List.getElem?_eq_some_iff.1 h).1
  rw [List.getElem?_eq_getElem hk] at h
  rw [List.take_succ_eq_append_getElem hk, Option.some.inj h]
  unfold natL
  rw [List.map_append, List.map_cons, List.map_nil, stF_snoc]
  rfl
theorem laidS_Lds {n : Nd} (hw : ∀ i, i < 24 → 0 ≤ wAt (wi n) i ∧ wAt (wi n) i < 18446744073709551616) {low : Int} (hl : 0 ≤ low ∧ low < 18446744073709551616) {k : Nat} (hk : k ≤ 48) : Lds 64 48 (laidS n low k) := by
  have := stF_Lds (natL ((laidL n low).take k)) (zero_Lds 64) (by unfold natL; rw [List.length_map, List.length_take, laidL_len]; omega) (fun p hp => by
    obtain ⟨q, hq, rfl⟩ := List.mem_map.1 hp
    obtain ⟨i, hi, rfl⟩ := List.mem_iff_getElem.1 (List.mem_of_mem_take hq)
    rw [laidL_len] at hi
    obtain ⟨a, v, hav, h8, ha, hv⟩ := laidL_ok hw hl hi
    rw [List.getElem?_eq_getElem (by rw [laidL_len]; exact hi)] at hav
    rw [Option.some.inj hav]
    exact ⟨by simpa using h8, by simpa using ha, by simpa using hv⟩)
  refine this.mono ?_
  unfold natL
  rw [List.length_map, List.length_take, laidL_len]
  omega
theorem flF_Lds {s : St} (h : Lds 64 48 s) {k : Nat} (hk : k ≤ 6) : Lds 64 (48 + k) (flF s k) := by
  induction k with
  | zero => exact h
  | succ k ih => exact (ih (by omega)).flush (by omega) 0 _
set_option maxRecDepth 100000 in
set_option maxHeartbeats 3200000 in
theorem laid11_any (n : Nd) (low : Int) (hw : ∀ i, i < 24 → 0 ≤ wAt (wi n) i ∧ wAt (wi n) i < 18446744073709551616) (hl : 0 ≤ low ∧ low < 18446744073709551616) (w : World) :
    Calls Try.prog 5 #[n.V, .int .u64 low] w fun e w' => ∃ y : Lay, e = .returned (.pointer (some ⟨y.g, 0, none⟩)) ∧ MemAt w' y (laidM n low) ∧ (∀ k, y.fp k → w.heap.size ≤ k) ∧ Below w.heap.size w w' := by
  have mixed : Try.prog.follows .mixedOrders = true := by kernel_rfl
  obtain ⟨i0, hi, hz0, hz1, hz2⟩ := info_parts infoPut11
  have r0 := Row.new w 27 n.cl.toArray
  obtain ⟨Wa, hWa⟩ : ∃ Wa, Wa = w.alloc (.cells n.cl.toArray 27) := ⟨_, rfl⟩
  rw [← hWa] at r0
  have HSa := Lib.hid (show w.heap.size ≤ Wa.heap.size by rw [hWa]; simp)
  have HB0 := Lib.hid (show Below w.heap.size w Wa by rw [hWa]; exact alloc_below _ _)
  have R0 := Lib.hid r0
  have HWa := Lib.hid hWa
  have HN := Lib.hid (show Calls Try.prog 19 #[.int .i64 4096] Wa (NewPost 64 Wa) from new_yes 64 Wa (by decide) (by decide))
  have HWn := Lib.hid fun W => r11Words_any (base := 1088) (by decide) n W
  have HWs := Lib.hid fun W => (show Calls Try.prog 20 #[.int .u64 1280, .agg #[.int .i64 0, .int .u64 low, .int .u64 0, .int .u64 0, .int .u64 1280, .int .u64 0, .int .u64 0, .int .u64 0, .int .u64 0, .int .u64 0, .int .u64 0, .int .u64 0, .int .u64 0, .int .u64 0, .int .u64 0, .int .u64 0, .int .u64 0, .int .u64 0, .int .u64 0, .int .u64 0, .int .u64 0]] W _ from r11Words_any (base := 1280) (by decide) (sideNd low) W)
  have HW := Lib.hid hw
  have HL := Lib.hid hl
  clear r0 hWa hw hl
  go_enter Try.func5, Try.ntmps5
  go_wp2_with (first
    | (rw [← HWa.out]; refine HN.out.mono ?_; rintro e w1 ⟨y, rfl, hm, hf, hb1⟩; have HM := Lib.hid hm; have HF := Lib.hid hf; have HB1 := Lib.hid hb1; have R1 := Lib.hid (R0.out.below hb1 R0.out.lt); clear hm hf hb1)
    | (refine wpList_load_mid rfl _ _ rfl w.heap.size 0 rfl n.cl _ (ndR R1.out) Try.underlying27 rfl ndI ?_)
    | (go_at_call 20; with_reducible refine (HWs.out _).mono ?_; rintro e w3 ⟨⟨v2, rfl, ho2⟩, hb3⟩; have HO13 := Lib.hid (ownS_low HO1.out hb3); have HB3 := Lib.hid hb3; obtain ⟨g2, c2, rfl, hg2, _, _, _, hc2⟩ := flatE_cells (l := layL 1280 (sideNd low)) (by rw [layL_len]; exact ho2) (by rw [layL_len]; decide); rw [layL_len]; have HC2 := Lib.hid hc2; clear hc2 ho2 hb3)
    | (go_at_call 20; refine (HWn.out _).mono ?_; rintro e w2 ⟨⟨v1, rfl, ho1⟩, hb2⟩; have HO1 := Lib.hid ho1; have HB2 := Lib.hid hb2; clear ho1 hb2)
    | (at_builtin; refine wpList_append_own _ rfl _ _ 60 rfl w1.heap.size 64 i0 (.agg #[.int .u64 0, .int .u64 0]) 2 16 Try.underlying60 hi hz0 hz1 hz2 rfl (by decide) _ _ _ rfl HO13.out ⟨g2, 0, none⟩ 24 c2 (flatE (layL 1280 (sideNd low))) rfl ?qc1 ?qc2 ?qc3 ?qc4 ?qc5 ?qc6 ?_))
  case qc1 => rw [flatE_len, layL_len]
  case qc2 =>
    intro j u hj
    rw [Addr.add_lit, Nat.zero_add]
    exact HC2.out j u hj
  case qc3 => exact flatE_one _
  case qc4 => decide
  case qc5 => decide
  case qc6 => exact Nat.le_trans HB2.out.size HB3.out.size
  intro v4 w4 hown hgrow hnil
  rw [← flatE_app] at hown
  obtain ⟨g4, c4, rfl, hg4, hg4', hc4, hc4', hcells⟩ := flatE_cells (l := laidL n low) (by rw [laidL_len]; exact hown) (by rw [laidL_len]; decide)
  rw [laidL_len] at hc4' ⊢
  have HB4 := Lib.hid (show Below w1.heap.size w1 w4 from (Below.and HB2.out HB3.out).grown hgrow (Nat.le_trans HB2.out.size HB3.out.size) (fun g hg => (ownS_from HO13.out g hg).1))
  have HM4 := Lib.hid (HM.out.below HB4.out)
  have HC4 := Lib.hid hcells
  have HNF := Lib.hid (show ¬ y.fp g4 from fun hf => by have := HM.out.lt g4 hf; omega)
  have HG4 := Lib.hid hg4'
  clear hown hgrow hnil hcells hg4'
  go_wp2
  go_loopw [8] (fun i wr => ∃ (k : Nat) (y' : Lay), k ≤ 48 ∧ i = .int .i64 (k : Int) ∧ MemAt wr y' (laidS n low k) ∧ Turn w4 wr y y') (fun i _ => 48 - (intOf i).toNat)
  case atStart => exact ⟨0, y, by omega, rfl, HM4.out, Turn.refl _ _⟩
  case round =>
    rename World => wr
    obtain ⟨k, y', hk, rfl, hm, ht⟩ := hrel
    have HCR := Lib.hid (show ∀ j u, (flatE (laidL n low))[j]? = some u → wr.cell? ⟨g4, j, none⟩ = some u from fun j u hu => (World.cell?_of_block (a := ⟨g4, j, none⟩) (ht.but.block g4 HG4.out HNF.out)).trans (HC4.out j u hu))
    by_cases hlt : k < 48
    · obtain ⟨a, v, hav, h8, ha, hv⟩ := laidL_ok HW.out HL.out hlt
      obtain ⟨f1, f2⟩ := flatE_at (laidL n low) k _ hav
      have q1 := HCR.out _ _ f1
      have q2 := HCR.out _ _ f2
      have ca := fun q : LowBy wr => q.cell q1
      have cb := fun q : LowBy wr => q.cell q2
      dsimp only [uw] at ca cb
      have hL := laidS_Lds HW.out HL.out hk
      have HST := Lib.hid (show ∀ W, Below wr.heap.size wr W → Calls Try.prog 21 #[.pointer (some ⟨y.g, 0, none⟩), .int .u64 (a : Int), .int .u64 (v : Int)] W (StPost W y' (laidS n low (k + 1)) 0) from fun W hb => by
        rw [laidS_succ hav, ← ht.g]
        exact store_ok (hm.below hb) a v h8 (by rw [hL.nls]; exact ha) hv (by have := hL.num; omega) (fun l hl => hL.ok.few l hl))
      have HT := Lib.hid ht
      clear q1 q2 f1 f2 hav h8 ha hv hm ht
      go_wp2_with fail
      refine wp_region_low_tail 11 (by assumption) (by kernel_rfl) ?_
      simp only [List.take_succ_cons, List.take_zero, List.drop_succ_cons, List.drop_zero]
      repeat (go_big_quiet_step (fail))
      refine wpQuiet_nil ?_
      intro _ hw'
      obtain ⟨q, hw''⟩ := hw'
      subst hw''
      have HQ := Lib.hid (HST.out q.W q.low)
      have HTq := Lib.hid (HT.out.trans (Turn.of_below y' q.low))
      clear ca cb HST
      go_wp2_with (refine HQ.out.mono ?_; rintro e w5 ⟨rfl, y5, hm5, ht5⟩; have HM5 := Lib.hid hm5; have HT5 := Lib.hid (HTq.out.trans ht5); clear hm5 ht5)
      exact ⟨⟨k + 1, y5, by omega, by go_num, HM5.out, HT5.out⟩, by simp [intOf]; omega⟩
    · have h48 : k = 48 := by omega
      rw [h48] at hm
      have HM6 := Lib.hid hm
      have HT6 := Lib.hid ht
      clear hm ht h48
      go_wp2
      clear hlt hk
      go_loopw [9] (fun i wq => ∃ (m : Nat) (y6 : Lay), m ≤ 6 ∧ i = .int .i64 (m : Int) ∧ MemAt wq y6 (flF (laidS n low 48) m) ∧ Turn w4 wq y y6) (fun i _ => 6 - (intOf i).toNat)
      case atStart => exact ⟨0, y', by omega, rfl, HM6.out, HT6.out⟩
      case round =>
        rename World => wq
        obtain ⟨m, y6, hk, rfl, hm, ht⟩ := hrel
        have hL := flF_Lds (laidS_Lds HW.out HL.out (Nat.le_refl 48)) hk
        by_cases hlt : m < 6
        · obtain ⟨A, hA⟩ : ∃ A : Nat, A = 1088 + 64 * m := ⟨_, rfl⟩
          have hw1 : IntKind.i64.wrap (64 * (m : Int)) = 64 * (m : Int) := IntWalk.i64_in _ (by omega)
          have hw2 : IntKind.u64.wrap (64 * (m : Int)) = 64 * (m : Int) := by rw [IntKind.wrap_u64]; omega
          have hw3 : IntKind.u64.wrap (1088 + 64 * (m : Int)) = (A : Int) := by rw [IntKind.wrap_u64]; omega
          have HFL := Lib.hid (show Calls Try.prog 22 #[.pointer (some ⟨y.g, 0, none⟩), .int .i64 0, .int .u64 (A : Int)] wq (StPost wq y6 (flF (laidS n low 48) (m + 1)) 0) from by
            have := flush_ok hm hL.ok 0 A (by decide) (by omega) (by rw [hL.nls]; omega)
            rw [ht.g] at this
            rw [show flF (laidS n low 48) (m + 1) = (flF (laidS n low 48) m).flush 0 A by rw [hA]; rfl]
            exact this)
          have HT := Lib.hid ht
          clear hm ht hA
          go_wp2_with (refine HFL.out.mono ?_; rintro e w7 ⟨rfl, y7, hm7, ht7⟩; have HM7 := Lib.hid hm7; have HT7 := Lib.hid (HT.out.trans ht7); clear hm7 ht7)
          exact ⟨⟨m + 1, y7, by omega, by go_num, HM7.out, HT7.out⟩, by simp [intOf]; omega⟩
        · have h6 : m = 6 := by omega
          rw [h6] at hm hL
          have HFE := Lib.hid (show Calls Try.prog 23 #[.pointer (some ⟨y.g, 0, none⟩), .int .i64 0] wq (StPost wq y6 (laidM n low) 0) from by
            have := fence_ok hm hL.ok 0 (by decide) (by have := hL.num; omega)
            rw [ht.g] at this
            exact this)
          have HT := Lib.hid ht
          clear hm ht h6 hL
          go_wp2_with (refine HFE.out.mono ?_; rintro e w7 ⟨rfl, y7, hm7, ht7⟩; have HM7 := Lib.hid hm7; have HT7 := Lib.hid (HT.out.trans ht7); clear hm7 ht7)
          go_ret
          have hf4 : ∀ k, y.fp k → w.heap.size ≤ k := fun k hk => Nat.le_trans HSa.out (HF.out k hk)
          have hs4 : w.heap.size ≤ w4.heap.size := Nat.le_trans HSa.out (Nat.le_trans HB1.out.size HB4.out.size)
          refine ⟨y7, by rw [HT7.out.g]; rfl, HM7.out, fun k hk => ?_, ?_⟩
          · rcases HT7.out.fp k hk with h | h
            · exact hf4 k h
            · omega
          · exact (Below.and HB0.out (Below.and HB1.out HB4.out)).trans (HT7.out.but.below hs4 hf4)
end Go.Proofs.Yteojhhfcfdkmdaa
/- A run's step, and where its slice lies; conditions: it is under way. -/
namespace Go.Proofs.Yteojhhfcfdkmdaa
open Go.RowKit
set_option linter.unusedVariables false
def StepPostV (w : World) (y : Lay) (rg : Nat) (V0 : Value) (r' : RnRS) (s' : St) (w' : World) : Prop := ∃ y' V', MemAt w' y' s' ∧ RunOn w' y' rg r' V' ∧ RT w w' y y' rg ∧ (r'.left ≠ [] → V'.ownBlock = V0.ownBlock)
/-- Behind rstep_of: what was called, then the two cells that Step itself writes. -/
theorem step_finV {w w1 w' : World} {y y' : Lay} {s' : St} {rg : Nat} {V V0 : Value} {r' : RnRS} {D : Bool}
    (hm : MemAt w1 y' s') (hrow : Row w1 rg 113 (rcells (some ⟨y.g, 0, none⟩) r'.c V r'.line (nextV r'.ph.no rg) D 0)) (hA : Ahead w1 V r'.left) (hAs : ∀ b, V.ownBlock = some b → r'.left ≠ [] → ¬ y'.fp b ∧ b ≠ rg) (T : RT w w1 y y' rg) (sep : ¬ y.fp rg) (hlt : rg < w.heap.size)
    (hD : r'.done = D) (hk : r'.code = 0) (hb : Below (rstepW w1 rg D 0).heap.size (rstepW w1 rg D 0) w') (hO : r'.left ≠ [] → V.ownBlock = V0.ownBlock) : StepPostV w y rg V0 r' s' w' := by
  have sep' := T.nfp hlt sep
  have hm2 : MemAt (rstepW w1 rg D 0) y' s' := (hm.rset sep' 6 _).rset sep' 5 _
  have T1 : RT w1 (rstepW w1 rg D 0) y' y' rg := (RT.set y' rg 6 _).trans (RT.set y' rg 5 _)
  have hr2 : Row (rstepW w1 rg D 0) rg 113 (rcells (some ⟨y.g, 0, none⟩) r'.c V r'.line (nextV r'.ph.no rg) D 0) := by
    have := (hrow.set 6 (.int .i64 0)).set 5 (.bool D)
    rw [rcells_set] at this
    exact this
  have hA2 := hA.keep T1 hAs
  refine ⟨y', V, hm2.below hb, ⟨⟨?_, hA2.below hb⟩, sep', hAs⟩, (T.trans T1).trans (RT.of_below y' rg hb), hO⟩
  have := hr2.below hb hr2.lt
  rw [Ph.fn_no, hD, hk, T.g]
  exact this

theorem rstepV_any {w : World} {y : Lay} {s : St} {rg : Nat} {r : RnRS} {V : Value} {i : Nat} (h : MemAt w y s) (ok : s.Ok) (hs : Small s i) (hi : i ≤ 1000) (hr : RunOn w y rg r V) (g : r.Good s.nl) :
    Calls Try.prog 27 #[.pointer (some ⟨rg, 0, none⟩)] w fun e w' => e = .returned (.tuple #[.bool r.next.done, .int .i64 0]) ∧ StepPostV w y rg V r.next (r.mem s) w' := by
  have hpos := h.pos
  have hrow := hr.run.cells
  have hcn : r.c = ((r.c.toNat : Nat) : Int) := by have := g.c0; omega
  have hc64 : r.c.toNat ≤ 64 := by have := g.c1; omega
  obtain ⟨c, left, line, ph, done, code⟩ := r
  obtain ⟨gc0, gc1, gdn, gcd, glf, gpu, gl8, gl64⟩ := g
  dsimp only at *
  subst gdn gcd
  cases ph with
  | st =>
    cases left with
    | nil => exact absurd rfl (glf rfl)
    | cons av t =>
      obtain ⟨a, v⟩ := av
      obtain ⟨h8, h64, hv⟩ := gpu (a, v) List.mem_cons_self
      have H := rstore_any h hrow hr.run.ah hr.sep (fun b hb => hr.vsep b hb (by simp)) h8 h64 hv (by have := hs.st; omega) (fun l hl => by have := hs.pe l hl; omega) (fun p hp => by have := (gpu p (List.mem_cons_of_mem _ hp)).2.1; have := h.most; omega)
      refine (rstep_of (k := 0) (D := false) (P := fun w1 => RstPost w y (s.store a v) rg (some ⟨y.g, 0, none⟩) c ((a / 64 * 64 : Nat) : Int) (stNext a t) false 0 t V.ownBlock w1) (d := false) (fun w v => Try.call50 _ _) hrow gc0 gc1 (by omega) (fun h => rfl) rfl (size_yes h) (H.mono fun e w' ⟨he, hp⟩ => ⟨he, ?_, hp⟩)).mono ?_
      · obtain ⟨y', V', _, h2, _⟩ := hp
        exact ⟨_, _, _, h2⟩
      · rintro e w' ⟨he, w1, ⟨y', V', hm', hr', hA', ho', T'⟩, hb⟩
        refine ⟨he, step_finV (r' := RnRS.next ⟨c, (a, v) :: t, line, .st, false, 0⟩) (D := false) hm' ?_ hA' ?_ T' hr.sep hr.lt rfl rfl hb ho'⟩
        · have : stNext a t = (RnRS.next ⟨c, (a, v) :: t, line, .st, false, 0⟩).ph.no := by
            unfold stNext RnRS.next
            dsimp only
            cases ends a t <;> rfl
          rw [← this]
          exact hr'
        · intro b hb' h0
          have := ho' h0
          rw [this] at hb'
          obtain ⟨v1, v2⟩ := hr.vsep b hb' (by simp)
          exact ⟨T'.nfp (hr.run.ah.lt (by simp) hb') v1, v2⟩
  | fl =>
    have H := rflush_any h ok (c := c.toNat) (by rw [← hcn]; exact hrow) hr.sep hc64 gl8 gl64
    rw [← hcn] at H
    refine (rstep_of (k := 0) (D := false) (P := fun w1 => RflPost w y (s.flush c.toNat line) rg (rcells (some ⟨y.g, 0, none⟩) c V line (nextV 84 rg) false 0) w1) (d := false) (fun w v => Try.call72 _ _) hrow gc0 gc1 (by omega) (fun h => rfl) rfl (size_yes h) (H.mono fun e w' ⟨he, hp⟩ => ⟨he, ?_, hp⟩)).mono ?_
    · obtain ⟨y', _, h2, _⟩ := hp
      exact ⟨_, _, _, h2⟩
    · rintro e w' ⟨he, w1, ⟨y', hm', hr', T'⟩, hb⟩
      exact ⟨he, step_finV (r' := RnRS.next ⟨c, left, line, .fl, false, 0⟩) (D := false) hm' hr' (hr.run.ah.keep T' hr.vsep) (fun b hb' h0 => ⟨T'.nfp (hr.run.ah.lt h0 hb') (hr.vsep b hb' h0).1, (hr.vsep b hb' h0).2⟩) T' hr.sep hr.lt rfl rfl hb (fun _ => rfl)⟩
  | fe =>
    obtain ⟨A, cap, rfl, _, _⟩ := hr.run.ah.len
    have hD : left.isEmpty = ((left.length : Int) == 0) := by
      cases left with
      | nil => rfl
      | cons a t =>
        have : ((((a :: t).length : Nat) : Int) == 0) = false := by simp only [List.length_cons]; rw [beq_eq_false_iff_ne]; omega
        rw [this]
        rfl
    have H := rfence_any h ok (c := c.toNat) (by rw [← hcn]; exact hrow) hr.sep hc64 (by have := hs.fe; omega) left.isEmpty hD
    rw [← hcn] at H
    refine (rstep_of (k := 0) (D := left.isEmpty) (P := fun w1 => RflPost w y (s.fence c.toNat) rg (rcells (some ⟨y.g, 0, none⟩) c (.slice A left.length cap) line (nextV 50 rg) left.isEmpty 0) w1) (d := left.isEmpty) (fun w v => Try.call84 _ _) hrow gc0 gc1 (by omega) (fun h => rfl) (by simp) (size_yes h) (H.mono fun e w' ⟨he, hp⟩ => ⟨he, ?_, hp⟩)).mono ?_
    · obtain ⟨y', _, h2, _⟩ := hp
      exact ⟨_, _, _, h2⟩
    · rintro e w' ⟨he, w1, ⟨y', hm', hr', T'⟩, hb⟩
      exact ⟨he, step_finV (r' := RnRS.next ⟨c, left, line, .fe, false, 0⟩) (D := left.isEmpty) hm' hr' (hr.run.ah.keep T' hr.vsep) (fun b hb' h0 => ⟨T'.nfp (hr.run.ah.lt h0 hb') (hr.vsep b hb' h0).1, (hr.vsep b hb' h0).2⟩) T' hr.sep hr.lt rfl rfl hb (fun _ => rfl)⟩
  | en =>
    have H := rend_any hrow
    refine (rstep_of (k := 0) (D := true) (P := fun w1 => w.setCell ⟨rg, 5, none⟩ (.bool true) = w1) (d := true) (fun w v => Try.call51 _ _) hrow gc0 gc1 (by omega) (fun h => rfl) rfl (size_yes h) (H.mono fun e w' ⟨he, hp⟩ => ⟨he, ?_, hp⟩)).mono ?_
    · subst hp
      exact ⟨_, _, _, hrow.set 5 _⟩
    · rintro e w' ⟨he, w1, rfl, hb⟩
      exact ⟨he, step_finV (r' := RnRS.next ⟨c, left, line, .en, false, 0⟩) (D := true) (h.rset hr.sep 5 _) (hrow.set 5 _) (hr.run.ah.keep (RT.set y rg 5 _) hr.vsep) hr.vsep (RT.set y rg 5 _) hr.sep hr.lt rfl rfl hb (fun _ => rfl)⟩
end Go.Proofs.Yteojhhfcfdkmdaa
