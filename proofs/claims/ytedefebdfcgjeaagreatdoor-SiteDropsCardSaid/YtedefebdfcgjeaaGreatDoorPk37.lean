/- Texts of this claim, packed: 7Rel, 7Path. -/
import Derived.Test.YtedefebdfcgjeaaGreatDoorPk08
import Derived.BigQuiet
import Derived.Deep.QuietTactic
import Derived.Deep.RegionHeld3
/- Release, Wants, New: what each answers, and which locks it leaves; for any table, client and address. -/
namespace Go.Proofs.YtedefebdfcgjeaaGreatDoor
open Go.RowKit
set_option linter.unusedVariables false
theorem rel_end {w w1 : World} {g b : Nat} {s : Lk} (hK : KAt w g b s) {c id : Nat} (hc : c < s.n) (h1 : (s.wt c = id ∧ w1 = w.setCell ⟨g, 2 + c, none⟩ (.int .u64 0)) ∨ (s.wt c ≠ id ∧ w1 = w)) :
    KAt w1 g b ⟨s.n, s.hm, (if s.wt c = id then setW s.wt c 0 else s.wt), s.sz⟩ ∧ But w w1 (kfp g b) := by
  have c64 : c < 64 := by have := hK.ok.n2; omega
  have ok : Lk.Ok ⟨s.n, s.hm, (if s.wt c = id then setW s.wt c 0 else s.wt), s.sz⟩ := by
    have h := hK.ok
    have hwt : ∀ d, (if s.wt c = id then setW s.wt c 0 else s.wt) d = s.wt d ∨ (if s.wt c = id then setW s.wt c 0 else s.wt) d = 0 := by
      intro d
      split
      · unfold setW
        split
        · exact .inr rfl
        · exact .inl rfl
      · exact .inl rfl
    refine ⟨h.n1, h.n2, h.h0, h.hc, ?_, ?_, ?_, h.zs⟩
    · intro d
      have := h.wb d
      rcases hwt d with e | e
      · show (if s.wt c = id then setW s.wt c 0 else s.wt) d < _
        rw [e]; exact this
      · show (if s.wt c = id then setW s.wt c 0 else s.wt) d < _
        rw [e]; omega
    · intro d hd
      show (if s.wt c = id then setW s.wt c 0 else s.wt) d = 0
      rcases hwt d with e | e
      · rw [e]; exact h.wo d hd
      · exact e
    · intro d hd he
      change (if s.wt c = id then setW s.wt c 0 else s.wt) d ≠ 0 at hd
      change s.hm ((if s.wt c = id then setW s.wt c 0 else s.wt) d) = some d at he
      rcases hwt d with e | e
      · rw [e] at hd he
        exact h.hw d hd he
      · exact hd e
  rcases h1 with ⟨e, rfl⟩ | ⟨e, rfl⟩
  · exact ⟨hK.wset c64 rfl rfl (if_pos e) rfl ok, But.set (But.refl _ _) (.inl rfl) _⟩
  · refine ⟨⟨?_, hK.mp, ok⟩, But.refl _ _⟩
    show Row _ _ _ (ktcells s.n (some b) (if s.wt c = id then setW s.wt c 0 else s.wt))
    rw [if_neg e]
    exact hK.row
theorem nat_bne0 (n : Nat) : ((n : Int) != 0) = decide (n ≠ 0) := by
  rw [Bool.eq_iff_iff]
  simp
theorem wants_any {w : World} {g b : Nat} {s : Lk} (h : KAt w g b s) {c : Nat} (hc : c < s.n) :
    Calls Tryz.prog 25 #[.pointer (some ⟨g, 0, none⟩), .int .i64 (c : Int)] w fun e w' => e = .returned (.tuple #[.int .u64 (s.wt c : Int), .bool (decide (s.wt c ≠ 0))]) ∧ Below w.heap.size w w' := by
  have c64 : c < 64 := by have := h.ok.n2; omega
  have hI := kis_any h (c : Int)
  rw [isC_yes hc] at hI
  have HI := Lib.hid hI
  have hcell := h.cw c64
  have hb := nat_bne0 (s.wt c)
  clear h hc hI
  generalize s.wt c = t at *
  generalize decide (t ≠ 0) = y at *
  go_enter Tryz.func25, Tryz.ntmps25
  go_wp2_with fail
  refine HI.out.mono ?_
  rintro e w1 ⟨rfl, rfl⟩
  go_wp2
  go_quiet (fail)
  go_wp2
  go_ret2
  exact ⟨rfl, drewN_below _ _⟩
theorem knew_no (z : Int) (w : World) (h : z < 1 ∨ 64 < z) : Calls Tryz.prog 36 #[.int .i64 z] w fun e w' => e = .returned (.tuple #[.pointer none, .int .i64 2]) ∧ w = w' := by
  by_cases h1 : z < 1
  · clear h
    go_enter Tryz.func36, Tryz.ntmps36
    go_wp2
    go_ret2
    exact ⟨rfl, rfl⟩
  · have h2 : 64 < z := by omega
    clear h
    go_enter Tryz.func36, Tryz.ntmps36
    go_wp2
    go_ret2
    exact ⟨rfl, rfl⟩
/-- Locks that nobody has. -/
def lk0 (n : Nat) : Lk := ⟨n, fun _ => none, fun _ => 0, 0⟩
theorem lk0_ok {n : Nat} (h1 : 1 ≤ n) (h2 : n ≤ 64) : (lk0 n).Ok :=
  ⟨h1, h2, rfl, fun _ _ h => (by cases h), fun _ => (by show (0 : Nat) < _; omega), fun _ _ => rfl, fun _ h => absurd rfl h, (by show (0 : Nat) ≤ _; omega)⟩
def KNewPost (w : World) (n : Nat) (e : Ending) (w' : World) : Prop := ∃ g b, e = .returned (.tuple #[.pointer (some ⟨g, 0, none⟩), .int .i64 0]) ∧ KAt w' g b (lk0 n) ∧ w.heap.size ≤ g ∧ w.heap.size ≤ b ∧ Below w.heap.size w w'
theorem hasAt_new {w : World} {b : Nat} (h : w.heap[b]? = some (.map #[] 0)) : HasAt w b (fun _ => none) 0 :=
  ⟨.map [], ⟨#[], 0, h, ⟨by simp, MapKept.stamped_empty 0, by simp⟩, Nat.le_refl _, rfl⟩, fun k hk => (by cases hk), fun id _ => rfl, fun id c _ h => (by cases h)⟩
theorem knew_mk {w : World} {n : Nat} (h1 : 1 ≤ n) (h2 : n ≤ 64) {W : World} (hW : W = (w.alloc (.map #[] 0)).alloc (.cells (ktcells n (some w.heap.size) fun _ => 0) 118)) :
    KNewPost w n (.returned (.tuple #[.pointer (some ⟨w.heap.size + 1, 0, none⟩), .int .i64 0])) W := by
  subst hW
  refine ⟨w.heap.size + 1, w.heap.size, rfl, ⟨?_, ?_, lk0_ok h1 h2⟩, by omega, by omega, Below.and (alloc_below _ _) (alloc_below _ _)⟩
  · have := Row.new (w.alloc (.map #[] 0)) 118 (ktcells n (some w.heap.size) fun _ => 0)
    simp only [lk0]
    simpa using this
  · refine hasAt_new ?_
    exact (Below.heap_alloc _ _ _ (by simp)).trans (heap_alloc_new w _)
theorem zeros_t : Tryz.zeroCells118 = ktcells 0 none (fun _ => 0) := by kernel_rfl
theorem tcells_else (n k : Nat) (m l : Option Nat) (wt : Nat → Nat) (j : Nat) (h : 2 ≤ j) : (ktcells n m wt)[j]? = (ktcells k l wt)[j]? := by
  unfold ktcells
  rw [Array.getElem?_append_right (by simpa using h), Array.getElem?_append_right (by simpa using h)]
  rfl
theorem tcells_size (n : Nat) (m : Option Nat) (wt : Nat → Nat) : (ktcells n m wt).size = 66 := by simp [ktcells]
theorem tcells_sn (n k : Nat) (m : Option Nat) (wt : Nat → Nat) : (ktcells n m wt).setIfInBounds 0 (.int .i64 (k : Int)) = ktcells k m wt := by
  apply Array.ext_getElem?
  intro j
  rw [Array.getElem?_setIfInBounds]
  by_cases e : 0 = j
  · subst e
    rw [if_pos rfl, if_pos (by rw [tcells_size]; omega), tcells_0]
  · rw [if_neg e]
    by_cases e1 : j = 1
    · subst e1
      rw [tcells_1, tcells_1]
    · exact tcells_else _ _ _ _ _ _ (by omega)
theorem tcells_sm (n : Nat) (m k : Option Nat) (wt : Nat → Nat) : (ktcells n m wt).setIfInBounds 1 (.map k) = ktcells n k wt := by
  apply Array.ext_getElem?
  intro j
  rw [Array.getElem?_setIfInBounds]
  by_cases e : 1 = j
  · subst e
    rw [if_pos rfl, if_pos (by rw [tcells_size]; omega), tcells_1]
  · rw [if_neg e]
    by_cases e1 : j = 0
    · subst e1
      rw [tcells_0, tcells_0]
    · exact tcells_else _ _ _ _ _ _ (by omega)
theorem tcells_made (n : Nat) (k : Option Nat) : (Tryz.zeroCells118.setIfInBounds 0 (.int .i64 (n : Int))).setIfInBounds 1 (.map k) = ktcells n k (fun _ => 0) := by
  rw [zeros_t, tcells_sn, tcells_sm]
set_option maxRecDepth 100000 in
set_option maxHeartbeats 1000000 in
theorem knew_yes {n : Nat} (w : World) (h1 : 1 ≤ n) (h2 : n ≤ 64) : Calls Tryz.prog 36 #[.int .i64 (n : Int)] w (KNewPost w n) := by
  have HE := Lib.hid (fun W hW => knew_mk (w := w) h1 h2 (W := W) hW)
  have hmm := @run_makeMap Tryz.prog
  have g1 : decide ((n : Int) < 1) = false := by simp; omega
  have g2 : decide (64 < (n : Int)) = false := by simp; omega
  clear h1 h2
  go_enter Tryz.func36, Tryz.ntmps36
  go_wp2
  go_ret2
  exact HE.out _ (by rw [tcells_made])
end Go.Proofs.YtedefebdfcgjeaaGreatDoor
/- Who waits on whom: paths, their ends and circles; plain facts, without conditions. -/
namespace Go.Proofs.YtedefebdfcgjeaaGreatDoor
open Go.RowKit
set_option linter.unusedVariables false
/-- On whom a client waits. -/
def nx (s : Lk) (c : Nat) : Option Nat := s.hm (s.wt c)
/-- So many steps along. -/
def it (s : Lk) (c : Nat) : Nat → Option Nat
  | 0 => some c
  | k + 1 => (it s c k).bind (nx s)
theorem it_add (s : Lk) (c i j : Nat) : it s c (i + j) = (it s c i).bind fun d => it s d j := by
  induction j with
  | zero => cases h : it s c i <;> simp [it, h]
  | succ j ih =>
    rw [show i + (j + 1) = (i + j) + 1 from by omega, it, ih]
    cases it s c i <;> rfl
theorem it_step {s : Lk} {c d : Nat} (h : nx s c = some d) (i : Nat) : it s c (i + 1) = it s d i := by
  rw [show i + 1 = 1 + i from by omega, it_add]
  have : it s c 1 = some d := by simp [it, h]
  rw [this]
  rfl
theorem it_mul {s : Lk} {x m : Nat} (h : it s x m = some x) (j : Nat) : it s x (m * j) = some x := by
  induction j with
  | zero => rfl
  | succ j ih =>
    rw [Nat.mul_succ, it_add, ih]
    exact h
theorem it_end {s : Lk} {r : Nat} (h : nx s r = none) {i : Nat} (hi : 0 < i) : it s r i = none := by
  obtain ⟨k, rfl⟩ : ∃ k, i = 1 + k := ⟨i - 1, by omega⟩
  rw [it_add]
  have : it s r 1 = none := by simp [it, h]
  rw [this]
  rfl
theorem it_from {s : Lk} {c x : Nat} {i j : Nat} (h : it s c i = some x) (hij : i ≤ j) : it s c j = it s x (j - i) := by
  obtain ⟨k, rfl⟩ : ∃ k, j = i + k := ⟨j - i, by omega⟩
  rw [it_add, h]
  simp
/-- On whom c's going on hangs. -/
def EndsAt (s : Lk) (c r : Nat) : Prop := ∃ k, it s c k = some r ∧ nx s r = none
def Orb (s : Lk) (x y : Nat) : Prop := ∃ i, it s x i = some y
def Circ (s : Lk) (x r : Nat) : Prop := (∃ m, 0 < m ∧ it s x m = some x) ∧ Orb s x r ∧ ∀ y, Orb s x y → r ≤ y
def RunsIs (s : Lk) (c r : Nat) : Prop := EndsAt s c r ∨ ∃ x, Orb s c x ∧ Circ s x r
theorem orb_back {s : Lk} {x y m : Nat} (hm : 0 < m) (hx : it s x m = some x) (h : Orb s x y) : Orb s y x := by
  obtain ⟨i, hi⟩ := h
  have h1 : i ≤ m * (i + 1) := by
    have : m * (i + 1) ≥ 1 * (i + 1) := Nat.mul_le_mul_right _ hm
    omega
  have := it_from hi h1
  rw [it_mul hx] at this
  exact ⟨_, this.symm⟩
theorem orb_trans {s : Lk} {x y z : Nat} (h : Orb s x y) (h2 : Orb s y z) : Orb s x z := by
  obtain ⟨i, hi⟩ := h
  obtain ⟨j, hj⟩ := h2
  exact ⟨i + j, by rw [it_add, hi]; exact hj⟩
theorem orb_line {s : Lk} {c x y : Nat} (h : Orb s c x) (h2 : Orb s c y) : Orb s x y ∨ Orb s y x := by
  obtain ⟨i, hi⟩ := h
  obtain ⟨j, hj⟩ := h2
  by_cases e : i ≤ j
  · exact .inl ⟨j - i, by rw [← it_from hi e]; exact hj⟩
  · exact .inr ⟨i - j, by rw [← it_from hj (by omega)]; exact hi⟩
theorem runs_one {s : Lk} {c r r' : Nat} (h : RunsIs s c r) (h' : RunsIs s c r') : r = r' := by
  have hec : ∀ a b, EndsAt s c a → ¬ ∃ x, Orb s c x ∧ Circ s x b := by
    rintro a b ⟨k, hk, hn⟩ ⟨x, ⟨i, hi⟩, ⟨m, hm, hx⟩, _⟩
    have h1 : it s c (i + m * (k + 1)) = some x := by rw [it_add, hi]; exact it_mul hx _
    have h2 : k < i + m * (k + 1) := by
      have : m * (k + 1) ≥ 1 * (k + 1) := Nat.mul_le_mul_right _ hm
      omega
    rw [it_from hk (by omega), it_end hn (by omega)] at h1
    cases h1
  rcases h with h | h <;> rcases h' with h' | h'
  · obtain ⟨k, hk, hn⟩ := h
    obtain ⟨k', hk', hn'⟩ := h'
    have hle : ∀ (a b x y : Nat), it s c a = some x → nx s x = none → it s c b = some y → b ≤ a := by
      intro a b x y ha hx hb
      by_cases e : b ≤ a
      · exact e
      · rw [it_from ha (by omega), it_end hx (by omega)] at hb
        cases hb
    have e1 := hle _ _ _ _ hk hn hk'
    have e2 := hle _ _ _ _ hk' hn' hk
    obtain rfl : k = k' := by omega
    rw [hk] at hk'
    cases hk'
    rfl
  · exact absurd h' (hec _ _ h)
  · exact absurd h (hec _ _ h')
  · obtain ⟨x, hx, ⟨m, hm, hmx⟩, ho, hl⟩ := h
    obtain ⟨x', hx', ⟨m', hm', hmx'⟩, ho', hl'⟩ := h'
    have both : Orb s x x' ∧ Orb s x' x := by
      rcases orb_line hx hx' with e | e
      · exact ⟨e, orb_back hm hmx e⟩
      · exact ⟨orb_back hm' hmx' e, e⟩
    have e1 := hl r' (orb_trans both.1 ho')
    have e2 := hl' r (orb_trans both.2 ho)
    omega
theorem nx_lt {s : Lk} (h : s.Ok) {c d : Nat} (hd : nx s c = some d) : d < s.n := (h.hc _ _ hd).1
/-- All that lies on a circle has been met by the first return. -/
theorem circ_all {s : Lk} {c j : Nat} (h0 : 0 < j) (hj : it s c j = some c) {y : Nat} (h : Orb s c y) : ∃ i, i < j ∧ it s c i = some y := by
  obtain ⟨i, hi⟩ := h
  refine ⟨i % j, Nat.mod_lt _ h0, ?_⟩
  have e : i = j * (i / j) + i % j := (Nat.div_add_mod i j).symm
  rw [e, it_add, it_mul hj] at hi
  exact hi
/-- Clients that were met. -/
structure Met (s : Lk) (c0 : Nat) (V : List Nat) (cur : Nat) : Prop where
  nd : V.Nodup
  lt : ∀ d ∈ V, d < s.n
  new : cur ∉ V
  cl : cur < s.n
  from_ : Orb s c0 cur
  to : ∀ d ∈ V, Orb s d cur
theorem Met.few {s : Lk} {c0 cur : Nat} {V : List Nat} (h : Met s c0 V cur) : V.length < s.n := by
  have h1 : (cur :: V).Nodup := List.nodup_cons.2 ⟨h.new, h.nd⟩
  have h2 : cur :: V ⊆ List.range s.n := by
    intro d hd
    rw [List.mem_range]
    rcases List.mem_cons.1 hd with rfl | hd
    · exact h.cl
    · exact h.lt d hd
  have h3 := List.Nodup.length_le_of_subset h1 h2
  have : V.length + 1 ≤ s.n := by simpa using h3
  omega
theorem Met.step {s : Lk} {c0 cur nxt : Nat} {V : List Nat} (h : Met s c0 V cur) (ok : s.Ok) (hn : nx s cur = some nxt) (hm : nxt ∉ cur :: V) : Met s c0 (cur :: V) nxt := by
  have h1 : Orb s cur nxt := ⟨1, by simp [it, hn]⟩
  refine ⟨List.nodup_cons.2 ⟨h.new, h.nd⟩, ?_, hm, nx_lt ok hn, orb_trans h.from_ h1, ?_⟩
  · intro d hd
    rcases List.mem_cons.1 hd with rfl | hd
    · exact h.cl
    · exact h.lt d hd
  · intro d hd
    rcases List.mem_cons.1 hd with rfl | hd
    · exact h1
    · exact orb_trans (h.to d hd) h1
theorem Met.circ {s : Lk} {c0 cur nxt : Nat} {V : List Nat} (h : Met s c0 V cur) (hn : nx s cur = some nxt) (hm : nxt ∈ cur :: V) : ∃ m, 0 < m ∧ it s cur m = some cur := by
  have h1 : Orb s nxt cur := by
    rcases List.mem_cons.1 hm with rfl | hd
    · exact ⟨0, rfl⟩
    · exact h.to _ hd
  obtain ⟨i, hi⟩ := h1
  exact ⟨i + 1, by omega, by rw [it_step hn]; exact hi⟩
end Go.Proofs.YtedefebdfcgjeaaGreatDoor
