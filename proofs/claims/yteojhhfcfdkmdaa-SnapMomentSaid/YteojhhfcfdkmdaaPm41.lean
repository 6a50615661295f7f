/- Texts of this claim, packed: N9LawA, N9Way, N9J, N9Bok, N9On, N9Oc, SnMc. -/
import Derived.Test.YteojhhfcfdkmdaaPm38
import Derived.Test.YteojhhfcfdkmdaaPm39
import Derived.Test.YteojhhfcfdkmdaaPm11
import Derived.Test.YteojhhfcfdkmdaaPm40
import Derived.Test.YteojhhfcfdkmdaaPm05
import Derived.Laws.AppendOwnNone
set_option linter.unusedSimpArgs false
set_option linter.unusedVariables false
/- FastApplies: the law is true of any base, any node, any list of stores; conditions: numbers of the width. -/
namespace Go.Proofs.Yteojhhfcfdkmdaa
open Go.RowKit
set_option linter.unusedVariables false
/-- The stores as they lie behind an address. -/
theorem puts_news {w : World} {a : Addr} {l : List (Int × Int)} {len : Nat} (hl : l.length = len) (h : ∀ i, i < len → w.cell? (a.add (i * 2)) = some (.int .u64 (l.getD i (0, 0)).1) ∧ w.cell? (a.add (i * 2 + 1)) = some (.int .u64 (l.getD i (0, 0)).2)) : ∀ j u, (flatE l)[j]? = some u → w.cell? (a.add j) = some u := by
  intro j u hu
  have hj : j < 2 * len := by
    have := (List.getElem?_eq_some_iff.1 hu).1
    rw [flatE_len] at this
    omega
  have hi : j / 2 < l.length := by omega
  obtain ⟨f1, f2⟩ := flatE_at l (j / 2) (l.getD (j / 2) (0, 0)) (getD_ent hi)
  obtain ⟨c1, c2⟩ := h (j / 2) (by omega)
  by_cases e : j % 2 = 0
  · rw [show j / 2 * 2 = j by omega] at f1 c1
    rw [f1] at hu
    cases hu
    exact c1
  · rw [show j / 2 * 2 + 1 = j by omega] at f2 c2
    rw [f2] at hu
    cases hu
    exact c2
/-- One store behind the others. -/
theorem apL_app {base : Int} : ∀ {l : List (Int × Int)} {n : Nd} {s : Int × Int}, apL base n (l ++ [s]) = match apL base n l with | some m => ap base m s | none => none
  | [], n, s => by
    simp only [List.nil_append, apL]
    cases ap base n s <;> rfl
  | t :: l, n, s => by
    rw [List.cons_append, apL, apL]
    cases h : ap base n t with
    | none => rfl
    | some m => exact apL_app
theorem row_setCells_other {w : World} {b b' : Nat} {t : TypeId} {cs : Array Value} (h : Row w b t cs) (hne : b' ≠ b) (vs : List Value) : Row (w.setCells b' 0 vs) b t cs := by
  suffices H : ∀ (vs : List Value) (o : Nat) (w : World), Row w b t cs → Row (w.setCells b' o vs) b t cs from H vs 0 w h
  intro vs
  induction vs with
  | nil => exact fun o w h => h
  | cons v r ih => exact fun o w h => ih (o + 1) _ (h.other (p := ⟨b', o, none⟩) (by simpa using hne.symm) v)
theorem add_next (a : Addr) (k : Nat) : (⟨(a.add k).block, (a.add k).off + 1, none⟩ : Addr) = a.add (k + 1) := by
  unfold Addr.add
  split <;> simp_all <;> omega
theorem apL_two {base : Int} : ∀ {l m : List (Int × Int)} {n : Nd}, apL base n (l ++ m) = match apL base n l with | some k => apL base k m | none => none
  | [], m, n => rfl
  | t :: l, m, n => by
    rw [List.cons_append, apL, apL]
    cases h : ap base n t with
    | none => rfl
    | some k => exact apL_two
theorem apL_pre {base : Int} {l : List (Int × Int)} {n : Nd} (k : Nat) (h : apL base n (l.take k) = none) : apL base n l = none := by
  have := apL_two (base := base) (l := l.take k) (m := l.drop k) (n := n)
  rw [List.take_append_drop, h] at this
  exact this
end Go.Proofs.Yteojhhfcfdkmdaa
/- The nodes on a change's way: behind how many stores, which entries; plain facts; no conditions. -/
namespace Go.Proofs.Yteojhhfcfdkmdaa
open Go.RowKit
set_option linter.unusedVariables false
set_option linter.unusedSimpArgs false
theorem steps_all {base : Int} {P : Nd → Prop} : ∀ {a : List (Int × Int)} {n m : Nd}, Steps base P n a m → apL base n a = some m
  | [], n, m, h => by obtain ⟨_, rfl⟩ := h; rfl
  | s :: a, n, m, h => by
    obtain ⟨_, n', h1, h2⟩ := h
    rw [apL, h1]
    exact steps_all h2
theorem steps_take {base : Int} {P : Nd → Prop} : ∀ {a : List (Int × Int)} {n m : Nd}, Steps base P n a m → ∀ i, i ≤ a.length → ∃ k, apL base n (a.take i) = some k ∧ P k
  | a, n, m, h, 0, hi => ⟨n, by rw [List.take_zero]; rfl, h.first⟩
  | [], n, m, h, i + 1, hi => by simp at hi
  | s :: a, n, m, h, i + 1, hi => by
    obtain ⟨_, n', h1, h2⟩ := h
    obtain ⟨k, h3, h4⟩ := steps_take h2 i (by simp at hi; omega)
    refine ⟨k, ?_, h4⟩
    rw [List.take_succ_cons, apL, h1]
    exact h3
/-- Behind i stores: the entries that it had, up to the effect; behind it those that it is to have. -/
theorem eff_way {base : Int} {n : Nd} {l now : List (Int × Int)} {j : Nat} (h : Eff base n l now j) : j < l.length ∧ ∀ i, i ≤ l.length → ∃ k, apL base n (l.take i) = some k ∧ Has (if i ≤ j then n.es else now) k ∧ (i = l.length → k.inv = -1) := by
  obtain ⟨a, s, b, m1, m2, m3, rfl, rfl, s1, s2, s3, s4⟩ := h.ex
  refine ⟨by simp, fun i hi => ?_⟩
  by_cases hle : i ≤ a.length
  · obtain ⟨k, h1, h2⟩ := steps_take s1 i hle
    exact ⟨k, by rw [List.take_append_of_le_length hle]; exact h1, by rw [if_pos hle]; exact h2, fun he => by simp at he; omega⟩
  · obtain ⟨d, rfl⟩ : ∃ d, i = a.length + (d + 1) := ⟨i - a.length - 1, by omega⟩
    have hd : d ≤ b.length := by simp at hi; omega
    obtain ⟨k, h1, h2⟩ := steps_take s3 d hd
    have ht : (a ++ s :: b).take (a.length + (d + 1)) = a ++ s :: b.take d := by
      rw [List.take_length_add_append, List.take_succ_cons]
    have hk : apL base n (a ++ s :: b.take d) = some k := by
      rw [apL_two, steps_all s1]
      show apL base m1 (s :: b.take d) = some k
      rw [apL, s2]
      exact h1
    refine ⟨k, by rw [ht]; exact hk, by rw [if_neg hle]; exact h2, fun he => ?_⟩
    have hdb : d = b.length := by simp at he; omega
    rw [hdb, List.take_length, steps_all s3] at h1
    cases h1
    exact s4
theorem same_way {base : Int} {n m : Nd} {l : List (Int × Int)} (h : Steps base (Has n.es) n l m) (hi : m.inv = -1) : ∀ i, i ≤ l.length → ∃ k, apL base n (l.take i) = some k ∧ Has n.es k ∧ (i = l.length → k.inv = -1) := fun i hil => by
  obtain ⟨k, h1, h2⟩ := steps_take h i hil
  refine ⟨k, h1, h2, fun he => ?_⟩
  rw [he, List.take_length, steps_all h] at h1
  cases h1
  exact hi
end Go.Proofs.Yteojhhfcfdkmdaa
/- Which entries a node has behind how many stores of a change that is asked for, and which of them is the effect; plain facts; no conditions. -/
namespace Go.Proofs.Yteojhhfcfdkmdaa
open Go.RowKit
set_option linter.unusedVariables false
set_option linter.unusedSimpArgs false
/-- The entries behind i stores. -/
def esAt (es now : List (Int × Int)) (J : Option Nat) (i : Nat) : List (Int × Int) := match J with
  | none => es
  | some j => if i ≤ j then es else now
/-- Which store was the effect, of i. -/
def atJ (J : Option Nat) (i : Nat) : Int := match J with
  | none => -1
  | some j => if i ≤ j then -1 else (j : Int)
/-- The entries behind a change, by what it is. -/
def bhL (d key ptr : Int) : Bool → List (Int × Int) → List (Int × Int)
  | b, [] => if b = true then [(key, ptr)] else []
  | b, e :: t => (if b = true ∧ key < e.1 then [(key, ptr)] else []) ++ (if d = 1 ∧ e.1 = key then [] else if d = 3 ∧ e.1 = key then [(key, ptr)] else if d = 4 ∧ key ≤ e.1 then [] else [e]) ++ bhL d key ptr (b && !decide (key < e.1)) t
theorem bhL_cons (d key ptr : Int) (b : Bool) (e : Int × Int) (t : List (Int × Int)) : bhL d key ptr b (e :: t) = (if b = true ∧ key < e.1 then [(key, ptr)] else []) ++ (if d = 1 ∧ e.1 = key then [] else if d = 3 ∧ e.1 = key then [(key, ptr)] else if d = 4 ∧ key ≤ e.1 then [] else [e]) ++ bhL d key ptr (b && !decide (key < e.1)) t := rfl
theorem bhL_same {d key ptr : Int} (h : ∀ e, ¬ (d = 1 ∧ e = key) ∧ ¬ (d = 3 ∧ e = key) ∧ ¬ (d = 4 ∧ key ≤ e)) : ∀ l : List (Int × Int), bhL d key ptr false l = l
  | [] => rfl
  | e :: t => by
    have := h e.1
    unfold bhL
    rw [if_neg (by simp), if_neg this.1, if_neg this.2.1, if_neg this.2.2, List.nil_append, Bool.false_and, bhL_same h t]
    rfl
theorem bhL_ins_hi {key ptr : Int} : ∀ B : List (Int × Int), bhL 0 key ptr false B = B := fun B => bhL_same (fun e => ⟨by omega, by omega, by omega⟩) B
theorem bhL_ins {key ptr : Int} : ∀ A B : List (Int × Int), (∀ e ∈ A, e.1 < key) → (∀ e ∈ B, key < e.1) → bhL 0 key ptr true (A ++ B) = A ++ (key, ptr) :: B
  | [], [], _, _ => rfl
  | [], e :: B, _, hB => by
    have := hB e (by simp)
    rw [List.nil_append, List.nil_append]
    unfold bhL
    rw [if_pos ⟨rfl, this⟩, if_neg (by omega), if_neg (by omega), if_neg (by omega), decide_eq_true this]
    show _ ++ _ ++ bhL 0 key ptr false B = _
    rw [bhL_ins_hi]
    rfl
  | e :: A, B, hA, hB => by
    have := hA e (by simp)
    rw [List.cons_append, List.cons_append]
    unfold bhL
    rw [if_neg (by omega), if_neg (by omega), if_neg (by omega), if_neg (by omega), decide_eq_false (by omega)]
    show _ ++ _ ++ bhL 0 key ptr true (A ++ B) = _
    rw [bhL_ins A B (fun e he => hA e (by simp [he])) hB]
    rfl
theorem bhL_app {d key ptr : Int} (hd : d ≠ 0) : ∀ A B : List (Int × Int), bhL d key ptr false (A ++ B) = bhL d key ptr false A ++ bhL d key ptr false B
  | [], B => rfl
  | e :: A, B => by
    rw [List.cons_append, bhL_cons, bhL_cons, Bool.false_and, bhL_app hd A B]
    simp only [List.append_assoc]
theorem bhL_keep {d key ptr : Int} : ∀ l : List (Int × Int), (∀ e ∈ l, ¬ (d = 1 ∧ e.1 = key) ∧ ¬ (d = 3 ∧ e.1 = key) ∧ ¬ (d = 4 ∧ key ≤ e.1)) → bhL d key ptr false l = l
  | [], _ => rfl
  | e :: t, h => by
    have := h e (by simp)
    unfold bhL
    rw [if_neg (by simp), if_neg this.1, if_neg this.2.1, if_neg this.2.2, List.nil_append, Bool.false_and, bhL_keep t (fun e he => h e (by simp [he]))]
    rfl
theorem bhL_cut {key ptr : Int} : ∀ l : List (Int × Int), (∀ e ∈ l, key ≤ e.1) → bhL 4 key ptr false l = []
  | [], _ => rfl
  | e :: t, h => by
    have := h e (by simp)
    unfold bhL
    rw [if_neg (by simp), if_neg (by omega), if_neg (by omega), if_pos ⟨rfl, this⟩, Bool.false_and, bhL_cut t (fun e he => h e (by simp [he]))]
    rfl
/-- The keys of a whole node's entries, about one. -/
theorem es_about {n : Nd} (hm : n.may 0 false = true) {A B : List (Int × Int)} {e : Int × Int} (hes : n.es = A ++ e :: B) : (∀ x ∈ A, x.1 < e.1) ∧ ∀ x ∈ B, e.1 < x.1 := by
  have hf := (may_fit hm).1.rise
  rw [riseB_iff, hes] at hf
  have hp := hf.2
  rw [List.map_append, List.map_cons, List.pairwise_append] at hp
  refine ⟨fun x hx => hp.2.2 _ (List.mem_map_of_mem hx) _ (by simp), fun x hx => ?_⟩
  exact (List.pairwise_cons.1 hp.2.1).1 _ (List.mem_map_of_mem hx)
/-- The way of a change. -/
structure WayJ (base : Int) (n : Nd) (l now : List (Int × Int)) (J : Option Nat) : Prop where
  at_ : ∀ i, i ≤ l.length → ∃ k, apL base n (l.take i) = some k ∧ Has (esAt n.es now J i) k ∧ (i = l.length → k.inv = -1)
  lt : ∀ j, J = some j → j < l.length ∧ now ≠ n.es
theorem way_eff {base : Int} {n : Nd} {l now : List (Int × Int)} {j : Nat} (h : Eff base n l now j) : WayJ base n l now (some j) := by
  obtain ⟨h1, h2⟩ := eff_way h
  exact ⟨h2, fun i hi => by cases hi; exact ⟨h1, h.ne⟩⟩
theorem way_same {base : Int} {n m : Nd} {l now : List (Int × Int)} (h : Steps base (Has n.es) n l m) (hi : m.inv = -1) : WayJ base n l now none :=
  ⟨same_way h hi, fun i hi => by cases hi⟩
/-- Of which change which store is the effect. -/
def effOf (d : Int) (len : Nat) (J : Option Nat) : Prop := (d = 0 ∧ 2 ≤ len ∧ J = some (len - 2)) ∨ ((d = 1 ∨ d = 3 ∨ d = 4) ∧ J = some 1) ∨ ((d = 2 ∨ d = 5) ∧ J = none)
theorem ask_way {base : Int} {n : Nd} {d key ptr : Int} {l : List (Int × Int)} (h0 : 0 ≤ d) (h6 : d < 6) (h : askP base n d key ptr = (l, 0)) :
    ∃ J, WayJ base n l (bhL d key ptr (decide (d = 0)) n.es) J ∧ effOf d l.length J ∧ (J = none → bhL d key ptr (decide (d = 0)) n.es = n.es) := by
  obtain rfl | rfl | rfl | rfl | rfl | rfl : d = 0 ∨ d = 1 ∨ d = 2 ∨ d = 3 ∨ d = 4 ∨ d = 5 := by omega
  · obtain ⟨A, B, hes, hA, hB, hl, hE⟩ := eff_ins (show insP base n key ptr = (l, 0) from h)
    refine ⟨some (l.length - 2), ?_, .inl ⟨rfl, hl, rfl⟩, fun h => by cases h⟩
    rw [show decide ((0 : Int) = 0) = true from rfl]
    have : bhL 0 key ptr true n.es = A ++ (key, ptr) :: B := by rw [hes]; exact bhL_ins A B hA hB
    rw [this]
    exact way_eff hE
  · have h' : delP base n key = (l, 0) := h
    have hm : n.may 0 false = true := by
      unfold delP at h'
      split at h'
      · rename_i hE
        exact absurd (congrArg Prod.snd h') hE
      · rename_i hE
        exact (refE_zero (show refE base n [] = 0 by omega)).1
    obtain ⟨A, B, e, hes, hek, hE⟩ := eff_del h'
    refine ⟨some 1, ?_, .inr (.inl ⟨.inl rfl, rfl⟩), fun h => by cases h⟩
    obtain ⟨hA, hB⟩ := es_about hm hes
    rw [show decide ((1 : Int) = 0) = false from rfl]
    have : bhL 1 key ptr false n.es = A ++ B := by
      rw [hes, bhL_app (by omega), bhL_keep A (fun x hx => ⟨by have := hA x hx; omega, by omega, by omega⟩)]
      unfold bhL
      rw [if_neg (by simp), if_pos ⟨rfl, hek⟩, Bool.false_and, bhL_keep B (fun x hx => ⟨by have := hB x hx; omega, by omega, by omega⟩)]
      rfl
    rw [this]
    exact way_eff hE
  · obtain ⟨m, hs, hi⟩ := eff_rep (show repP base n = (l, 0) from h)
    refine ⟨none, way_same hs hi, .inr (.inr ⟨.inl rfl, rfl⟩), fun _ => ?_⟩
    exact bhL_same (fun e => ⟨by omega, by omega, by omega⟩) n.es
  · have h' : swapP base n key ptr = (l, 0) := h
    have hm : n.may 0 false = true := by
      unfold swapP at h'
      split at h'
      · rename_i hE
        exact absurd (congrArg Prod.snd h') hE
      · rename_i hE
        exact (refE_zero (refE_ptr (show refE base n [ptr] = 0 by omega)).1).1
    obtain ⟨A, B, o, hes, hE⟩ := eff_swap h'
    refine ⟨some 1, ?_, .inr (.inl ⟨.inr (.inl rfl), rfl⟩), fun h => by cases h⟩
    obtain ⟨hA, hB⟩ := es_about hm hes
    rw [show decide ((3 : Int) = 0) = false from rfl]
    have : bhL 3 key ptr false n.es = A ++ (key, ptr) :: B := by
      rw [hes, bhL_app (by omega), bhL_keep A (fun x hx => ⟨by omega, by have := hA x hx; dsimp only at this; omega, by omega⟩)]
      unfold bhL
      rw [if_neg (by simp), if_neg (by omega), if_pos ⟨rfl, rfl⟩, Bool.false_and, bhL_keep B (fun x hx => ⟨by omega, by have := hB x hx; dsimp only at this; omega, by omega⟩)]
      rfl
    rw [this]
    exact way_eff hE
  · have h' : cutP base n key = (l, 0) := h
    have hmi : n.may 0 false = true ∧ n.inv = -1 := by
      unfold cutP at h'
      split at h'
      · rename_i hE
        exact absurd (congrArg Prod.snd h') hE
      · rename_i hE
        exact refE_zero (show refE base n [] = 0 by omega)
    obtain ⟨A, B, e, hes, hA, hE⟩ := eff_cut h'
    refine ⟨some 1, ?_, .inr (.inl ⟨.inr (.inr rfl), rfl⟩), fun h => by cases h⟩
    rw [show decide ((4 : Int) = 0) = false from rfl]
    obtain ⟨k, hk, h1, h2⟩ := first_ge n key n.len
    have hAk : A = (List.range k).map n.ent := by rw [hA]; exact cut_act hmi.1 hmi.2 hk h1 h2
    obtain ⟨c, hc⟩ : ∃ c, n.len = k + c := ⟨n.len - k, by omega⟩
    have hes2 : n.es = (List.range k).map n.ent ++ ((List.range c).map (fun x => k + x)).map n.ent := by
      rw [es_range hmi.2, hc, List.range_add, List.map_append]
    have : bhL 4 key ptr false n.es = A := by
      have hkp : bhL 4 key ptr false A = A := bhL_keep A (fun x hx => ⟨by omega, by omega, by
        rw [hAk] at hx
        obtain ⟨i, hi, rfl⟩ := List.mem_map.1 hx
        have : n.key i < key := h1 i (List.mem_range.1 hi)
        show ¬ ((4 : Int) = 4 ∧ key ≤ n.key i)
        omega⟩)
      have hct : bhL 4 key ptr false (((List.range c).map (fun x => k + x)).map n.ent) = [] := bhL_cut _ (fun x hx => by
        obtain ⟨y, hy, rfl⟩ := List.mem_map.1 hx
        obtain ⟨i, hi, rfl⟩ := List.mem_map.1 hy
        have hi := List.mem_range.1 hi
        have a1 := h2 (by omega)
        have a2 := key_mono hmi.1 hmi.2 (show k ≤ k + i by omega) (by omega)
        show key ≤ n.key (k + i)
        omega)
      rw [hes2, ← hAk, bhL_app (by omega), hkp, hct, List.append_nil]
    rw [this]
    exact way_eff hE
  · obtain ⟨hi, m, hs, hi2⟩ := eff_link (show linkP base n ptr = (l, 0) from h)
    refine ⟨none, way_same hs hi2, .inr (.inr ⟨.inr rfl, rfl⟩), fun _ => ?_⟩
    exact bhL_same (fun e => ⟨by omega, by omega, by omega⟩) n.es
theorem esAt_step {es now : List (Int × Int)} {J : Option Nat} {len : Nat} (hJ : ∀ j, J = some j → j < len ∧ now ≠ es) (i : Nat) : decide (esAt es now J (i + 1) = esAt es now J i) = decide (J ≠ some i) := by
  cases J with
  | none => simp [esAt]
  | some j =>
    have hne := (hJ j rfl).2
    unfold esAt
    by_cases h1 : i + 1 ≤ j
    · simp only [if_pos h1, if_pos (show i ≤ j by omega)]
      simp
      omega
    · by_cases h2 : i ≤ j
      · have : i = j := by omega
        subst this
        simp only [if_neg h1, if_pos h2]
        simp [hne]
      · simp only [if_neg h1, if_neg h2]
        simp
        omega
theorem atJ_step (J : Option Nat) (i : Nat) : atJ J (i + 1) = if J = some i then (i : Int) else atJ J i := by
  cases J with
  | none => simp [atJ]
  | some j =>
    unfold atJ
    by_cases h : j = i
    · subst h
      simp
    · have : (some j = some i) = False := by simp [h]
      rw [if_neg (by simpa using h)]
      dsimp only
      by_cases h1 : i + 1 ≤ j
      · rw [if_pos h1, if_pos (by omega)]
      · rw [if_neg h1, if_neg (by omega)]
theorem atJ_eff (J : Option Nat) (i : Nat) (h : J = some i) : atJ J i = -1 := by
  subst h
  simp [atJ]
end Go.Proofs.Yteojhhfcfdkmdaa
/- Where a change is asked for, the base may be, and there are stores; plain facts. -/
namespace Go.Proofs.Yteojhhfcfdkmdaa
open Go.RowKit
set_option linter.unusedVariables false
set_option linter.unusedSimpArgs false
theorem puts_cells {w : World} {B : Nat} {v : Value} {l : List (Int × Int)} (h : w.ownsRow B 64 2 v l.length (flatE l)) (h0 : 0 < l.length) : ∃ g cap, v = .slice (some ⟨g, 0, none⟩) l.length cap ∧ B ≤ g ∧ g < w.heap.size ∧ (∀ j u, (flatE l)[j]? = some u → w.cell? ⟨g, j, none⟩ = some u) := by
  rcases h.2 with ⟨rfl, h1⟩ | ⟨g, cap, cur, rfl, hb, hh, h2, h3, h4, h5⟩
  · omega
  · refine ⟨g, cap, rfl, hb, (Array.getElem?_eq_some_iff.1 hh).1, fun j u hu => ?_⟩
    have := h.cells rfl j u hu
    rw [Addr.add_lit, Nat.zero_add] at this
    exact this
theorem refE_bok {b : Int} {n : Nd} {l : List Int} (h : refE b n l = 0) : bOk b = true := by
  unfold refE at h
  split at h
  · rename_i hc
    simp only [Bool.and_eq_true] at hc
    exact hc.1.1
  · omega
theorem ask_bok {base : Int} {n : Nd} {d key ptr : Int} {l : List (Int × Int)} (h0 : 0 ≤ d) (h6 : d < 6) (h : askP base n d key ptr = (l, 0)) : bOk base = true ∧ 0 < l.length := by
  obtain rfl | rfl | rfl | rfl | rfl | rfl : d = 0 ∨ d = 1 ∨ d = 2 ∨ d = 3 ∨ d = 4 ∨ d = 5 := by omega
  · have h' : insP base n key ptr = (l, 0) := h
    refine ⟨?_, ?_⟩
    · unfold insP at h'
      split at h'
      · rename_i hE
        exact absurd (congrArg Prod.snd h') hE
      · rename_i hE
        exact refE_bok (show refE base n [ptr] = 0 by omega)
    · obtain ⟨A, B, _, _, _, hl, _⟩ := eff_ins h'
      omega
  · have h' : delP base n key = (l, 0) := h
    refine ⟨?_, ?_⟩
    · unfold delP at h'
      split at h'
      · rename_i hE
        exact absurd (congrArg Prod.snd h') hE
      · rename_i hE
        exact refE_bok (show refE base n [] = 0 by omega)
    · obtain ⟨A, B, e, _, _, hE⟩ := eff_del h'
      have := (eff_way hE).1
      omega
  · have h' : repP base n = (l, 0) := h
    unfold repP at h'
    split at h'
    · rename_i hb
      split at h'
      · cases h'
      · have h1 := congrArg Prod.fst h'
        dsimp only at h1
        rw [← h1, wholeL_len]
        simp only [Bool.and_eq_true] at hb
        exact ⟨hb.1, by omega⟩
    · cases h'
  · have h' : swapP base n key ptr = (l, 0) := h
    refine ⟨?_, ?_⟩
    · unfold swapP at h'
      split at h'
      · rename_i hE
        exact absurd (congrArg Prod.snd h') hE
      · rename_i hE
        exact refE_bok (show refE base n [ptr] = 0 by omega)
    · obtain ⟨A, B, o, _, hE⟩ := eff_swap h'
      have := (eff_way hE).1
      omega
  · have h' : cutP base n key = (l, 0) := h
    refine ⟨?_, ?_⟩
    · unfold cutP at h'
      split at h'
      · rename_i hE
        exact absurd (congrArg Prod.snd h') hE
      · rename_i hE
        exact refE_bok (show refE base n [] = 0 by omega)
    · obtain ⟨A, B, e, _, _, hE⟩ := eff_cut h'
      have := (eff_way hE).1
      omega
  · have h' : linkP base n ptr = (l, 0) := h
    unfold linkP at h'
    split at h'
    · rename_i hE
      exact absurd (congrArg Prod.snd h') hE
    · rename_i hE
      have h1 := congrArg Prod.fst h'
      dsimp only at h1
      rw [← h1, wholeL_len]
      exact ⟨refE_bok (show refE base n [] = 0 by omega), by omega⟩
end Go.Proofs.Yteojhhfcfdkmdaa
/- A change's stores: each word is written at most twice, and what it is written the second time it was not at the start; plain facts; no conditions. -/
namespace Go.Proofs.Yteojhhfcfdkmdaa
open Go.RowKit
set_option linter.unusedVariables false
set_option linter.unusedSimpArgs false
/-- A node's words. -/
def wo9 (n : Nd) : List Int := [5495893775785918464 + n.l, n.lo, n.nx, n.ct, n.fi, 0, 0, 0, n.k0, n.p0, n.k1, n.p1, n.k2, n.p2, n.k3, n.p3, n.k4, n.p4, n.k5, n.p5, n.k6, n.p6, n.k7, n.p7]
theorem wo9_len (n : Nd) : (wo9 n).length = 24 := rfl
def ix (base A : Int) : Nat := ((A - base) / 8).toNat
theorem wo9_setK (n : Nd) {i : Nat} (hi : i < 8) (x : Int) : wo9 (n.setK i x) = (wo9 n).set (8 + 2 * i) x := by
  obtain rfl | rfl | rfl | rfl | rfl | rfl | rfl | rfl := lt8 hi <;> rfl
theorem wo9_setP (n : Nd) {i : Nat} (hi : i < 8) (x : Int) : wo9 (n.setP i x) = (wo9 n).set (9 + 2 * i) x := by
  obtain rfl | rfl | rfl | rfl | rfl | rfl | rfl | rfl := lt8 hi <;> rfl
theorem wo9_ptr (n : Nd) {i : Nat} (hi : i < 8) : (wo9 n).getD (9 + 2 * i) 0 = n.ptr i := by
  obtain rfl | rfl | rfl | rfl | rfl | rfl | rfl | rfl := lt8 hi <;> rfl
/-- A store is a word that is set. -/
theorem ap_wo9 {base : Int} {n m : Nd} {s : Int × Int} (h : ap base n s = some m) : ∃ j : Nat, 0 < j ∧ j < 24 ∧ s.1 = base + 8 * (j : Int) ∧ wo9 m = (wo9 n).set j s.2 := by
  unfold ap at h
  by_cases h1 : s.1 = base + 8
  · rw [if_pos h1] at h; cases h; exact ⟨1, by omega, by omega, by omega, rfl⟩
  · rw [if_neg h1] at h
    by_cases h2 : s.1 = base + 16
    · rw [if_pos h2] at h; cases h; exact ⟨2, by omega, by omega, by omega, rfl⟩
    · rw [if_neg h2] at h
      by_cases h3 : s.1 = base + 24
      · rw [if_pos h3] at h; cases h; exact ⟨3, by omega, by omega, by omega, rfl⟩
      · rw [if_neg h3] at h
        by_cases h4 : s.1 = base + 32
        · rw [if_pos h4] at h; cases h; exact ⟨4, by omega, by omega, by omega, rfl⟩
        · rw [if_neg h4] at h
          by_cases h5 : 64 ≤ s.1 - base ∧ s.1 - base < 192 ∧ (s.1 - base) % 8 = 0
          · rw [if_pos h5] at h
            obtain ⟨g1, g2, g3⟩ := h5
            by_cases h6 : (s.1 - base) % 16 = 0
            · rw [if_pos h6] at h
              cases h
              refine ⟨8 + 2 * ((s.1 - base - 64) / 16).toNat, by omega, by omega, by omega, wo9_setK n (i := ((s.1 - base - 64) / 16).toNat) (by omega) _⟩
            · rw [if_neg h6] at h
              cases h
              refine ⟨9 + 2 * ((s.1 - base - 64) / 16).toNat, by omega, by omega, by omega, wo9_setP n (i := ((s.1 - base - 64) / 16).toNat) (by omega) _⟩
          · rw [if_neg h5] at h; cases h
/-- The words behind some stores. -/
def wsAt (base : Int) : List Int → List (Int × Int) → List Int
  | W, [] => W
  | W, s :: l => wsAt base (W.set (ix base s.1) s.2) l
theorem apL_wo9 {base : Int} : ∀ {l : List (Int × Int)} {n m : Nd}, apL base n l = some m → wo9 m = wsAt base (wo9 n) l ∧ ∀ e ∈ l, ∃ j : Nat, 0 < j ∧ j < 24 ∧ e.1 = base + 8 * (j : Int)
  | [], n, m, h => by cases h; exact ⟨rfl, fun e he => by cases he⟩
  | s :: l, n, m, h => by
    unfold apL at h
    cases hs : ap base n s with
    | none => rw [hs] at h; cases h
    | some k =>
      rw [hs] at h
      obtain ⟨j, j0, j1, j2, j3⟩ := ap_wo9 hs
      obtain ⟨g1, g2⟩ := apL_wo9 h
      refine ⟨?_, fun e he => ?_⟩
      · show wo9 m = wsAt base ((wo9 n).set (ix base s.1) s.2) l
        rw [g1, j3, show ix base s.1 = j by unfold ix; omega]
      · rcases List.mem_cons.1 he with rfl | he
        · exact ⟨j, j0, j1, j2⟩
        · exact g2 e he
theorem wsAt_len (base : Int) : ∀ (l : List (Int × Int)) (W : List Int), (wsAt base W l).length = W.length
  | [], W => rfl
  | s :: l, W => by
    show (wsAt base (W.set (ix base s.1) s.2) l).length = W.length
    rw [wsAt_len base l, List.length_set]
theorem wsAt_app (base : Int) : ∀ (l m : List (Int × Int)) (W : List Int), wsAt base W (l ++ m) = wsAt base (wsAt base W l) m
  | [], m, W => rfl
  | s :: l, m, W => by
    show wsAt base (W.set (ix base s.1) s.2) (l ++ m) = wsAt base (wsAt base (W.set (ix base s.1) s.2) l) m
    exact wsAt_app base l m _
theorem wsAt_none (base : Int) {j : Nat} : ∀ (l : List (Int × Int)) (W : List Int), (∀ e ∈ l, ix base e.1 ≠ j) → (wsAt base W l).getD j 0 = W.getD j 0
  | [], W, _ => rfl
  | s :: l, W, h => by
    show (wsAt base (W.set (ix base s.1) s.2) l).getD j 0 = W.getD j 0
    rw [wsAt_none base l _ (fun e he => h e (List.mem_cons_of_mem _ he))]
    have := h s (by simp)
    simp only [List.getD_eq_getElem?_getD, List.getElem?_set_ne this]
/-- Each place is written at most twice, and the second time not with what it was at the start. -/
def OnceP (base : Int) (W : List Int) (l : List (Int × Int)) : Prop :=
  ∀ i (h : i < l.length) k (hk : k < i), ix base (l[k]'(by omega)).1 = ix base l[i].1 → l[i].2 ≠ W.getD (ix base l[i].1) 0 ∧ ∀ k' (hk' : k' < i), ix base (l[k']'(by omega)).1 = ix base l[i].1 → k' = k
/-- What a store makes of its word, the word has not been before. -/
theorem once_new {base : Int} {W : List Int} {l : List (Int × Int)} (hO : OnceP base W l) (hx : ∀ e ∈ l, ix base e.1 < W.length) {i : Nat} (hi : i < l.length) {j : Nat} (hj : (wsAt base W (l.take (i + 1))).getD j 0 ≠ (wsAt base W (l.take i)).getD j 0) :
    ∀ k, k ≤ i → (wsAt base W (l.take k)).getD j 0 ≠ (wsAt base W (l.take (i + 1))).getD j 0 := by
  have hs : wsAt base W (l.take (i + 1)) = (wsAt base W (l.take i)).set (ix base l[i].1) l[i].2 := by
    rw [List.take_succ_eq_append_getElem hi, wsAt_app]; rfl
  have hlen := wsAt_len base (l.take i) W
  have hxi := hx l[i] (List.getElem_mem hi)
  have hji : ix base l[i].1 = j := by
    by_cases he : ix base l[i].1 = j
    · exact he
    · exfalso
      apply hj
      rw [hs]
      simp only [List.getD_eq_getElem?_getD, List.getElem?_set_ne he]
  have hv : (wsAt base W (l.take (i + 1))).getD j 0 = l[i].2 := by
    rw [hs, hji]
    rw [hji] at hxi
    simp only [List.getD_eq_getElem?_getD, List.getElem?_set_self (show j < (wsAt base W (l.take i)).length by omega), Option.getD_some]
  rw [hv] at hj ⊢
  by_cases hex : ∃ k0, ∃ (h0 : k0 < i), ix base (l[k0]'(by omega)).1 = j
  · obtain ⟨k0, h0, hk0⟩ := hex
    obtain ⟨hne, huni⟩ := hO i hi k0 h0 (by rw [hk0, hji])
    rw [hji] at hne huni
    intro k hk
    by_cases hkk : k ≤ k0
    · rw [wsAt_none base (l.take k) W (fun e he => ?_)]
      · exact fun h => hne h.symm
      · obtain ⟨q, hq, rfl⟩ := List.mem_take_iff_getElem.1 he
        intro hq2
        have := huni q (by omega) hq2
        omega
    · have hsame : ∀ c, k0 + 1 + c ≤ i → (wsAt base W (l.take (k0 + 1 + c))).getD j 0 = (wsAt base W (l.take (k0 + 1))).getD j 0 := by
        intro c hc
        rw [List.take_add, wsAt_app, wsAt_none]
        intro e he
        obtain ⟨q, hq, rfl⟩ := List.mem_take_iff_getElem.1 he
        intro hq2
        simp only [List.length_drop] at hq
        rw [List.getElem_drop] at hq2
        have := huni (k0 + 1 + q) (by omega) hq2
        omega
      have h1 := hsame (k - (k0 + 1)) (by omega)
      have h2 := hsame (i - (k0 + 1)) (by omega)
      rw [show k0 + 1 + (k - (k0 + 1)) = k by omega] at h1
      rw [show k0 + 1 + (i - (k0 + 1)) = i by omega] at h2
      rw [h1, ← h2]
      exact fun h => hj h.symm
  · intro k hk
    have hno : ∀ t, t ≤ i → (wsAt base W (l.take t)).getD j 0 = W.getD j 0 := by
      intro t ht
      apply wsAt_none
      intro e he
      obtain ⟨q, hq, rfl⟩ := List.mem_take_iff_getElem.1 he
      intro hq2
      exact hex ⟨q, by omega, hq2⟩
    rw [hno k hk, ← hno i (Nat.le_refl _)]
    exact fun h => hj h.symm
end Go.Proofs.Yteojhhfcfdkmdaa
/- Every change that is asked for: each word at most twice, and never back; the count is one more on the way, two more at the end; plain facts; no conditions. -/
namespace Go.Proofs.Yteojhhfcfdkmdaa
open Go.RowKit
set_option linter.unusedVariables false
set_option linter.unusedSimpArgs false
/-- The places that some stores write. -/
def ixs (base : Int) (l : List (Int × Int)) : List Nat := l.map fun e => ix base e.1
theorem ixs_inj {base : Int} {l : List (Int × Int)} (h : (ixs base l).Nodup) {i k : Nat} (hi : i < l.length) (hk : k < l.length) (he : ix base l[i].1 = ix base l[k].1) : i = k := by
  have hp := List.pairwise_iff_getElem.1 h
  have hlen : (ixs base l).length = l.length := by unfold ixs; simp
  have hg : ∀ q (hq : q < l.length), (ixs base l)[q]'(by omega) = ix base l[q].1 := fun q hq => by simp [ixs]
  rcases Nat.lt_trichotomy i k with h1 | h1 | h1
  · exact absurd (by rw [hg i hi, hg k hk]; exact he) (hp i k (by omega) (by omega) h1)
  · exact h1
  · exact absurd (by rw [hg i hi, hg k hk]; exact he.symm) (hp k i (by omega) (by omega) h1)
theorem once_nodup {base : Int} {W : List Int} {l : List (Int × Int)} (h : (ixs base l).Nodup) : OnceP base W l := by
  intro i hi k hk he
  have := ixs_inj h (show k < l.length by omega) hi he
  omega
theorem once_snoc {base : Int} {W : List Int} {t : List (Int × Int)} {s : Int × Int} (h : (ixs base t).Nodup) (hy : s.2 ≠ W.getD (ix base s.1) 0) : OnceP base W (t ++ [s]) := by
  intro i hi k hk he
  simp only [List.length_append, List.length_singleton] at hi
  by_cases h1 : i < t.length
  · rw [List.getElem_append_left (show k < t.length by omega), List.getElem_append_left h1] at he
    have := ixs_inj h (show k < t.length by omega) h1 he
    omega
  · obtain rfl : i = t.length := by omega
    rw [List.getElem_append_left (show k < t.length by omega), List.getElem_concat_length rfl] at he
    rw [List.getElem_concat_length rfl]
    refine ⟨hy, fun k' hk' he' => ?_⟩
    rw [List.getElem_append_left (show k' < t.length by omega)] at he'
    exact ixs_inj h _ _ (he'.trans he.symm)
theorem once_cons {base : Int} {W : List Int} {t : List (Int × Int)} {s : Int × Int} (h : (ixs base t).Nodup) (hy : ∀ e ∈ t, ix base e.1 = ix base s.1 → e.2 ≠ W.getD (ix base s.1) 0) : OnceP base W (s :: t) := by
  intro i hi k hk he
  obtain ⟨i, rfl⟩ : ∃ i', i = i' + 1 := ⟨i - 1, by omega⟩
  have hi' : i < t.length := by simpa using hi
  cases k with
  | zero =>
    simp only [List.getElem_cons_zero, List.getElem_cons_succ] at he ⊢
    refine ⟨by rw [← he]; exact hy _ (List.getElem_mem hi') he.symm, fun k' hk' he' => ?_⟩
    cases k' with
    | zero => rfl
    | succ q =>
      simp only [List.getElem_cons_succ] at he'
      have := ixs_inj h (show q < t.length by omega) hi' he'
      omega
  | succ q =>
    simp only [List.getElem_cons_succ] at he
    have := ixs_inj h (show q < t.length by omega) hi' he
    omega
theorem wrap_two (c : Int) : IntKind.u64.wrap (c + 2) ≠ c := by
  rw [IntKind.wrap_u64]; omega
theorem wholeL_eq (base : Int) (n : Nd) (mid : List (Int × Int)) : wholeL base n mid = (base + 24, IntKind.u64.wrap (n.ct + 1)) :: (mid ++ [(base + 24, IntKind.u64.wrap (n.ct + 2))]) := by simp [wholeL]
theorem once_ends {base : Int} {W : List Int} {mid : List (Int × Int)} {a b : Int × Int} (ha : ix base a.1 = 3) (hb : ix base b.1 = 3) (h : OnceP base W mid) (h3 : ∀ e ∈ mid, ix base e.1 ≠ 3) (hw : b.2 ≠ W.getD 3 0) : OnceP base W (a :: (mid ++ [b])) := by
  intro i hi k hk he
  simp only [List.length_cons, List.length_append, List.length_nil] at hi
  obtain ⟨i, rfl⟩ : ∃ i', i = i' + 1 := ⟨i - 1, by omega⟩
  have gm : ∀ q (hq : q < mid.length), (a :: (mid ++ [b]))[q + 1]'(by simp; omega) = mid[q] := by
    intro q hq
    rw [List.getElem_cons_succ, List.getElem_append_left hq]
  have ge : (a :: (mid ++ [b]))[mid.length + 1]'(by simp) = b := by
    rw [List.getElem_cons_succ, List.getElem_concat_length rfl]
  have g0 : (a :: (mid ++ [b]))[0]'(by simp) = a := rfl
  by_cases h1 : i < mid.length
  · simp only [gm i h1] at he ⊢
    cases k with
    | zero =>
      rw [g0, ha] at he
      exact absurd he.symm (h3 _ (List.getElem_mem h1))
    | succ q =>
      rw [gm q (by omega)] at he
      obtain ⟨a1, a2⟩ := h i h1 q (by omega) he
      refine ⟨a1, fun k' hk' he' => ?_⟩
      cases k' with
      | zero =>
        rw [g0, ha] at he'
        exact absurd he'.symm (h3 _ (List.getElem_mem h1))
      | succ q' =>
        rw [gm q' (by omega)] at he'
        rw [a2 q' (by omega) he']
  · obtain rfl : i = mid.length := by omega
    simp only [ge, hb] at he ⊢
    cases k with
    | zero =>
      refine ⟨hw, fun k' hk' he' => ?_⟩
      cases k' with
      | zero => rfl
      | succ q' =>
        rw [gm q' (by omega)] at he'
        exact absurd he' (h3 _ (List.getElem_mem _))
    | succ q =>
      rw [gm q (by omega)] at he
      exact absurd he (h3 _ (List.getElem_mem _))
theorem once_whole {base : Int} {n : Nd} {mid : List (Int × Int)} (h : OnceP base (wo9 n) mid) (h3 : ∀ e ∈ mid, ix base e.1 ≠ 3) : OnceP base (wo9 n) (wholeL base n mid) := by
  rw [wholeL_eq]
  exact once_ends (by unfold ix; dsimp only; omega) (by unfold ix; dsimp only; omega) h h3 (wrap_two n.ct)
/-- The count behind i stores. -/
theorem whole_ct {base : Int} {n m : Nd} {mid : List (Int × Int)} (h3 : ∀ e ∈ mid, ix base e.1 ≠ 3) {i : Nat} (hi : i < (wholeL base n mid).length) (h : apL base n ((wholeL base n mid).take (i + 1)) = some m) :
    m.ct = if i + 1 < (wholeL base n mid).length then IntKind.u64.wrap (n.ct + 1) else IntKind.u64.wrap (n.ct + 2) := by
  have hx : ix base (base + 24) = 3 := by unfold ix; omega
  have hm : m.ct = (wsAt base (wo9 n) ((wholeL base n mid).take (i + 1))).getD 3 0 := by
    rw [← (apL_wo9 h).1]; rfl
  have hW : ∀ x, ((wo9 n).set 3 x).getD 3 0 = x := fun x => rfl
  rw [hm]
  rw [wholeL_eq] at hi ⊢
  have hl : ((base + 24, IntKind.u64.wrap (n.ct + 1)) :: (mid ++ [(base + 24, IntKind.u64.wrap (n.ct + 2))])).length = mid.length + 2 := by simp
  rw [hl] at hi ⊢
  generalize IntKind.u64.wrap (n.ct + 1) = c1
  generalize IntKind.u64.wrap (n.ct + 2) = c2
  by_cases h1 : i + 1 < mid.length + 2
  · rw [if_pos h1, List.take_succ_cons, List.take_append_of_le_length (by omega)]
    show (wsAt base ((wo9 n).set (ix base (base + 24)) c1) (mid.take i)).getD 3 0 = _
    rw [wsAt_none base _ _ (fun e he => h3 e (List.mem_of_mem_take he)), hx, hW]
  · rw [if_neg h1, List.take_of_length_le (by simp; omega)]
    rw [show (base + 24, c1) :: (mid ++ [(base + 24, c2)]) = ((base + 24, c1) :: mid) ++ [(base + 24, c2)] by simp]
    rw [wsAt_app]
    have hlen := wsAt_len base ((base + 24, c1) :: mid) (wo9 n)
    rw [wo9_len] at hlen
    show ((wsAt base (wo9 n) ((base + 24, c1) :: mid)).set (ix base (base + 24)) c2).getD 3 0 = _
    rw [hx]
    generalize wsAt base (wo9 n) ((base + 24, c1) :: mid) = V at hlen
    simp only [List.getD_eq_getElem?_getD, List.getElem?_set_self (show 3 < V.length by omega), Option.getD_some]
theorem ix_k (base : Int) (i : Nat) : ix base (kA base i) = 8 + 2 * i := by unfold ix kA; omega
theorem ix_p (base : Int) (i : Nat) : ix base (pA base i) = 9 + 2 * i := by unfold ix pA; omega
theorem dn_ge (base : Int) (n : Nd) : ∀ c i, ∀ e ∈ dnL base n i c, 8 + 2 * i ≤ ix base e.1 ∧ (c = 0 → ix base e.1 = 9 + 2 * i)
  | 0, i, e, he => by
    simp only [dnL, List.mem_singleton] at he
    subst he
    dsimp only
    rw [ix_p]; omega
  | c + 1, i, e, he => by
    simp only [dnL, List.mem_cons] at he
    rcases he with rfl | rfl | he
    · dsimp only; rw [ix_k]; omega
    · dsimp only; rw [ix_p]; omega
    · have := (dn_ge base n c (i + 1) e he).1
      omega
theorem dn_nodup (base : Int) (n : Nd) : ∀ c i, (ixs base (dnL base n i c)).Nodup
  | 0, i => by simp [ixs, dnL]
  | c + 1, i => by
    have ih := dn_nodup base n c (i + 1)
    have hg := fun e he => (dn_ge base n c (i + 1) e he).1
    unfold ixs at ih ⊢
    simp only [dnL, List.map_cons, List.nodup_cons, List.mem_cons, List.mem_map, not_or, not_exists, not_and, ix_k, ix_p]
    refine ⟨⟨by omega, fun e he h => ?_⟩, fun e he h => ?_, ih⟩
    · have := hg e he; omega
    · have := hg e he; omega
theorem dn_first (base : Int) (n : Nd) : ∀ c i, ∀ e ∈ dnL base n i c, ix base e.1 = 9 + 2 * i → e.2 = if c = 0 then 0 else n.ptr (i + 1)
  | 0, i, e, he, _ => by
    simp only [dnL, List.mem_singleton] at he
    subst he; rfl
  | c + 1, i, e, he, h => by
    simp only [dnL, List.mem_cons] at he
    rcases he with rfl | rfl | he
    · dsimp only at h; rw [ix_k] at h; omega
    · rfl
    · have := (dn_ge base n c (i + 1) e he).1
      omega
theorem up_rng (base : Int) (n : Nd) (p : Nat) : ∀ c, ∀ e ∈ upN base n p c, 10 + 2 * p ≤ ix base e.1 ∧ ix base e.1 ≤ 9 + 2 * (p + c)
  | 0, e, he => by cases he
  | c + 1, e, he => by
    simp only [upN, List.mem_cons] at he
    rcases he with rfl | rfl | he
    · dsimp only; rw [ix_p]; omega
    · dsimp only; rw [ix_k]; omega
    · have := up_rng base n p c e he
      omega
theorem up_nodup (base : Int) (n : Nd) (p : Nat) : ∀ c, (ixs base (upN base n p c)).Nodup
  | 0 => by simp [ixs, upN]
  | c + 1 => by
    have ih := up_nodup base n p c
    have hg := up_rng base n p c
    unfold ixs at ih ⊢
    simp only [upN, List.map_cons, List.nodup_cons, List.mem_cons, List.mem_map, not_or, not_exists, not_and, ix_k, ix_p]
    refine ⟨⟨by omega, fun e he h => ?_⟩, fun e he h => ?_, ih⟩
    · have := hg e he; omega
    · have := hg e he; omega
theorem once_dn {base : Int} {n : Nd} {p c : Nat} {x : Int} (hp : p < 8) (h0 : n.ptr p ≠ 0) (h1 : c ≠ 0 → n.ptr (p + 1) ≠ n.ptr p) : OnceP base (wo9 n) ((pA base p, x) :: dnL base n p c) := by
  refine once_cons (dn_nodup base n c p) (fun e he h => ?_)
  dsimp only at h ⊢
  rw [ix_p] at h ⊢
  rw [wo9_ptr n hp, dn_first base n c p e he h]
  split
  · exact fun h => h0 h.symm
  · rename_i hc; exact h1 hc
theorem once_up {base : Int} {n : Nd} {p : Nat} {key ptr : Int} (hp : p ≤ n.len) (h8 : n.len < 8) (h0 : n.ptr p ≠ ptr) : OnceP base (wo9 n) (mkRoom base n p ++ [(kA base p, key), (pA base p, ptr)]) := by
  rw [show mkRoom base n p ++ [(kA base p, key), (pA base p, ptr)] = (mkRoom base n p ++ [(kA base p, key)]) ++ [(pA base p, ptr)] by simp]
  refine once_snoc ?_ (by dsimp only; rw [ix_p, wo9_ptr n (by omega)]; exact fun h => h0 h.symm)
  have hu := up_nodup base n p (n.len - p)
  have hr := up_rng base n p (n.len - p)
  have hA : (ixs base (upN base n p (n.len - p) ++ [(pA base p, n.ahd p), (kA base p, key)])).Nodup := by
    unfold ixs at hu ⊢
    simp only [List.map_append, List.map_cons, List.map_nil, ix_p, ix_k]
    rw [List.nodup_append]
    refine ⟨hu, by simp, fun a ha b hb => ?_⟩
    obtain ⟨e, he, rfl⟩ := List.mem_map.1 ha
    have := hr e he
    simp only [List.mem_cons, List.not_mem_nil, or_false] at hb
    omega
  unfold mkRoom
  split
  · rw [show [(pA base (n.len + 1), (0 : Int))] ++ (upN base n p (n.len - p) ++ [(pA base p, n.ahd p)]) ++ [(kA base p, key)] = (pA base (n.len + 1), 0) :: (upN base n p (n.len - p) ++ [(pA base p, n.ahd p), (kA base p, key)]) by simp]
    unfold ixs at hA ⊢
    rw [List.map_cons, List.nodup_cons]
    refine ⟨fun hm => ?_, hA⟩
    obtain ⟨e, he, h⟩ := List.mem_map.1 hm
    dsimp only at h
    rw [ix_p] at h
    simp only [List.mem_append, List.mem_cons, List.not_mem_nil, or_false] at he
    rcases he with he | rfl | rfl
    · have := hr e he; omega
    · dsimp only at h; rw [ix_p] at h; omega
    · dsimp only at h; rw [ix_k] at h; omega
  · rw [show [] ++ (upN base n p (n.len - p) ++ [(pA base p, n.ahd p)]) ++ [(kA base p, key)] = upN base n p (n.len - p) ++ [(pA base p, n.ahd p), (kA base p, key)] by simp]
    exact hA
theorem mid_no3 {base : Int} {l : List (Int × Int)} (h : ∀ e ∈ l, 8 ≤ ix base e.1) : ∀ e ∈ l, ix base e.1 ≠ 3 := fun e he => by have := h e he; omega
/-- Every change that is asked for. -/
theorem once_ask {base : Int} {n : Nd} {d key ptr : Int} {l : List (Int × Int)} (h0 : 0 ≤ d) (h6 : d < 6) (h : askP base n d key ptr = (l, 0)) :
    ∃ mid, l = wholeL base n mid ∧ OnceP base (wo9 n) mid ∧ ∀ e ∈ mid, ix base e.1 ≠ 3 := by
  have hl8 := n.len_le
  obtain rfl | rfl | rfl | rfl | rfl | rfl : d = 0 ∨ d = 1 ∨ d = 2 ∨ d = 3 ∨ d = 4 ∨ d = 5 := by omega
  · have h : insP base n key ptr = (l, 0) := h
    unfold insP at h
    split at h
    · rename_i hE
      exact absurd (congrArg Prod.snd h) hE
    · rename_i hE
      have hE : refE base n [ptr] = 0 := by omega
      obtain ⟨hE, hh⟩ := refE_ptr hE
      split at h
      · cases h
      · split at h
        · cases h
        · rename_i h8
          have hl := congrArg Prod.fst h
          dsimp only at hl
          have hp := at_len n key
          generalize hpp : n.at key = p at hp
          refine ⟨mkRoom base n p ++ [(kA base p, key), (pA base p, ptr)], by rw [← hl]; unfold insL; rw [hpp], once_up hp (by omega) ?_, mid_no3 ?_⟩
          · by_cases hlt : p < n.len
            · intro he
              rw [had_yes hlt he] at hh
              cases hh
            · rw [show p = n.len by omega, n.len_at (by omega)]
              intro he
              unfold Nd.had at hh
              rw [← he] at hh
              simp at hh
          · intro e he
            unfold mkRoom at he
            simp only [List.mem_append, List.mem_cons, List.not_mem_nil, or_false] at he
            rcases he with (he | he | rfl) | rfl | rfl
            · split at he
              · simp only [List.mem_singleton] at he
                subst he
                dsimp only; rw [ix_p]; omega
              · cases he
            · have := up_rng base n p _ e he; omega
            · dsimp only; rw [ix_p]; omega
            · dsimp only; rw [ix_k]; omega
            · dsimp only; rw [ix_p]; omega
  · have h : delP base n key = (l, 0) := h
    unfold delP at h
    split at h
    · rename_i hE
      exact absurd (congrArg Prod.snd h) hE
    · rename_i hE
      obtain ⟨hm, hi⟩ := refE_zero (show refE base n [] = 0 by omega)
      split at h
      · cases h
      · rename_i p hf
        have hl := congrArg Prod.fst h
        dsimp only at hl
        have hp := find_lt hf
        refine ⟨_, hl.symm, once_dn (by omega) (n.len_before hp) (fun hc => ?_), mid_no3 ?_⟩
        · have := n.inv_neg hi (p + 1) (by omega)
          unfold Nd.ok Nd.ahd at this
          simpa using this
        · intro e he
          rcases List.mem_cons.1 he with rfl | he
          · dsimp only; rw [ix_p]; omega
          · have := (dn_ge base n _ p e he).1; omega
  · have h : repP base n = (l, 0) := h
    unfold repP at h
    split at h
    · split at h
      · cases h
      · have hl := congrArg Prod.fst h
        dsimp only at hl
        refine ⟨_, hl.symm, once_nodup (dn_nodup base n _ _), mid_no3 ?_⟩
        intro e he
        have := (dn_ge base n _ _ e he).1; omega
    · cases h
  · have h : swapP base n key ptr = (l, 0) := h
    unfold swapP at h
    split at h
    · rename_i hE
      exact absurd (congrArg Prod.snd h) hE
    · split at h
      · cases h
      · have hl := congrArg Prod.fst h
        dsimp only at hl
        refine ⟨_, hl.symm, once_nodup (by simp [ixs]), mid_no3 ?_⟩
        intro e he
        simp only [List.mem_singleton] at he
        subst he
        dsimp only; rw [ix_p]; omega
  · have h : cutP base n key = (l, 0) := h
    unfold cutP at h
    split at h
    · rename_i hE
      exact absurd (congrArg Prod.snd h) hE
    · split at h
      · cases h
      · have hl := congrArg Prod.fst h
        dsimp only at hl
        refine ⟨_, hl.symm, once_nodup (by simp [ixs]), mid_no3 ?_⟩
        intro e he
        simp only [List.mem_singleton] at he
        subst he
        dsimp only; rw [ix_p]; omega
  · have h : linkP base n ptr = (l, 0) := h
    unfold linkP at h
    split at h
    · rename_i hE
      exact absurd (congrArg Prod.snd h) hE
    · have hl := congrArg Prod.fst h
      dsimp only at hl
      refine ⟨_, hl.symm, once_nodup (by simp [ixs]), fun e he => ?_⟩
      simp only [List.mem_singleton] at he
      subst he
      unfold ix; dsimp only; omega
/-- The node behind i stores: its words. -/
theorem once_law {base : Int} {n : Nd} {d key ptr : Int} {l : List (Int × Int)} (h0 : 0 ≤ d) (h6 : d < 6) (h : askP base n d key ptr = (l, 0)) {i : Nat} (hi : i < l.length) {m m2 : Nd} (hm : apL base n (l.take i) = some m) (hm2 : apL base n (l.take (i + 1)) = some m2) :
    m2.ct = (if i + 1 < l.length then IntKind.u64.wrap (n.ct + 1) else IntKind.u64.wrap (n.ct + 2)) ∧
    ∀ j, (wo9 m2).getD j 0 ≠ (wo9 m).getD j 0 → ∀ k, k ≤ i → ∀ mk, apL base n (l.take k) = some mk → (wo9 mk).getD j 0 ≠ (wo9 m2).getD j 0 := by
  obtain ⟨mid, rfl, hO, h3⟩ := once_ask h0 h6 h
  obtain ⟨hb, _⟩ := ask_bok h0 h6 h
  obtain ⟨J, hW, _, hn⟩ := ask_way h0 h6 h
  obtain ⟨mL, hL, _, _⟩ := hW.at_ (wholeL base n mid).length (Nat.le_refl _)
  rw [List.take_length] at hL
  refine ⟨whole_ct h3 hi hm2, fun j hj k hk mk hmk => ?_⟩
  have hx : ∀ e ∈ wholeL base n mid, ix base e.1 < (wo9 n).length := fun e he => by
    obtain ⟨q, _, q2, q3⟩ := (apL_wo9 hL).2 e he
    rw [wo9_len]; unfold ix; omega
  rw [(apL_wo9 hm).1, (apL_wo9 hm2).1] at hj
  rw [(apL_wo9 hmk).1, (apL_wo9 hm2).1]
  exact once_new (once_whole hO h3) hx hi hj k hk
end Go.Proofs.Yteojhhfcfdkmdaa
/- A change's stores: numbers of the width, Next by Link alone; behind each of them the node may be; plain facts; conditions: the node's words, the key, the pointer are of the width. -/
namespace Go.Proofs.Yteojhhfcfdkmdaa
open Go.RowKit
set_option linter.unusedVariables false
theorem apL_snoc9 {base : Int} : ∀ {l : List (Int × Int)} {n : Nd} {s : Int × Int}, apL base n (l ++ [s]) = match apL base n l with | some m => ap base m s | none => none
  | [], n, s => by
    simp only [List.nil_append, apL]
    cases ap base n s <;> rfl
  | t :: l, n, s => by
    rw [List.cons_append, apL, apL]
    cases h : ap base n t with
    | none => rfl
    | some m => exact apL_snoc9
def InW (x : Int) : Prop := 0 ≤ x ∧ x < 18446744073709551616
/-- A node's words are of the width. -/
def In9 (n : Nd) : Prop := ∀ x ∈ wo9 n, InW x
theorem In9.at_ {n : Nd} (h : In9 n) (j : Nat) : InW ((wo9 n).getD j 0) := by
  rw [List.getD_eq_getElem?_getD]
  cases e : (wo9 n)[j]? with
  | none => exact ⟨by decide, by decide⟩
  | some x => exact h x (List.mem_of_getElem? e)
theorem wo9_key (n : Nd) {i : Nat} (hi : i < 8) : (wo9 n).getD (8 + 2 * i) 0 = n.key i := by
  obtain rfl | rfl | rfl | rfl | rfl | rfl | rfl | rfl := lt8 hi <;> rfl
theorem In9.key {n : Nd} (h : In9 n) {i : Nat} (hi : i < 8) : InW (n.key i) := by rw [← wo9_key n hi]; exact h.at_ _
theorem In9.ptr {n : Nd} (h : In9 n) {i : Nat} (hi : i < 8) : InW (n.ptr i) := by rw [← wo9_ptr n hi]; exact h.at_ _
theorem In9.ahd {n : Nd} (h : In9 n) {i : Nat} (hi : i ≤ 8) : InW (n.ahd i) := by
  unfold Nd.ahd
  split
  · exact h.at_ 4
  · exact h.ptr (by omega)
theorem wrap_in (x : Int) : InW (IntKind.u64.wrap x) := by
  unfold InW
  rw [IntKind.wrap_u64]
  omega
/-- What a store may be: of the width, to Next just this. -/
def StOf (base nx : Int) (b : Bool) (e : Int × Int) : Prop := InW e.2 ∧ (e.1 = base + 16 → b = true ∧ e.2 = nx)
theorem stof_p {base nx : Int} {b : Bool} {i : Nat} {x : Int} (h : InW x) : StOf base nx b (pA base i, x) := ⟨h, fun e => by unfold pA at e; dsimp only at e; omega⟩
theorem stof_k {base nx : Int} {b : Bool} {i : Nat} {x : Int} (h : InW x) : StOf base nx b (kA base i, x) := ⟨h, fun e => by unfold kA at e; dsimp only at e; omega⟩
theorem in_zero : InW 0 := ⟨by decide, by decide⟩
theorem whole_st {base nx : Int} {b : Bool} {n : Nd} {l : List (Int × Int)} (h : ∀ e ∈ l, StOf base nx b e) : ∀ e ∈ wholeL base n l, StOf base nx b e := fun e he => by
  unfold wholeL at he
  simp only [List.mem_append, List.mem_cons, List.not_mem_nil, or_false] at he
  rcases he with (rfl | he) | rfl
  · exact ⟨wrap_in _, fun e => by dsimp only at e; omega⟩
  · exact h e he
  · exact ⟨wrap_in _, fun e => by dsimp only at e; omega⟩
theorem dn_st {base nx : Int} {b : Bool} {n : Nd} (h : In9 n) : ∀ c i, i + c < 8 → ∀ e ∈ dnL base n i c, StOf base nx b e
  | 0, i, _, e, he => by
    simp only [dnL, List.mem_singleton] at he
    subst he
    exact stof_p in_zero
  | c + 1, i, hi, e, he => by
    simp only [dnL, List.mem_cons] at he
    rcases he with rfl | rfl | he
    · exact stof_k (h.key (by omega))
    · exact stof_p (h.ptr (by omega))
    · exact dn_st h c (i + 1) (by omega) e he
theorem up_st {base nx : Int} {b : Bool} {n : Nd} (h : In9 n) {p : Nat} : ∀ c, p + c ≤ 8 → ∀ e ∈ upN base n p c, StOf base nx b e
  | 0, _, e, he => by cases he
  | c + 1, hc, e, he => by
    simp only [upN, List.mem_cons] at he
    rcases he with rfl | rfl | he
    · exact stof_p (h.ptr (by omega))
    · exact stof_k (h.key (by omega))
    · exact up_st h c (by omega) e he
theorem room_st {base nx : Int} {b : Bool} {n : Nd} (h : In9 n) {p : Nat} (hp : p ≤ n.len) : ∀ e ∈ mkRoom base n p, StOf base nx b e := fun e he => by
  have hl := n.len_le
  unfold mkRoom at he
  simp only [List.mem_append, List.mem_cons, List.not_mem_nil, or_false] at he
  rcases he with he | he | rfl
  · split at he
    · simp only [List.mem_singleton] at he
      subst he
      exact stof_p in_zero
    · cases he
  · exact up_st h _ (by omega) e he
  · exact stof_p (h.ahd (by omega))
/-- Every change that is asked for. -/
theorem ask_st {base : Int} {n : Nd} {d key ptr : Int} {l : List (Int × Int)} (h0 : 0 ≤ d) (h6 : d < 6) (hn : In9 n) (hk : InW key) (hp : InW ptr) (h : askP base n d key ptr = (l, 0)) : ∀ e ∈ l, StOf base ptr (decide (d = 5)) e := by
  have hl8 := n.len_le
  obtain rfl | rfl | rfl | rfl | rfl | rfl : d = 0 ∨ d = 1 ∨ d = 2 ∨ d = 3 ∨ d = 4 ∨ d = 5 := by omega
  · have h : insP base n key ptr = (l, 0) := h
    unfold insP at h
    split at h
    · rename_i hE
      exact absurd (congrArg Prod.snd h) hE
    · split at h
      · cases h
      · split at h
        · cases h
        · have hl := congrArg Prod.fst h
          dsimp only at hl
          rw [← hl]
          unfold insL
          refine whole_st fun e he => ?_
          simp only [List.mem_append, List.mem_cons, List.not_mem_nil, or_false] at he
          rcases he with he | rfl | rfl
          · exact room_st hn (at_len n key) e he
          · exact stof_k hk
          · exact stof_p hp
  · have h : delP base n key = (l, 0) := h
    unfold delP at h
    split at h
    · rename_i hE
      exact absurd (congrArg Prod.snd h) hE
    · split at h
      · cases h
      · rename_i p hf
        have hl := congrArg Prod.fst h
        dsimp only at hl
        have hlt := find_lt hf
        rw [← hl]
        refine whole_st fun e he => ?_
        rcases List.mem_cons.1 he with rfl | he
        · exact stof_p (hn.ahd (by omega))
        · exact dn_st hn _ p (by omega) e he
  · have h : repP base n = (l, 0) := h
    unfold repP at h
    split at h
    · split at h
      · cases h
      · rename_i hi
        have hl := congrArg Prod.fst h
        dsimp only at hl
        obtain ⟨p, hp1, hp2⟩ := inv_lt hi
        rw [← hl, hp1]
        refine whole_st fun e he => ?_
        exact dn_st hn _ _ (by omega) e he
    · cases h
  · have h : swapP base n key ptr = (l, 0) := h
    unfold swapP at h
    split at h
    · rename_i hE
      exact absurd (congrArg Prod.snd h) hE
    · split at h
      · cases h
      · have hl := congrArg Prod.fst h
        dsimp only at hl
        rw [← hl]
        refine whole_st fun e he => ?_
        simp only [List.mem_singleton] at he
        subst he
        exact stof_p hp
  · have h : cutP base n key = (l, 0) := h
    unfold cutP at h
    split at h
    · rename_i hE
      exact absurd (congrArg Prod.snd h) hE
    · split at h
      · cases h
      · have hl := congrArg Prod.fst h
        dsimp only at hl
        rw [← hl]
        refine whole_st fun e he => ?_
        simp only [List.mem_singleton] at he
        subst he
        exact stof_p in_zero
  · have h : linkP base n ptr = (l, 0) := h
    unfold linkP at h
    split at h
    · rename_i hE
      exact absurd (congrArg Prod.snd h) hE
    · have hl := congrArg Prod.fst h
      dsimp only at hl
      rw [← hl]
      refine whole_st fun e he => ?_
      simp only [List.mem_singleton] at he
      subst he
      exact ⟨hp, fun _ => ⟨rfl, rfl⟩⟩
/-- What holds of the node at every moment. -/
structure CurOk (c : Nd) : Prop where
  in9 : In9 c
  lv : isLv c = true
  nx : c.nx = 0 ∨ c.nx = 1280
  may : c.may 0 false = true
theorem wo9_lv {n m : Nd} (h : (wo9 m).getD 0 0 = (wo9 n).getD 0 0) : m.l = n.l := by
  have h : 5495893775785918464 + m.l = 5495893775785918464 + n.l := h
  omega
/-- A store keeps it, but for what the entries are. -/
theorem ap_keeps {n m : Nd} {s : Int × Int} (h : ap 1088 n s = some m) (hi : In9 n) (hl : isLv n = true) (hx : n.nx = 0 ∨ n.nx = 1280) (hs : StOf 1088 1280 true s) : In9 m ∧ isLv m = true ∧ (m.nx = 0 ∨ m.nx = 1280) := by
  obtain ⟨j, j0, j1, j2, j3⟩ := ap_wo9 h
  refine ⟨fun x hx => ?_, ?_, ?_⟩
  · rw [j3] at hx
    rcases List.mem_or_eq_of_mem_set hx with h | rfl
    · exact hi x h
    · exact hs.1
  · have : m.l = n.l := wo9_lv (by rw [j3, List.getD_eq_getElem?_getD, List.getElem?_set_ne (by omega), ← List.getD_eq_getElem?_getD])
    unfold isLv at hl ⊢
    rw [this]
    exact hl
  · have hm : m.nx = (wo9 m).getD 2 0 := rfl
    have hn : n.nx = (wo9 n).getD 2 0 := rfl
    by_cases e : j = 2
    · subst e
      have := (hs.2 (by omega)).2
      right
      rw [hm, j3, List.getD_eq_getElem?_getD, List.getElem?_set_self (by rw [wo9_len]; omega)]
      exact this
    · rw [hm, j3, List.getD_eq_getElem?_getD, List.getElem?_set_ne (by omega), ← List.getD_eq_getElem?_getD, ← hn]
      exact hx
theorem apL_keeps : ∀ {l : List (Int × Int)} {n m : Nd}, apL 1088 n l = some m → In9 n → isLv n = true → (n.nx = 0 ∨ n.nx = 1280) → (∀ e ∈ l, StOf 1088 1280 true e) → In9 m ∧ isLv m = true ∧ (m.nx = 0 ∨ m.nx = 1280)
  | [], n, m, h, hi, hl, hx, _ => by cases h; exact ⟨hi, hl, hx⟩
  | s :: l, n, m, h, hi, hl, hx, hs => by
    unfold apL at h
    cases e : ap 1088 n s with
    | none => rw [e] at h; cases h
    | some k =>
      rw [e] at h
      obtain ⟨a, b, c⟩ := ap_keeps e hi hl hx (hs s List.mem_cons_self)
      exact apL_keeps h a b c fun e he => hs e (List.mem_cons_of_mem _ he)
theorem st_weak {base nx : Int} {b : Bool} {e : Int × Int} (h : StOf base nx b e) (hb : b = true → nx = 1280) : StOf base 1280 true e := ⟨h.1, fun he => ⟨rfl, by have := h.2 he; rw [this.2, hb this.1]⟩⟩
/-- The way of a change: the node behind so many of its stores. -/
theorem way_ok {n : Nd} {d key ptr : Int} {l : List (Int × Int)} (h0 : 0 ≤ d) (h6 : d < 6) (hn : CurOk n) (hk : InW key) (hp : InW ptr) (h5 : d = 5 → ptr = 1280) (h : askP 1088 n d key ptr = (l, 0)) :
    (∀ e ∈ l, StOf 1088 1280 true e) ∧ 2 ≤ l.length ∧ ∀ i, i ≤ l.length → ∃ m, apL 1088 n (l.take i) = some m ∧ CurOk m ∧ (i = l.length → m.inv = -1) := by
  have hst : ∀ e ∈ l, StOf 1088 1280 true e := fun e he => st_weak (ask_st h0 h6 hn.in9 hk hp h e he) fun hb => h5 (by simpa using hb)
  obtain ⟨J, hW, _, _⟩ := ask_way h0 h6 h
  obtain ⟨mid, hmid, _, _⟩ := once_ask h0 h6 h
  refine ⟨hst, ?_, fun i hi => ?_⟩
  · rw [hmid]
    unfold wholeL
    simp
  · obtain ⟨m, hm, ⟨hmay, _⟩, hinv⟩ := hW.at_ i hi
    obtain ⟨a, b, c⟩ := apL_keeps hm hn.in9 hn.lv hn.nx fun e he => hst e (List.mem_of_mem_take he)
    exact ⟨m, hm, ⟨a, b, c, hmay⟩, hinv⟩
/-- One store more. -/
theorem way_next {n m : Nd} {l : List (Int × Int)} {i : Nat} (hi : i < l.length) (hm : apL 1088 n (l.take i) = some m) {m2 : Nd} (hm2 : apL 1088 n (l.take (i + 1)) = some m2) : ∃ j : Nat, 0 < j ∧ j < 24 ∧ l[i].1 = 1088 + 8 * (j : Int) ∧ wo9 m2 = (wo9 m).set j l[i].2 := by
  rw [List.take_succ_eq_append_getElem hi, apL_snoc9, hm] at hm2
  exact ap_wo9 hm2
end Go.Proofs.Yteojhhfcfdkmdaa
