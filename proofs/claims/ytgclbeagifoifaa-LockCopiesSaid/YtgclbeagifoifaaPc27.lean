/- Texts of this claim, packed: 7Rel7, 7Ins. -/
import Derived.Test.YtgclbeagifoifaaPc26
import Derived.Test.YtgclbeagifoifaaPc20
/- The table's locks and the law's list say the same: kept by Try and Release. -/
namespace Go.Proofs.Ytgclbeagifoifaa
set_option linter.unusedVariables false
def hmI : Option Nat → Int | some c => (c : Int) | none => -1
/-- The list holds who has which lock, each once; the waits are the same. -/
structure RefIs (s : Lk) (l : List (Nat × Nat)) (wt : Nat → Nat) : Prop where
  hold : ∀ id, rHold l id = hmI (s.hm id)
  wt : ∀ c, c < s.n → wt c = s.wt c
theorem rHold_snoc {l : List (Nat × Nat)} {id c : Nat} (h : rHold l id = -1) (j : Nat) : rHold (l ++ [(id, c)]) j = if j = id then (c : Int) else rHold l j := by
  have hn : l.find? (fun p => p.1 == id) = none := by
    unfold rHold at h
    cases e : l.find? (fun p => p.1 == id) with
    | none => rfl
    | some p => rw [e] at h; simp at h
  unfold rHold
  rw [List.find?_append]
  by_cases hj : j = id
  · subst hj
    rw [hn, if_pos rfl]
    simp
  · rw [if_neg hj]
    cases e : l.find? (fun p => p.1 == j) with
    | some p => simp
    | none => simp [Ne.symm hj]
theorem rHold_filter (l : List (Nat × Nat)) (id j : Nat) : rHold (l.filter (fun p => p.1 != id)) j = if j = id then -1 else rHold l j := by
  by_cases hj : j = id
  · subst hj
    rw [if_pos rfl]
    refine rHold_none fun i p hp => ?_
    have := List.mem_of_getElem? hp
    simpa using (List.mem_filter.1 this).2
  · rw [if_neg hj]
    unfold rHold
    rw [List.find?_filter]
    have e : (fun p : Nat × Nat => decide ((p.1 != id) = true ∧ (p.1 == j) = true)) = (fun p => p.1 == j) := by
      funext p
      by_cases h : p.1 = j
      · simp [h, hj]
      · simp [h]
    rw [e]
theorem hmI_none {o : Option Nat} : hmI o = -1 ↔ o = none := by
  cases o with
  | none => simp [hmI]
  | some c => simp [hmI]
theorem hmI_some {o : Option Nat} {c : Nat} : hmI o = (c : Int) ↔ o = some c := by
  cases o with
  | none => simp [hmI]
  | some d => simp [hmI]; omega
theorem RefIs.nil (n : Nat) : RefIs (lk0 n) [] (fun _ => 0) := ⟨fun _ => rfl, fun _ _ => rfl⟩
theorem RefIs.give {s : Lk} {l : List (Nat × Nat)} {wt : Nat → Nat} (h : RefIs s l wt) {c id : Nat} (hn : s.hm id = none) : RefIs (tryS s c id) (l ++ [(id, c)]) (setW wt c 0) := by
  have hb : tryB s c id = true := by unfold tryB; rw [hn]
  have e : tryS s c id = ⟨s.n, setH s.hm id (some c), setW s.wt c 0, s.sz + 1⟩ := if_pos hb
  rw [e]
  refine ⟨fun j => ?_, fun d hd => ?_⟩
  · rw [rHold_snoc (by rw [h.hold id, hn]; rfl)]
    show _ = hmI (setH s.hm id (some c) j)
    unfold setH
    split
    · rfl
    · exact h.hold j
  · show setW wt c 0 d = setW s.wt c 0 d
    unfold setW
    split
    · rfl
    · exact h.wt d hd
theorem RefIs.keep {s : Lk} {l : List (Nat × Nat)} {wt : Nat → Nat} (h : RefIs s l wt) {c id : Nat} (hn : s.hm id = some c) : RefIs (tryS s c id) l (setW wt c 0) := by
  have hb : tryB s c id = true := by unfold tryB; rw [hn]; simp
  have e : tryS s c id = ⟨s.n, setH s.hm id (some c), setW s.wt c 0, s.sz + 1⟩ := if_pos hb
  rw [e]
  refine ⟨fun j => ?_, fun d hd => ?_⟩
  · show _ = hmI (setH s.hm id (some c) j)
    unfold setH
    split
    · rename_i hj
      rw [hj, h.hold id, hn]
    · exact h.hold j
  · show setW wt c 0 d = setW s.wt c 0 d
    unfold setW
    split
    · rfl
    · exact h.wt d hd
theorem RefIs.wait {s : Lk} {l : List (Nat × Nat)} {wt : Nat → Nat} (h : RefIs s l wt) {c d id : Nat} (hn : s.hm id = some d) (hd : d ≠ c) : RefIs (tryS s c id) l (setW wt c id) := by
  have hb : ¬ tryB s c id = true := by unfold tryB; rw [hn]; simpa using hd
  have e : tryS s c id = ⟨s.n, s.hm, setW s.wt c id, s.sz⟩ := if_neg hb
  rw [e]
  refine ⟨h.hold, fun d hd => ?_⟩
  show setW wt c id d = setW s.wt c id d
  unfold setW
  split
  · rfl
  · exact h.wt d hd
theorem wrel_is {s : Lk} {l : List (Nat × Nat)} {wt : Nat → Nat} (h : RefIs s l wt) {c id : Nat} (hc : c < s.n) (d : Nat) (hd : d < s.n) : wrel wt c id d = (if s.wt c = id then setW s.wt c 0 else s.wt) d := by
  unfold wrel
  rw [h.wt c hc]
  split
  · unfold setW
    split
    · rfl
    · exact h.wt d hd
  · exact h.wt d hd
theorem RefIs.back {s : Lk} {l : List (Nat × Nat)} {wt : Nat → Nat} (h : RefIs s l wt) {c id : Nat} (hc : c < s.n) (hn : s.hm id = some c) : RefIs (relS s c id) (l.filter (fun p => p.1 != id)) (wrel wt c id) := by
  refine ⟨fun j => ?_, fun d hd => wrel_is h hc d hd⟩
  have hb : relB s c id = true := by unfold relB; rw [hn]; simp
  rw [rHold_filter]
  show _ = hmI ((if relB s c id = true then setH s.hm id none else s.hm) j)
  rw [if_pos hb]
  unfold setH
  split
  · rfl
  · exact h.hold j
theorem RefIs.stay {s : Lk} {l : List (Nat × Nat)} {wt : Nat → Nat} (h : RefIs s l wt) {c id : Nat} (hc : c < s.n) (hn : s.hm id ≠ some c) : RefIs (relS s c id) l (wrel wt c id) := by
  refine ⟨fun j => ?_, fun d hd => wrel_is h hc d hd⟩
  have hb : ¬ relB s c id = true := by unfold relB; simpa using hn
  show _ = hmI ((if relB s c id = true then setH s.hm id none else s.hm) j)
  rw [if_neg hb]
  exact h.hold j
end Go.Proofs.Ytgclbeagifoifaa
/- The document's Held, in plain words: what a client has by the list, put in order one by one; no conditions. -/
namespace Go.Proofs.Ytgclbeagifoifaa
set_option linter.unusedVariables false
/-- A word put where it belongs. -/
def insN (o : List Nat) (x : Nat) : List Nat := o.takeWhile (fun y => decide (y < x)) ++ x :: o.dropWhile (fun y => decide (y < x))
/-- What a client has, by the list, rising. -/
def heldL (l : List (Nat × Nat)) (c : Nat) : List Nat := l.foldl (fun o p => if p.2 = c then insN o p.1 else o) []
theorem heldL_snoc (l : List (Nat × Nat)) (p : Nat × Nat) (c : Nat) : heldL (l ++ [p]) c = if p.2 = c then insN (heldL l c) p.1 else heldL l c := by
  unfold heldL
  rw [List.foldl_append]
  rfl
theorem heldL_next {l : List (Nat × Nat)} {i : Nat} {p : Nat × Nat} (hp : l[i]? = some p) (c : Nat) : heldL (l.take (i + 1)) c = if p.2 = c then insN (heldL (l.take i) c) p.1 else heldL (l.take i) c := by
  have hl := (List.getElem?_eq_some_iff.1 hp).1
  rw [List.take_succ_eq_append_getElem hl, (List.getElem?_eq_some_iff.1 hp).2, heldL_snoc]
theorem insN_len (o : List Nat) (x : Nat) : (insN o x).length = o.length + 1 := by
  have h := congrArg List.length (List.takeWhile_append_dropWhile (p := fun y => decide (y < x)) (l := o))
  rw [List.length_append] at h
  unfold insN
  rw [List.length_append, List.length_cons]
  omega
theorem heldL_len : ∀ (l : List (Nat × Nat)) (c i : Nat), (heldL (l.take i) c).length ≤ i
  | l, c, 0 => by simp [heldL]
  | l, c, i + 1 => by
    have ih := heldL_len l c i
    cases h : l[i]? with
    | none =>
      have hl : l.length ≤ i := by
        rcases Nat.lt_or_ge i l.length with h1 | h1
        · rw [List.getElem?_eq_getElem h1] at h; cases h
        · exact h1
      rw [List.take_of_length_le (by omega)]
      rw [List.take_of_length_le hl] at ih
      omega
    | some p =>
      rw [heldL_next h]
      split
      · rw [insN_len]; omega
      · omega
/-- Where the insertion's walk ends. -/
theorem insN_at {o : List Nat} {x j : Nat} (hj : j ≤ o.length) (h1 : ∀ q, q < j → o.getD q 0 < x) (h2 : j = o.length ∨ ¬ o.getD j 0 < x) : insN o x = o.take j ++ [x] ++ o.drop j := by
  induction o generalizing j with
  | nil =>
    have : j = 0 := by simpa using hj
    subst this
    rfl
  | cons a t ih =>
    cases j with
    | zero =>
      have ha : ¬ a < x := by
        rcases h2 with h2 | h2
        · simp at h2
        · simpa using h2
      unfold insN
      simp [ha]
    | succ j =>
      have ha : a < x := by have := h1 0 (by omega); simpa using this
      have ih := ih (j := j) (by simpa using hj) (fun q hq => by have := h1 (q + 1) (by omega); simpa using this) (by
        rcases h2 with h2 | h2
        · left; simpa using h2
        · right; simpa using h2)
      unfold insN at ih ⊢
      simp [ha]
      simpa using ih
theorem insN_mem {o : List Nat} {x y : Nat} : y ∈ insN o x ↔ y = x ∨ y ∈ o := by
  have h : y ∈ o ↔ y ∈ o.takeWhile (fun z => decide (z < x)) ∨ y ∈ o.dropWhile (fun z => decide (z < x)) := by
    rw [← List.mem_append, List.takeWhile_append_dropWhile]
  unfold insN
  rw [List.mem_append, List.mem_cons, h]
  constructor
  · rintro (h | h | h)
    · exact .inr (.inl h)
    · exact .inl h
    · exact .inr (.inr h)
  · rintro (h | h | h)
    · exact .inr (.inl h)
    · exact .inl h
    · exact .inr (.inr h)
theorem insN_sorted {o : List Nat} {x : Nat} (h : o.Pairwise (· < ·)) (hx : x ∉ o) : (insN o x).Pairwise (· < ·) := by
  induction o with
  | nil => simp [insN]
  | cons a t ih =>
    have ⟨ha, ht⟩ := List.pairwise_cons.1 h
    have hxa : x ≠ a := fun e => hx (by rw [e]; exact List.mem_cons_self)
    have hxt : x ∉ t := fun e => hx (List.mem_cons_of_mem _ e)
    by_cases hl : a < x
    · have ih := ih ht hxt
      have e : insN (a :: t) x = a :: insN t x := by simp [insN, hl]
      rw [e, List.pairwise_cons]
      refine ⟨fun y hy => ?_, ih⟩
      rcases insN_mem.1 hy with rfl | hy
      · exact hl
      · exact ha y hy
    · have e : insN (a :: t) x = x :: a :: t := by simp [insN, hl]
      rw [e, List.pairwise_cons]
      refine ⟨fun y hy => ?_, h⟩
      rcases List.mem_cons.1 hy with rfl | hy
      · omega
      · have := ha y hy; omega
theorem snoc_ind {P : List (Nat × Nat) → Prop} (h0 : P []) (h1 : ∀ l a, P l → P (l ++ [a])) (l : List (Nat × Nat)) : P l := by
  rw [← List.reverse_reverse l]
  generalize l.reverse = r
  induction r with
  | nil => exact h0
  | cons a r ih => rw [List.reverse_cons]; exact h1 _ _ ih
theorem heldL_mem : ∀ (l : List (Nat × Nat)) (c id : Nat), id ∈ heldL l c ↔ (id, c) ∈ l := by
  intro l c id
  refine snoc_ind (P := fun l => id ∈ heldL l c ↔ (id, c) ∈ l) ?_ ?_ l
  · simp [heldL]
  · intro l p ih
    rw [heldL_snoc]
    by_cases h : p.2 = c
    · rw [if_pos h, insN_mem, ih, List.mem_append, List.mem_singleton]
      constructor
      · rintro (rfl | h1)
        · right; rw [← h]
        · exact .inl h1
      · rintro (h1 | h1)
        · exact .inr h1
        · left; rw [← h1]
    · rw [if_neg h, ih, List.mem_append, List.mem_singleton]
      constructor
      · exact .inl
      · rintro (h1 | h1)
        · exact h1
        · exact absurd (by rw [← h1]) h
theorem heldL_sorted : ∀ (l : List (Nat × Nat)) (c : Nat), (l.map (·.1)).Nodup → (heldL l c).Pairwise (· < ·) := by
  intro l c
  refine snoc_ind (P := fun l => (l.map (·.1)).Nodup → (heldL l c).Pairwise (· < ·)) ?_ ?_ l
  · intro _; simp [heldL]
  · intro l p ih hn
    rw [List.map_append, List.nodup_append] at hn
    obtain ⟨h1, _, h3⟩ := hn
    rw [heldL_snoc]
    split
    · refine insN_sorted (ih h1) fun hm => ?_
      rw [heldL_mem] at hm
      exact h3 p.1 (List.mem_map.2 ⟨_, hm, rfl⟩) p.1 (by simp) rfl
    · exact ih h1
theorem rHold_mem {l : List (Nat × Nat)} (hn : (l.map (·.1)).Nodup) (id c : Nat) : rHold l id = (c : Int) ↔ (id, c) ∈ l := by
  unfold rHold
  cases h : l.find? (fun p => p.1 == id) with
  | none =>
    constructor
    · intro e; simp at e
    · intro hm
      have := List.find?_eq_none.1 h _ hm
      simp at this
  | some p =>
    have hp := List.mem_of_find?_eq_some h
    have he : p.1 = id := by have := List.find?_some h; simpa using this
    constructor
    · intro e
      have e2 : p.2 = c := Int.ofNat.inj e
      rw [← he, ← e2]
      exact hp
    · intro hm
      have e2 : p = (id, c) := by
        obtain ⟨i, hi, e1⟩ := List.mem_iff_getElem.1 hp
        obtain ⟨j, hj, e2⟩ := List.mem_iff_getElem.1 hm
        have hij : i = j := by
          have h1 : (l.map (·.1))[i]'(by simpa using hi) = (l.map (·.1))[j]'(by simpa using hj) := by
            rw [List.getElem_map, List.getElem_map, e1, e2]
            exact he
          have hp := List.pairwise_iff_getElem.1 hn
          rcases Nat.lt_trichotomy i j with h2 | h2 | h2
          · exact absurd h1 (hp i j (by simpa using hi) (by simpa using hj) h2)
          · exact h2
          · exact absurd h1.symm (hp j i (by simpa using hj) (by simpa using hi) h2)
        subst hij
        rw [← e1, e2]
      rw [e2]
theorem heldL_is {s : Lk} {l : List (Nat × Nat)} {wt : Nat → Nat} (h : RefIs s l wt) (hn : (l.map (·.1)).Nodup) (c : Nat) : HeldIs s c (heldL l c) := by
  refine ⟨heldL_sorted l c hn, fun id => ?_⟩
  rw [heldL_mem, ← rHold_mem hn, h.hold id, hmI_some]
end Go.Proofs.Ytgclbeagifoifaa
