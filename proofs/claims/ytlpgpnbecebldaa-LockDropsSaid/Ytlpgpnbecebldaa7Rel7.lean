/- The table's locks and the law's list say the same: kept by Try and Release. -/
import Derived.Test.Ytlpgpnbecebldaa7RRel
namespace Go.Proofs.Ytlpgpnbecebldaa
set_option linter.unusedVariables false
def hmI : Option Nat → Int | some c => (c : Int) | none => -1
/-- The list holds who has which lock, each once; the waits are the same. -/
structure RefIs (s : Lk) (l : List (Nat × Nat)) (wt : Nat → Nat) : Prop where
  hold : ∀ id, rHold l id = hmI (s.hm id)
  wt : ∀ c, c < s.n → wt c = s.wt c
theorem rHold_snoc {l : List (Nat × Nat)} {id c : Nat} (h : rHold l id = -1) (j : Nat) : rHold (l ++ [(id, c)]) j = if j = id then (c : Int) else rHold l j := by
  have hn : l.find? (fun p => p.1 == id) = none := by
    unfold rHold at h
    cases e : l.find? (fun p => p.1 == id) with
    | none => rfl
    | some p => rw [e] at h; simp at h
  unfold rHold
  rw [List.find?_append]
  by_cases hj : j = id
  · subst hj
    rw [hn, if_pos rfl]
    simp
  · rw [if_neg hj]
    cases e : l.find? (fun p => p.1 == j) with
    | some p => simp
    | none => simp [Ne.symm hj]
theorem rHold_filter (l : List (Nat × Nat)) (id j : Nat) : rHold (l.filter (fun p => p.1 != id)) j = if j = id then -1 else rHold l j := by
  by_cases hj : j = id
  · subst hj
    rw [if_pos rfl]
    refine rHold_none fun i p hp => ?_
    have := List.mem_of_getElem? hp
    simpa using (List.mem_filter.1 this).2
  · rw [if_neg hj]
    unfold rHold
    rw [List.find?_filter]
    have e : (fun p : Nat × Nat => decide ((p.1 != id) = true ∧ (p.1 == j) = true)) = (fun p => p.1 == j) := by
      funext p
      by_cases h : p.1 = j
      · simp [h, hj]
      · simp [h]
    rw [e]
theorem hmI_none {o : Option Nat} : hmI o = -1 ↔ o = none := by
  cases o with
  | none => simp [hmI]
  | some c => simp [hmI]
theorem hmI_some {o : Option Nat} {c : Nat} : hmI o = (c : Int) ↔ o = some c := by
  cases o with
  | none => simp [hmI]
  | some d => simp [hmI]; omega
theorem RefIs.nil (n : Nat) : RefIs (lk0 n) [] (fun _ => 0) := ⟨fun _ => rfl, fun _ _ => rfl⟩
theorem RefIs.give {s : Lk} {l : List (Nat × Nat)} {wt : Nat → Nat} (h : RefIs s l wt) {c id : Nat} (hn : s.hm id = none) : RefIs (tryS s c id) (l ++ [(id, c)]) (setW wt c 0) := by
  have hb : tryB s c id = true := by unfold tryB; rw [hn]
  have e : tryS s c id = ⟨s.n, setH s.hm id (some c), setW s.wt c 0, s.sz + 1⟩ := if_pos hb
  rw [e]
  refine ⟨fun j => ?_, fun d hd => ?_⟩
  · rw [rHold_snoc (by rw [h.hold id, hn]; rfl)]
    show _ = hmI (setH s.hm id (some c) j)
    unfold setH
    split
    · rfl
    · exact h.hold j
  · show setW wt c 0 d = setW s.wt c 0 d
    unfold setW
    split
    · rfl
    · exact h.wt d hd
theorem RefIs.keep {s : Lk} {l : List (Nat × Nat)} {wt : Nat → Nat} (h : RefIs s l wt) {c id : Nat} (hn : s.hm id = some c) : RefIs (tryS s c id) l (setW wt c 0) := by
  have hb : tryB s c id = true := by unfold tryB; rw [hn]; simp
  have e : tryS s c id = ⟨s.n, setH s.hm id (some c), setW s.wt c 0, s.sz + 1⟩ := if_pos hb
  rw [e]
  refine ⟨fun j => ?_, fun d hd => ?_⟩
  · show _ = hmI (setH s.hm id (some c) j)
    unfold setH
    split
    · rename_i hj
      rw [hj, h.hold id, hn]
    · exact h.hold j
  · show setW wt c 0 d = setW s.wt c 0 d
    unfold setW
    split
    · rfl
    · exact h.wt d hd
theorem RefIs.wait {s : Lk} {l : List (Nat × Nat)} {wt : Nat → Nat} (h : RefIs s l wt) {c d id : Nat} (hn : s.hm id = some d) (hd : d ≠ c) : RefIs (tryS s c id) l (setW wt c id) := by
  have hb : ¬ tryB s c id = true := by unfold tryB; rw [hn]; simpa using hd
  have e : tryS s c id = ⟨s.n, s.hm, setW s.wt c id, s.sz⟩ := if_neg hb
  rw [e]
  refine ⟨h.hold, fun d hd => ?_⟩
  show setW wt c id d = setW s.wt c id d
  unfold setW
  split
  · rfl
  · exact h.wt d hd
theorem wrel_is {s : Lk} {l : List (Nat × Nat)} {wt : Nat → Nat} (h : RefIs s l wt) {c id : Nat} (hc : c < s.n) (d : Nat) (hd : d < s.n) : wrel wt c id d = (if s.wt c = id then setW s.wt c 0 else s.wt) d := by
  unfold wrel
  rw [h.wt c hc]
  split
  · unfold setW
    split
    · rfl
    · exact h.wt d hd
  · exact h.wt d hd
theorem RefIs.back {s : Lk} {l : List (Nat × Nat)} {wt : Nat → Nat} (h : RefIs s l wt) {c id : Nat} (hc : c < s.n) (hn : s.hm id = some c) : RefIs (relS s c id) (l.filter (fun p => p.1 != id)) (wrel wt c id) := by
  refine ⟨fun j => ?_, fun d hd => wrel_is h hc d hd⟩
  have hb : relB s c id = true := by unfold relB; rw [hn]; simp
  rw [rHold_filter]
  show _ = hmI ((if relB s c id = true then setH s.hm id none else s.hm) j)
  rw [if_pos hb]
  unfold setH
  split
  · rfl
  · exact h.hold j
theorem RefIs.stay {s : Lk} {l : List (Nat × Nat)} {wt : Nat → Nat} (h : RefIs s l wt) {c id : Nat} (hc : c < s.n) (hn : s.hm id ≠ some c) : RefIs (relS s c id) l (wrel wt c id) := by
  refine ⟨fun j => ?_, fun d hd => wrel_is h hc d hd⟩
  have hb : ¬ relB s c id = true := by unfold relB; simpa using hn
  show _ = hmI ((if relB s c id = true then setH s.hm id none else s.hm) j)
  rw [if_neg hb]
  exact h.hold j
end Go.Proofs.Ytlpgpnbecebldaa
