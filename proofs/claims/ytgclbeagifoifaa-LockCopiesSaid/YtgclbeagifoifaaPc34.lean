/- Texts of this claim, packed: 7RAll. -/
import Derived.Test.YtgclbeagifoifaaPc33
import Derived.Test.YtgclbeagifoifaaPc25
import Derived.Test.YtgclbeagifoifaaPc22
/- The document's Try, Release, Drop beside the table's: the same answer, and the same is said behind; for any client and lock. -/
namespace Go.Proofs.Ytgclbeagifoifaa
open Go.RowKit
set_option linter.unusedVariables false
/-- The document's table lies at gr and says what s says; its list has each lock once, and few. -/
structure RIs (w : World) (B gr : Nat) (s : Lk) (m : Nat) (vL vW : Value) : Prop where
  ex : ∃ l wt, RefAt w B gr s.n l wt vL vW ∧ RefIs s l wt ∧ (l.map (·.1)).Nodup ∧ l.length ≤ m
def RPost (w : World) (B gr : Nat) (vL vW : Value) (ok : Bool) (s' : Lk) (m : Nat) (e : Ending) (w' : World) : Prop :=
  e = .returned (.bool ok) ∧ (∃ vL', RIs w' B gr s' m vL' vW ∧ ∀ k, vL'.ownBlock = some k → vL.ownBlock = some k ∨ w.heap.size ≤ k) ∧ But w w' (rfp gr vL vW)
theorem RefIs.mem {s : Lk} {l : List (Nat × Nat)} {wt : Nat → Nat} (h : RefIs s l wt) (hn : (l.map (·.1)).Nodup) {id : Nat} (h0 : s.hm id = none) : id ∉ l.map (·.1) := by
  intro hm
  obtain ⟨p, hp, e⟩ := List.mem_map.1 hm
  have h1 : rHold l p.1 = (p.2 : Int) := (rHold_mem hn _ _).2 hp
  rw [e, h.hold id, h0] at h1
  simp [hmI] at h1
theorem rTry_all {w : World} {B gr m : Nat} {s : Lk} {vL vW : Value} (h : RIs w B gr s m vL vW) (ok : s.Ok) (hB : B ≤ w.heap.size) (hm : m ≤ 1000) (c : Int) (id : Nat) :
    Calls Try.prog 18 #[.pointer (some ⟨gr, 0, none⟩), .int .i64 c, .int .u64 (id : Int)] w (RPost w B gr vL vW (tryR s c id) (tryT s c id) (m + 1)) := by
  obtain ⟨l, wt, hR, hI, hn, hl⟩ := h.ex
  by_cases hc : isC s c = true
  · obtain ⟨k, rfl, hk⟩ := isC_of hc
    by_cases h0 : id = 0
    · refine (rTry_no hR (.inr h0)).mono ?_
      rintro e w' ⟨rfl, rfl⟩
      refine ⟨by simp [tryR, h0], ⟨vL, ⟨l, wt, by rw [tryT_n]; exact hR, by simpa [tryT, h0] using hI, hn, by omega⟩, fun _ h => .inl h⟩, But.refl _ _⟩
    · have e1 : tryR s (k : Int) id = tryB s k id := by simp [tryR, hc, h0]
      have e2 : tryT s (k : Int) id = tryS s k id := by simp [tryT, hc, h0]
      rw [e1, e2]
      cases hh : s.hm id with
      | none =>
        have hd : rHold l id = -1 := by rw [hI.hold, hh]; rfl
        refine (rTry_new hR hB (by omega) hk h0 hd).mono ?_
        rintro e w' ⟨rfl, ⟨vL', h1, h2⟩, h3⟩
        refine ⟨by simp [tryB, hh], ⟨vL', ⟨_, _, by rw [tryS_n]; exact h1, hI.give hh, ?_, by simp; omega⟩, h2⟩, h3⟩
        rw [List.map_append, List.nodup_append]
        refine ⟨hn, by simp, fun a ha b hb e => ?_⟩
        simp at hb
        subst hb
        subst e
        exact hI.mem hn hh ha
      | some d =>
        have hd : rHold l id = (d : Int) := by rw [hI.hold, hh]; rfl
        by_cases hdk : d = k
        · subst hdk
          refine (rTry_keep hR hk h0 hd).mono ?_
          rintro e w' ⟨rfl, h1, h3⟩
          exact ⟨by simp [tryB, hh], ⟨vL, ⟨_, _, by rw [tryS_n]; exact h1, hI.keep hh, hn, by omega⟩, fun _ h => .inl h⟩, h3⟩
        · refine (rTry_wait hR hk h0 hd hdk).mono ?_
          rintro e w' ⟨rfl, h1, h3⟩
          exact ⟨by simp [tryB, hh, hdk], ⟨vL, ⟨_, _, by rw [tryS_n]; exact h1, hI.wait hh hdk, hn, by omega⟩, fun _ h => .inl h⟩, h3⟩
  · have hcf : isC s c = false := by simpa using hc
    have hno : ¬ (0 ≤ c ∧ c < (s.n : Int)) := by simpa [isC] using hcf
    refine (rTry_no hR (.inl hno)).mono ?_
    rintro e w' ⟨rfl, rfl⟩
    exact ⟨by simp [tryR, hcf], ⟨vL, ⟨l, wt, by rw [tryT_n]; exact hR, by simpa [tryT, hcf] using hI, hn, by omega⟩, fun _ h => .inl h⟩, But.refl _ _⟩
theorem rRel_all {w : World} {B gr m : Nat} {s : Lk} {vL vW : Value} (h : RIs w B gr s m vL vW) (ok : s.Ok) (hB : B ≤ w.heap.size) (hm : m ≤ 1000) (c : Int) (id : Nat) :
    Calls Try.prog 19 #[.pointer (some ⟨gr, 0, none⟩), .int .i64 c, .int .u64 (id : Int)] w (RPost w B gr vL vW (relR s c id) (relT s c id) m) := by
  obtain ⟨l, wt, hR, hI, hn, hl⟩ := h.ex
  by_cases hc : isC s c = true
  · obtain ⟨k, rfl, hk⟩ := isC_of hc
    by_cases h0 : id = 0
    · have hd : rHold l id ≠ (k : Int) := by rw [hI.hold, h0, ok.h0]; simp [hmI]
      refine (rRel_not hR hk hd).mono ?_
      rintro e w' ⟨rfl, h1, h3⟩
      refine ⟨by simp [relR, h0], ⟨vL, ⟨l, _, by rw [relT_n]; exact h1, ?_, hn, hl⟩, fun _ h => .inl h⟩, h3⟩
      have e : wrel wt k id = wt := by
        unfold wrel
        split
        · rename_i he
          funext d
          unfold setW
          split
          · rename_i hd; rw [hd, he, h0]
          · rfl
        · rfl
      rw [e]
      simpa [relT, h0] using hI
    · have e1 : relR s (k : Int) id = relB s k id := by simp [relR, hc, h0]
      have e2 : relT s (k : Int) id = relS s k id := by simp [relT, hc, h0]
      rw [e1, e2]
      by_cases hh : s.hm id = some k
      · have hd : rHold l id = (k : Int) := by rw [hI.hold, hh]; rfl
        refine (rRel_yes hR hB (by omega) hk hd).mono ?_
        rintro e w' ⟨rfl, ⟨vL', h1, h2⟩, h3⟩
        refine ⟨by simp [relB, hh], ⟨vL', ⟨_, _, h1, hI.back hk hh, ?_, Nat.le_trans (List.length_filter_le _ _) hl⟩, fun b hb => .inr (h2 b hb)⟩, h3⟩
        exact List.Nodup.sublist ((List.filter_sublist).map _) hn
      · have hd : rHold l id ≠ (k : Int) := by rw [hI.hold, Ne, hmI_some]; exact hh
        refine (rRel_not hR hk hd).mono ?_
        rintro e w' ⟨rfl, h1, h3⟩
        exact ⟨by simp [relB, hh], ⟨vL, ⟨_, _, h1, hI.stay hk hh, hn, hl⟩, fun _ h => .inl h⟩, h3⟩
  · have hcf : isC s c = false := by simpa using hc
    have hno : ¬ (0 ≤ c ∧ c < (s.n : Int)) := by simpa [isC] using hcf
    refine (rRel_no hR hno).mono ?_
    rintro e w' ⟨rfl, rfl⟩
    exact ⟨by simp [relR, hcf], ⟨vL, ⟨l, wt, by rw [relT_n]; exact hR, by simpa [relT, hcf] using hI, hn, hl⟩, fun _ h => .inl h⟩, But.refl _ _⟩
def dropT (s : Lk) (c : Int) : Lk := if isC s c = true then dropS s c.toNat else s
theorem drop_is {s : Lk} {l : List (Nat × Nat)} {wt : Nat → Nat} (h : RefIs s l wt) (hn : (l.map (·.1)).Nodup) (c : Nat) : RefIs (dropS s c) (l.filter (fun p => p.2 != c)) (setW wt c 0) := by
  have hn2 : ((l.filter (fun p => p.2 != c)).map (·.1)).Nodup := List.Nodup.sublist ((List.filter_sublist).map _) hn
  refine ⟨fun id => ?_, fun d hd => ?_⟩
  · show _ = hmI (if s.hm id = some c then none else s.hm id)
    split
    · rename_i hh
      refine rHold_none fun i p hp e => ?_
      have hm := List.mem_of_getElem? hp
      rw [List.mem_filter] at hm
      have h1 : rHold l p.1 = (p.2 : Int) := (rHold_mem hn _ _).2 hm.1
      rw [e, h.hold id, hh] at h1
      have : p.2 = c := (Int.ofNat.inj h1.symm)
      simp [this] at hm
    · rename_i hh
      cases h2 : s.hm id with
      | none =>
        refine rHold_none fun i p hp e => ?_
        have hm := List.mem_of_getElem? hp
        rw [List.mem_filter] at hm
        exact h.mem hn h2 (by rw [← e]; exact List.mem_map.2 ⟨p, hm.1, rfl⟩)
      | some d =>
        have h3 : (id, d) ∈ l := (rHold_mem hn _ _).1 (by rw [h.hold id, h2]; rfl)
        show _ = (d : Int)
        rw [rHold_mem hn2, List.mem_filter]
        refine ⟨h3, ?_⟩
        have : d ≠ c := fun e => hh (by rw [h2, e])
        simpa using this
  · show setW wt c 0 d = setW s.wt c 0 d
    unfold setW
    split
    · rfl
    · exact h.wt d hd
theorem rDrop_all {w : World} {B gr m : Nat} {s : Lk} {vL vW : Value} (h : RIs w B gr s m vL vW) (hB : B ≤ w.heap.size) (hm : m ≤ 1000) (c : Int) :
    Calls Try.prog 21 #[.pointer (some ⟨gr, 0, none⟩), .int .i64 c] w fun e w' => e = .returned (.tuple #[]) ∧ (∃ vL', RIs w' B gr (dropT s c) m vL' vW ∧ ∀ k, vL'.ownBlock = some k → vL.ownBlock = some k ∨ w.heap.size ≤ k) ∧ But w w' (rfp gr vL vW) := by
  obtain ⟨l, wt, hR, hI, hn, hl⟩ := h.ex
  by_cases hc : isC s c = true
  · obtain ⟨k, rfl, hk⟩ := isC_of hc
    have e2 : dropT s (k : Int) = dropS s k := by simp [dropT, hc]
    rw [e2]
    refine (rDrop_any hR hB (by omega) hn hk).mono ?_
    rintro e w' ⟨rfl, ⟨vL', h1, h2⟩, h3⟩
    exact ⟨rfl, ⟨vL', ⟨_, _, h1, drop_is hI hn k, List.Nodup.sublist ((List.filter_sublist).map _) hn, Nat.le_trans (List.length_filter_le _ _) hl⟩, h2⟩, h3⟩
  · have hcf : isC s c = false := by simpa using hc
    have hno : ¬ (0 ≤ c ∧ c < (s.n : Int)) := by simpa [isC] using hcf
    refine (rDrop_no hR hno).mono ?_
    rintro e w' ⟨rfl, rfl⟩
    exact ⟨rfl, ⟨vL, ⟨l, wt, by simpa [dropT, hcf] using hR, by simpa [dropT, hcf] using hI, hn, hl⟩, fun _ h => .inl h⟩, But.refl _ _⟩
end Go.Proofs.Ytgclbeagifoifaa
