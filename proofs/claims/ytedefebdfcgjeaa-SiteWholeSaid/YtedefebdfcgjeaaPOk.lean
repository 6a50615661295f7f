/- A new memory's state, and those behind stores, flushes, fences and crashes, are such as a memory can have. -/
import Derived.Test.YtedefebdfcgjeaaPLook
import Derived.Test.YtedefebdfcgjeaaPNew
namespace Go.Proofs.Ytedefebdfcgjeaa
open Go.RowKit
set_option linter.unusedVariables false
theorem zero_Ok (nl : Nat) : (St.zero nl).Ok := by
  refine ⟨?_, ?_, ?_, ?_, ?_, ?_⟩
  · intro x hx
    rw [List.eq_of_mem_replicate hx]
    decide
  · intro x hx
    rw [List.eq_of_mem_replicate hx]
    decide
  · intro j l hl p hp
    rw [List.eq_of_mem_replicate (List.mem_of_getElem? hl)] at hp
    cases hp
  · intro l hl
    rw [List.eq_of_mem_replicate hl]
    decide
  · intro j c
    exact Nat.zero_le _
  · exact ⟨(by decide : 0 < 9223372036854775808), (by decide : 0 < 9223372036854775808), (by decide : 0 < 9223372036854775808), (by decide : 0 < 9223372036854775808)⟩
theorem store_Ok {s : St} (ok : s.Ok) {a v : Nat} (h8 : a % 8 = 0) (ha : a / 64 < s.pend.length) (hv : v < 18446744073709551616) (hst : s.st + 1 < 9223372036854775808) (hn : (s.pend.getD (a / 64) []).length + 1 ≤ 1000000000) : (s.store a v).Ok := by
  have hgi := getD_at (d := ([] : List (Nat × Nat))) ha
  refine ⟨ok.las, ?_, ?_, ?_, ?_, ⟨ok.num.1, hst, ok.num.2.2⟩⟩
  · intro x hx
    rcases List.mem_or_eq_of_mem_set hx with h | rfl
    · exact ok.vie x h
    · exact hv
  · intro j l hl p hp
    have hl' : (s.pend.set (a / 64) (s.pend.getD (a / 64) [] ++ [(a, v)]))[j]? = some l := hl
    rw [List.getElem?_set] at hl'
    by_cases e : a / 64 = j
    · rw [if_pos e, if_pos ha] at hl'
      cases hl'
      rcases List.mem_append.1 hp with h | h
      · rw [hgi] at h
        rw [← e]
        exact ok.put _ _ (List.getElem?_eq_getElem ha) p h
      · have : p = (a, v) := by simpa using h
        subst this
        exact ⟨h8, e, hv⟩
    · rw [if_neg e] at hl'
      exact ok.put j l hl' p hp
  · intro l hl
    rcases List.mem_or_eq_of_mem_set hl with h | h
    · exact ok.few l h
    · rw [h, List.length_append]
      simpa using hn
  · intro j c
    show s.mm j c ≤ ((s.pend.set (a / 64) (s.pend.getD (a / 64) [] ++ [(a, v)])).getD j []).length
    rw [set_getD ha]
    have := ok.mks j c
    by_cases e : j = a / 64
    · rw [if_pos e, List.length_append, ← e]
      omega
    · rw [if_neg e]
      exact this
theorem flush_Ok {s : St} (ok : s.Ok) {c a : Nat} (hfl : s.fl + 1 < 9223372036854775808) : (s.flush c a).Ok := by
  refine ⟨ok.las, ok.vie, ok.put, ok.few, ?_, ⟨ok.num.1, ok.num.2.1, hfl, ok.num.2.2.2⟩⟩
  intro j q
  show (if (s.pend.getD (a / 64) []).length = 0 then s.mm else upd s.mm (a / 64) fun k => if k = c then (s.pend.getD (a / 64) []).length else s.mm (a / 64) k) j q ≤ (s.pend.getD j []).length
  by_cases h0 : (s.pend.getD (a / 64) []).length = 0
  · rw [if_pos h0]
    exact ok.mks j q
  · rw [if_neg h0]
    unfold upd
    by_cases e : j = a / 64
    · rw [if_pos e]
      by_cases e2 : q = c
      · rw [if_pos e2, e]
        exact Nat.le_refl _
      · rw [if_neg e2, e]
        exact ok.mks _ q
    · rw [if_neg e]
      exact ok.mks j q
theorem fence_Ok {s : St} (ok : s.Ok) {c : Nat} (hfe : s.fe + 1 < 9223372036854775808) : (s.fence c).Ok :=
  fenV_ok (s := { s with fe := s.fe + 1 }) ⟨ok.las, ok.vie, ok.put, ok.few, ok.mks, ⟨ok.num.1, ok.num.2.1, ok.num.2.2.1, hfe⟩⟩ c _
theorem crash_Ok {s : St} (ok : s.Ok) (keep : List Int) : (s.crash keep).Ok := by
  refine crashTo_Ok ok keep _ fun x hx => ?_
  have := nzFrom_bound _ _ _ x hx
  omega

/-- The document's rows: the states that known goes through. -/
def k1 : St := (St.zero 2).store 0 1
def k2 : St := k1.store 8 2
def k3 : St := k2.flush 0 0
def k4 : St := k3.store 0 3
def k5 : St := k4.fence 0
def k6 : St := k5.store 64 5
def k7 : St := k6.crash [0, 1]
theorem k1_Ok : k1.Ok := store_Ok (zero_Ok 2) (by decide) (by decide) (by decide) (by decide) (by decide)
theorem k2_Ok : k2.Ok := store_Ok k1_Ok (by decide) (by decide) (by decide) (by decide) (by decide)
theorem k3_Ok : k3.Ok := flush_Ok k2_Ok (by decide)
theorem k4_Ok : k4.Ok := store_Ok k3_Ok (by decide) (by decide) (by decide) (by decide) (by decide)
theorem k5_Ok : k5.Ok := fence_Ok k4_Ok (by decide)
theorem k6_Ok : k6.Ok := store_Ok k5_Ok (by decide) (by decide) (by decide) (by decide) (by decide)
theorem k7_Ok : k7.Ok := crash_Ok k6_Ok _
theorem k5_las : k5.lasted = [1, 2, 0, 0, 0, 0, 0, 0, 0, 0, 0, 0, 0, 0, 0, 0] := by decide
theorem k5_vie : k5.view = [3, 2, 0, 0, 0, 0, 0, 0, 0, 0, 0, 0, 0, 0, 0, 0] := by decide
theorem k5_pen : k5.pend = [[(0, 3)], []] := by decide
theorem k7_las : k7.lasted = [1, 2, 0, 0, 0, 0, 0, 0, 5, 0, 0, 0, 0, 0, 0, 0] := by decide
theorem k7_vie : k7.view = [1, 2, 0, 0, 0, 0, 0, 0, 5, 0, 0, 0, 0, 0, 0, 0] := by decide
end Go.Proofs.Ytedefebdfcgjeaa
