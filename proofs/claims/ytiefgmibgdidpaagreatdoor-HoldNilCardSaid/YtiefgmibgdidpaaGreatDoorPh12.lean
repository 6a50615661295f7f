/- Texts of this claim, packed: PLast, PFenSt, PFence, PLose. -/
import Derived.Test.YtiefgmibgdidpaaGreatDoorPh11
import Derived.Test.YtiefgmibgdidpaaGreatDoorPh09
import Derived.Deep.QuietTactic
import Derived.BigQuiet
import Derived.Maps.RangeWalk
import Derived.Deep.RegionHeld3
/- last: the elder pending stores of a line last; for lines that there are, and at most as many as are pending. -/
namespace Go.Proofs.YtiefgmibgdidpaaGreatDoor
open Go.RowKit
set_option linter.unusedVariables false
attribute [local go_sem ↓] Go.wp_at_zero Go.wp_at_succ

/-- Stores that have lasted, one behind the other; the state behind that. -/
def lastW (las : List Nat) (ps : List (Nat × Nat)) : List Nat := ps.foldl (fun l p => l.set (p.1 / 8) p.2) las
theorem lastW_length (las : List Nat) (ps : List (Nat × Nat)) : (lastW las ps).length = las.length := by
  unfold lastW
  induction ps generalizing las with
  | nil => rfl
  | cons p t ih => rw [List.foldl_cons, ih, List.length_set]
def St.last (s : St) (i n : Nat) : St := { s with lasted := lastW s.lasted ((s.pend.getD i []).take n), pend := s.pend.set i ((s.pend.getD i []).drop n), mm := umk s.mm i n }
theorem Tail.drop {w : World} {h off cap L n : Nat} {l : List (Nat × Nat)} (ht : Tail w (.slice (some ⟨h, off, none⟩) L cap) l) (hn : n < l.length) : Tail w (.slice (some ⟨h, off + n * 2, none⟩) (l.length - n) (cap - n)) (l.drop n) := by
  rcases ht with ⟨h0, _⟩ | ⟨h', off', cap', cur, h0, hr, hp, hlc, hcm, hfit, htk⟩
  · cases h0
  · simp only [Value.slice.injEq, Option.some.injEq, Addr.mk.injEq, and_true] at h0
    obtain ⟨⟨rfl, rfl⟩, rfl, rfl⟩ := h0
    refine .inr ⟨h, off + n * 2, cap - n, cur, by rw [List.length_drop], hr, by rw [List.length_drop]; omega, by rw [List.length_drop]; omega, by omega, by omega, ?_⟩
    rw [← flat_drop, ← htk, List.drop_take, List.drop_drop, List.length_drop]
    congr 1
    · omega
    · congr 1
      omega
end Go.Proofs.YtiefgmibgdidpaaGreatDoor
/- What a fence makes of a state, line by line; plain facts, for states that a memory can have. -/
namespace Go.Proofs.YtiefgmibgdidpaaGreatDoor
set_option linter.unusedVariables false
theorem lastW_fits {las : List Nat} {ps : List (Nat × Nat)} (h1 : ∀ x ∈ las, x < 18446744073709551616) (h2 : ∀ p ∈ ps, p.2 < 18446744073709551616) : ∀ x ∈ lastW las ps, x < 18446744073709551616 := by
  induction ps generalizing las with
  | nil => exact h1
  | cons p t ih =>
    refine ih (las := las.set (p.1 / 8) p.2) ?_ (fun q hq => h2 q (by simp [hq]))
    intro x hx
    rcases List.mem_or_eq_of_mem_set hx with hx | rfl
    · exact h1 x hx
    · exact h2 p (by simp)

/-- The state behind a fence of those lines that V says. -/
def St.fenV (s : St) (c : Nat) (V : Nat → Bool) : St :=
  { s with
    lasted := s.lasted.mapIdx fun k x => if V (k / 8) = true then (lastW s.lasted ((s.pend.getD (k / 8) []).take (s.mm (k / 8) c))).getD k 0 else x
    pend := s.pend.mapIdx fun j l => if V j = true then l.drop (s.mm j c) else l
    mm := fun j => if V j = true then (fun k => s.mm j k - s.mm j c) else s.mm j }
theorem getD_at {α : Type} {l : List α} {i : Nat} {d : α} (h : i < l.length) : l.getD i d = l[i] := by rw [List.getD_eq_getElem?_getD, List.getElem?_eq_getElem h]; rfl
theorem fenV_ok {s : St} (ok : s.Ok) (c : Nat) (V : Nat → Bool) : (s.fenV c V).Ok := by
  refine ⟨?_, ok.vie, ?_, ?_, ?_, ok.num⟩
  · intro x hx
    simp only [St.fenV, List.mem_mapIdx] at hx
    obtain ⟨k, hk, rfl⟩ := hx
    split
    · rw [getD_at (by rw [lastW_length]; exact hk)]
      refine lastW_fits ok.las ?_ _ (List.getElem_mem _)
      intro p hp
      have hm := List.mem_of_mem_take hp
      by_cases hl : k / 8 < s.pend.length
      · rw [getD_at hl] at hm
        exact (ok.put _ _ (List.getElem?_eq_getElem hl) p hm).2.2
      · rw [List.getD_eq_getElem?_getD, List.getElem?_eq_none (by omega)] at hm
        cases hm
    · exact ok.las _ (List.getElem_mem hk)
  · intro j l hl p hp
    simp only [St.fenV, List.getElem?_mapIdx] at hl
    cases e : s.pend[j]? with
    | none => rw [e] at hl; cases hl
    | some l0 =>
      rw [e] at hl
      simp only [Option.map_some, Option.some.injEq] at hl
      subst hl
      refine ok.put j l0 e p ?_
      split at hp
      · exact List.mem_of_mem_drop hp
      · exact hp
  · intro l hl
    simp only [St.fenV, List.mem_mapIdx] at hl
    obtain ⟨k, hk, rfl⟩ := hl
    have := ok.few _ (List.getElem_mem hk)
    split
    · rw [List.length_drop]; omega
    · exact this
  · intro j q
    have h1 := ok.mks j q
    by_cases hl : j < s.pend.length
    · rw [getD_at hl] at h1
      rw [getD_at (by simpa [St.fenV] using hl)]
      simp only [St.fenV, List.getElem_mapIdx]
      split
      · rw [List.length_drop]
        show s.mm j q - s.mm j c ≤ _
        omega
      · exact h1
    · rw [List.getD_eq_getElem?_getD, List.getElem?_eq_none (by omega)] at h1
      have h1' : s.mm j q = 0 := by simpa using h1
      simp only [St.fenV]
      split
      · show s.mm j q - s.mm j c ≤ _
        omega
      · omega
/-- A fence: the state behind it. -/
def St.fence (s : St) (c : Nat) : St := { s with fe := s.fe + 1 }.fenV c (fun _ => true)
end Go.Proofs.YtiefgmibgdidpaaGreatDoor
/- Fence: all that a client has marked lasts, of each line in order; for states that a memory can have. -/
namespace Go.Proofs.YtiefgmibgdidpaaGreatDoor
open Go.RowKit Go.Maps
set_option linter.unusedVariables false

end Go.Proofs.YtiefgmibgdidpaaGreatDoor
/- lose: a line is what has lasted of it, with nothing pending, or marked; for lines that there are. -/
namespace Go.Proofs.YtiefgmibgdidpaaGreatDoor
open Go.RowKit
set_option linter.unusedVariables false
attribute [local go_sem ↓] Go.wp_at_zero Go.wp_at_succ

theorem size27 : (Tryz.prog.info? 27).map (·.size) = some 1 := by kernel_rfl
/-- copy into a row that is known whole, at a step of a region that draws its order. -/
theorem step_copy_set {ops : Array Oper} {o : Oper} {a : Act} {w : World} {K : Act → World → Prop} {Q : Exit → Act → World → Prop} {E : Prop} (hgd : o.guard = none) (d s : Operand) (dT sT : TypeId)
    (ho : o.op = .call { callee := .builtin .copy, args := #[d, s], argTypes := #[dT, sT] }) (elem : TypeId) (hu : Tryz.prog.underlying dT = some (.slice elem)) (hsz : (Tryz.prog.info? elem).map (·.size) = some 1)
    (ad : Addr) (dLen dCap sLen sCap : Nat) (g off : Nat) (hd : a.eval d = .slice (some ⟨g, off, none⟩) dLen dCap) (hs : a.eval s = .slice (some ad) sLen sCap)
    (cur : List Value) (t : TypeId) (hg : w.heap[g]? = some (.cells cur.toArray t (0, 0))) (cs : List Value) (hn : cs.length = Nat.min sLen dLen) (h0 : 0 < cs.length)
    (hsrc : ∀ j v, cs[j]? = some v → w.cell? (ad.add j) = some v) (hfit : off + cs.length ≤ cur.length) (h1 : ∀ v ∈ cs, v.oneCell' = true)
    (h : ∀ w', w'.heap[g]? = some (.cells (splice cur off cs).toArray t (0, 0)) → But w w' (fun k => k = g) → K (a.put o.dst (goInt cs.length)) w') :
    if Region.wanted o (yielded ops a.tmps) = true then Oper.wp Tryz.prog o a w K Q else E := by
  have hw : Region.wanted o (yielded ops a.tmps) = true := by simp [Region.wanted, hgd]
  rw [if_pos hw]
  have hrun := run_copy_row (P := Tryz.prog) w dT sT o.type elem g off dLen dCap ad sLen sCap cur.toArray t cs hu hsz hg hn hsrc (by simpa using hfit) h1
  unfold Oper.wp
  simp [execOp, ho, resolve, invoke, builtin, hd, hs, hrun, Result.andThen]
  exact h _ (show _ = _ by simpa [splice] using setRow_heap w g _ _ t _ hg) ⟨rfl, rfl, rfl, by simp, fun k hk hn => setRow_other w g k _ hn⟩

/-- The state behind it. -/
def loseV (las vie : List Nat) (i : Nat) : List Nat := vie.mapIdx fun k x => if k / 8 = i then las.getD k 0 else x
def St.lose (s : St) (i : Nat) : St := { s with view := loseV s.lasted s.view i, pend := s.pend.set i [], mm := upd s.mm i fun _ => 0 }
end Go.Proofs.YtiefgmibgdidpaaGreatDoor
