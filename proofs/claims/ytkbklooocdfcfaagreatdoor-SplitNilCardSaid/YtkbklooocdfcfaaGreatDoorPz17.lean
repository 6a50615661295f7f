/- Texts of this claim, packed: PCrash, PNo, PLook, POk, PLoad, Lds. -/
import Derived.Test.YtkbklooocdfcfaaGreatDoorPz15
import Derived.Test.YtkbklooocdfcfaaGreatDoorPz16
import Derived.Test.YtkbklooocdfcfaaGreatDoorPz12
import Derived.Test.YtkbklooocdfcfaaGreatDoorPz11
import Derived.BigQuiet
set_option linter.unusedVariables false
set_option maxRecDepth 100000
set_option maxHeartbeats 6400000
namespace Go.Proofs.YtkbklooocdfcfaaGreatDoor
open Go.RowKit Go.Shelf
attribute [local go_sem] Oper.semAt_some
end Go.Proofs.YtkbklooocdfcfaaGreatDoor
namespace Go.Proofs.YtkbklooocdfcfaaGreatDoor
open Go.RowKit
theorem zero_Ok (nl : Nat) : (St.zero nl).Ok := by
 refine ⟨?_, ?_, ?_, ?_, ?_, ?_⟩
 ·intro x hx
  rw [List.eq_of_mem_replicate hx]
  decide
 ·intro x hx
  rw [List.eq_of_mem_replicate hx]
  decide
 ·intro j l hl p hp
  rw [List.eq_of_mem_replicate (List.mem_of_getElem? hl)] at hp
  cases hp
 ·intro l hl
  rw [List.eq_of_mem_replicate hl]
  decide
 ·intro j c
  exact Nat.zero_le _
 ·exact ⟨(by decide : 0 < 9223372036854775808), (by decide : 0 < 9223372036854775808), (by decide : 0 < 9223372036854775808), (by decide : 0 < 9223372036854775808)⟩
theorem store_Ok {s : St} (ok : s.Ok) {a v : Nat} (h8 : a % 8 = 0) (ha : a / 64 < s.pend.length) (hv : v < 18446744073709551616) (hst : s.st + 1 < 9223372036854775808) (hn : (s.pend.getD (a / 64) []).length + 1 <= 1000000000) : (s.store a v).Ok := by
 have hgi := getD_at (d := ([] : List (Nat × Nat))) ha
 refine ⟨ok.las, ?_, ?_, ?_, ?_, ⟨ok.num.1, hst, ok.num.2.2⟩⟩
 ·intro x hx
  rcases List.mem_or_eq_of_mem_set hx with h | rfl
  ·exact ok.vie x h
  ·exact hv
 ·intro j l hl p hp
  have hl' : (s.pend.set (a / 64) (s.pend.getD (a / 64) [] ++ [(a, v)]))[j]? = some l := hl
  rw [List.getElem?_set] at hl'
  by_cases e : a / 64 = j
  ·rw [if_pos e, if_pos ha] at hl'
   cases hl'
   rcases List.mem_append.1 hp with h | h
   ·rw [hgi] at h
    rw [<- e]
    exact ok.put _ _ (List.getElem?_eq_getElem ha) p h
   ·have : p = (a, v) := by simpa using h
    subst this
    exact ⟨h8, e, hv⟩
  ·rw [if_neg e] at hl'
   exact ok.put j l hl' p hp
 ·intro l hl
  rcases List.mem_or_eq_of_mem_set hl with h | h
  ·exact ok.few l h
  ·rw [h, List.length_append]
   simpa using hn
 ·intro j c
  show s.mm j c <= ((s.pend.set (a / 64) (s.pend.getD (a / 64) [] ++ [(a, v)])).getD j []).length
  rw [set_getD ha]
  have := ok.mks j c
  by_cases e : j = a / 64
  ·rw [if_pos e, List.length_append, <- e]
   omega
  ·rw [if_neg e]
   exact this
theorem flush_Ok {s : St} (ok : s.Ok) {c a : Nat} (hfl : s.fl + 1 < 9223372036854775808) : (s.flush c a).Ok := by
 refine ⟨ok.las, ok.vie, ok.put, ok.few, ?_, ⟨ok.num.1, ok.num.2.1, hfl, ok.num.2.2.2⟩⟩
 intro j q
 show (if (s.pend.getD (a / 64) []).length = 0 then s.mm else upd s.mm (a / 64) fun k => if k = c then (s.pend.getD (a / 64) []).length else s.mm (a / 64) k) j q <= (s.pend.getD j []).length
 by_cases h0 : (s.pend.getD (a / 64) []).length = 0
 ·rw [if_pos h0]
  exact ok.mks j q
 ·rw [if_neg h0]
  unfold upd
  by_cases e : j = a / 64
  ·rw [if_pos e]
   by_cases e2 : q = c
   ·rw [if_pos e2, e]
    exact Nat.le_refl _
   ·rw [if_neg e2, e]
    exact ok.mks _ q
  ·rw [if_neg e]
   exact ok.mks j q
theorem fence_Ok {s : St} (ok : s.Ok) {c : Nat} (hfe : s.fe + 1 < 9223372036854775808) : (s.fence c).Ok :=
 fenV_ok (s := { s with fe := s.fe + 1 }) ⟨ok.las, ok.vie, ok.put, ok.few, ok.mks, ⟨ok.num.1, ok.num.2.1, ok.num.2.2.1, hfe⟩⟩ c _
def k1 : St := (St.zero 2).store 0 1
def k2 : St := k1.store 8 2
def k3 : St := k2.flush 0 0
def k4 : St := k3.store 0 3
def k5 : St := k4.fence 0
def k6 : St := k5.store 64 5
def k7 : St := k6.crash [0, 1]
def AnsPost (w : World) (y : Lay) (s' : St) (v : Value) (e : Ending) (w' : World) : Prop := e = .returned v /\ ∃ y', MemAt w' y' s' /\ Turn w w' y y'
theorem load_range {w : World} {y : Lay} {s : St} (h : MemAt w y s) (a : Nat) (ha : a % 8 ≠ 0 \/ 64 * s.nl <= a) : Calls Tryz.prog 94 #[.pointer (some ⟨y.g, 0, none⟩), .int .u64 (a : Int)] w fun e w' => e = .returned (.tuple #[.int .u64 0, .int .i64 3]) /\ w = w' := by
 have H := Lib.hid (refused_range h a ha)
 obtain ⟨g, hg⟩ : ∃ g, g = y.g := ⟨_, rfl⟩
 rw [<- hg] at H ⊢
 clear h ha hg
 go_enter Tryz.func94, Tryz.ntmps94
 go_wp2_with fail
 refine H.out.mono ?_
 rintro e w1 ⟨rfl, rfl⟩
 go_wp2
 go_ret2
 exact ⟨rfl, rfl⟩
theorem load_okY {w : World} {y : Lay} {s : St} (h : MemAt w y s) (ok : s.Ok) (a : Nat) (h8 : a % 8 = 0) (ha : a < 64 * s.nl) :
  Calls Tryz.prog 94 #[.pointer (some ⟨y.g, 0, none⟩), .int .u64 (a : Int)] w fun e w' => e = .returned (.tuple #[.int .u64 ((s.view.getD (a / 8) 0 : Nat) : Int), .int .i64 0]) /\ MemAt w' y { s with ld := s.ld + 1 } /\ Turn w w' y y := by
 have HR := Lib.hid (refused_ok h a h8 ha)
 have hmost := h.most
 have hd := h.differ
 have c1 := h.row.cell 1
 have c4 := h.row.cell 4
 simp only [List.getElem?_toArray, List.getElem?_cons_succ, List.getElem?_cons_zero] at c1 c4
 have f4 := h.row.free 4
 have hld := ok.num.1
 have hvl : a / 8 < s.view.length := by have := ownsRow_len h.vie; omega
 obtain ⟨W0, hW0⟩ : ∃ W0, W0 = w.setCell ⟨y.g, 4, none⟩ (wv (s.ld + 1)) := ⟨_, rfl⟩
 have hm0 : MemAt W0 y { s with ld := s.ld + 1 } := by
  rw [hW0]
  exact mem_marks h rfl rfl rfl rfl (h.row.set 4 _) (fun k _ h1 _ => heap_setCell_other _ _ _ _ h1) (h.marks.same (heap_setCell_other _ _ _ _ (Ne.symm hd.g_mb)))
 have ht0 : Turn w W0 y y := by
  rw [hW0]
  exact ⟨rfl, (But.refl w _).set (p := ⟨y.g, 4, none⟩) (.inl rfl) _, fun _ h => .inl h⟩
 have hv : W0.cell? ⟨y.gv, a / 8, none⟩ = some (.int .u64 ((s.view.getD (a / 8) 0 : Nat) : Int)) := by
  rw [hW0, cell_far hd.g_gv, h.vie.cellAt (a / 8) (by omega), List.getElem?_map, List.getElem?_eq_getElem hvl, getD_at hvl]
  rfl
 have d1 : W0.cell? ⟨y.g, 1, none⟩ = some (.slice (some ⟨y.gv, 0, none⟩) (8 * s.nl) y.cv) := by
  rw [hW0, cell_else (by decide)]
  exact c1
 unfold wv at c4
 rw [show wv (s.ld + 1) = .int .u64 ((s.ld : Int) + 1) from rfl] at hW0
 have HM := Lib.hid hm0
 have HT := Lib.hid ht0
 obtain ⟨N, hN⟩ : ∃ N, N = 8 * s.nl := ⟨_, rfl⟩
 rw [<- hN] at d1
 have ebN : (a : Int) / 8 < (N : Int) := by omega
 have haB : a < 1048576 := by omega
 obtain ⟨u, hu⟩ : ∃ u, u = s.view.getD (a / 8) 0 := ⟨_, rfl⟩
 rw [<- hu] at hv ⊢
 clear hm0 ht0 c1 hvl ok hN hd h hu h8 ha
 subst hW0
 go_enter Tryz.func94, Tryz.ntmps94
 go_wp2_with fail
 refine HR.out.mono ?_
 rintro e w1 ⟨rfl, rfl⟩
 go_wp2
 go_ret2
 exact ⟨rfl, HM.out, HT.out⟩
theorem load_ok {w : World} {y : Lay} {s : St} (h : MemAt w y s) (ok : s.Ok) (a : Nat) (h8 : a % 8 = 0) (ha : a < 64 * s.nl) :
  Calls Tryz.prog 94 #[.pointer (some ⟨y.g, 0, none⟩), .int .u64 (a : Int)] w (AnsPost w y { s with ld := s.ld + 1 } (.tuple #[.int .u64 ((s.view.getD (a / 8) 0 : Nat) : Int), .int .i64 0])) :=
 (load_okY h ok a h8 ha).mono fun _ _ ⟨e, hm, ht⟩ => ⟨e, y, hm, ht⟩
structure Lds (nl n : Nat) (s : St) : Prop where
 nls : s.nl = nl
 ok : s.Ok
 pl : s.pend.length = nl
 few : ∀ j, (s.pend.getD j []).length <= n
 vl : s.view.length = 8 * nl
 num : s.ld <= n /\ s.st <= n /\ s.fl <= n /\ s.fe <= n
section
variable {nl n : Nat} {s : St}
theorem Lds.mono (h : Lds nl n s) {m : Nat} (hm : n <= m) : Lds nl m s :=
 ⟨h.nls, h.ok, h.pl, fun j => Nat.le_trans (h.few j) hm, h.vl, Nat.le_trans h.num.1 hm, Nat.le_trans h.num.2.1 hm, Nat.le_trans h.num.2.2.1 hm, Nat.le_trans h.num.2.2.2 hm⟩
end
end Go.Proofs.YtkbklooocdfcfaaGreatDoor
