/- Texts of this claim, packed: SiT. -/
import Derived.Test.YtedefebdfcgjeaaGreatDoorPq28
import Derived.Defers
import Derived.Shelf.Abstract
import Derived.Recover
import Derived.Laws.EntriesVeiled
/- told, primitives, meter: how a machine's steps are done and counted; for any step that returns. -/
namespace Go.Proofs.YtedefebdfcgjeaaGreatDoor
open Go.RowKit Go.Shelf
set_option linter.unusedVariables false

theorem told1_idle (w : World) : CallsD Tryz.prog 79 #[] .returning w fun e u' w' => e = .returned (.tuple #[]) ∧ u' = .returning ∧ w' = w := by
  refine callsD_of_wpS Tryz.func79 rfl fun c₀ cs hu => ?_
  apply wpS_region
  cases c₀
  simp_all [wpOpsS, go_sem, recoverD, hu, Tryz.ntmps79, Exit.thenS, bodyPostS, results, Tryz.results79]
theorem told_any {gf : Nat} {x : Value} (eg : ∀ (args : Array Value) (w : World), (callFunc gf args).run Tryz.prog w = .ok (.enter gf args) w) {w : World} {d : Bool} {k : Int} {Q : World → Prop}
    (h : Calls Tryz.prog gf #[x] w fun e w' => e = .returned (.tuple #[.bool d, .int .i64 k]) ∧ Q w') :
    Calls Tryz.prog 48 #[.func (.func gf) #[x] #[]] w fun e w' => e = .returned (.tuple #[.bool d, .int .i64 k]) ∧ Q w' := by
  have H := Lib.hid h
  clear h
  go_enter_defers Tryz.func48, Tryz.ntmps48
  go_wp2_with fail
  refine H.out.mono ?_
  rintro e w1 ⟨rfl, hq⟩
  have HQ := Lib.hid hq
  clear hq
  go_wp2
  refine leaves_cons (f := 79) (args := #[]) (by simp) (by simp [go_sem]) ?_
  refine (told1_idle _).mono ?_
  rintro e u' w'' ⟨rfl, rfl, rfl⟩
  simp [Leaves, settle, results, Tryz.results48, go_sem]
  exact HQ.out
theorem sret_u64 {a b : Int} (h : a = b) : Ending.returned (.int .u64 a) = .returned (.int .u64 b) := by rw [h]
theorem sret_bool {a b : Bool} (h : a = b) : Ending.returned (.bool a) = .returned (.bool b) := by rw [h]
theorem prim_any (a b c d : Nat) (w : World) (h : a + b + c + d < 18446744073709551616) :
    Calls Tryz.prog 77 #[.agg #[wv a, wv b, wv c, wv d]] w fun e w' => e = .returned (.int .u64 ((a + b + c + d : Nat) : Int)) ∧ Below w.heap.size w w' := by
  have e1 : (a : Int) + b ≤ 18446744073709551615 := by omega
  have e2 : (a : Int) + b + c ≤ 18446744073709551615 := by omega
  have e3 : (a : Int) + b + c + d ≤ 18446744073709551615 := by omega
  unfold wv
  go_enter Tryz.func77, Tryz.ntmps77
  go_wp2
  go_ret
  exact ⟨sret_u64 (by omega), alloc_below _ _⟩
/-- How many primitives a memory has done. -/
def St.tot (s : St) : Nat := s.ld + s.st + s.fl + s.fe
/-- What the closure that counts has: the number of the last time, and how to ask. -/
structure Mtr (w : World) (bl bs g L : Nat) : Prop where
  last : Row w bl 39 #[wv L]
  stats : Row w bs 104 #[.func (.func 47) #[.pointer (some ⟨g, 0, none⟩)] #[]]
theorem Mtr.ne {w : World} {bl bs g L : Nat} (h : Mtr w bl bs g L) : bl ≠ bs := by
  rintro rfl
  have h1 : w.heap[bl]? = _ := h.last
  have h2 : w.heap[bl]? = _ := h.stats
  rw [h1] at h2
  cases h2
theorem Mtr.but {w w' : World} {bl bs g L : Nat} {fp : Nat → Prop} (h : Mtr w bl bs g L) (hb : But w w' fp) (h1 : ¬ fp bl) (h2 : ¬ fp bs) : Mtr w' bl bs g L := ⟨hb.row h.last h1, hb.row h.stats h2⟩
theorem Mtr.below {w w' : World} {bl bs g L : Nat} (h : Mtr w bl bs g L) (hb : Below w.heap.size w w') : Mtr w' bl bs g L := ⟨h.last.below hb h.last.lt, h.stats.below hb h.stats.lt⟩
theorem stats_enter (args : Array Value) (w : World) : (callFunc 47 args).run Tryz.prog w = .ok (.enter 47 args) w := enters_of Tryz.func47 (by kernel_rfl) rfl args w
set_option maxHeartbeats 1000000 in
theorem several_any {w : World} {y : Lay} {s : St} {bl bs L : Nat} (h : MemAt w y s) (hs : s.tot < 18446744073709551616) (hm : Mtr w bl bs y.g L) (hL : L + 1 < 18446744073709551616) (hn : ¬ y.fp bl) :
    Calls Tryz.prog 78 #[.pointer (some ⟨bl, 0, none⟩), .pointer (some ⟨bs, 0, none⟩)] w fun e w' => e = .returned (.bool (decide (L + 1 < s.tot))) ∧ MemAt w' y s ∧ Mtr w' bl bs y.g s.tot ∧ But w w' (fun q => q = bl) := by
  have HS := Lib.hid fun W (hb : Below w.heap.size w W) => stats_yes (h.below hb)
  have HP := Lib.hid fun W => prim_any s.ld s.st s.fl s.fe W hs
  have c0 := hm.last.cell 0
  have f0 := hm.last.free 0
  have c1 := hm.stats.cell 0
  simp only [List.getElem?_toArray, List.getElem?_cons_zero] at c0 c1
  have HH := Lib.hid h
  have HM := Lib.hid hm
  have HN := Lib.hid hn
  have hbl := hm.last.lt
  have hne := hm.ne
  obtain ⟨g, hg⟩ : ∃ g, g = y.g := ⟨_, rfl⟩
  rw [← hg] at HS c1 HM
  obtain ⟨T, hT⟩ : ∃ T, T = s.tot := ⟨_, rfl⟩
  have HP' := Lib.hid fun W => (show Calls Tryz.prog 77 #[.agg #[wv s.ld, wv s.st, wv s.fl, wv s.fe]] W fun e w' => e = .returned (.int .u64 (T : Int)) ∧ Below W.heap.size W w' by rw [hT]; exact HP.out W)
  rw [← hT]
  have e1 : (L : Int) + 1 ≤ 18446744073709551615 := by omega
  have eg := stats_enter
  unfold wv at c0 HP' HS
  rw [← hg]
  have HT := Lib.hid hT
  have HG := Lib.hid hg
  clear h hm hn hs HP hT hg
  go_enter Tryz.func78, Tryz.ntmps78
  go_wp2_with fail
  refine (HS.out _ (Below.refl _ _)).mono ?_
  rintro e w1 ⟨rfl, hb1⟩
  have HB1 := Lib.hid hb1
  clear hb1
  go_wp2_with fail
  refine (HP'.out _).mono ?_
  rintro e w2 ⟨rfl, hb2⟩
  have hb3 := Below.and HB1.out hb2
  have HB3 := Lib.hid hb3
  have HM2 := Lib.hid (HM.out.below hb3)
  have HH2 := Lib.hid (HH.out.below hb3)
  have d0 := HM2.out.last.cell 0
  have d1 := HM2.out.last.free 0
  simp only [List.getElem?_toArray, List.getElem?_cons_zero] at d0
  unfold wv at d0
  clear hb2 hb3 c0 c1 f0
  go_wp2
  go_ret
  refine ⟨?_, ?_, ?_, ?_⟩
  · refine sret_bool ?_
    rw [Bool.eq_iff_iff]
    simp only [decide_eq_true_eq]
    omega
  · exact HH2.out.same fun k hk => heap_setCell_other _ _ _ _ (fun e => by cases e; exact HN.out hk)
  · refine ⟨?_, HM2.out.stats.other (fun e => hne e.symm) _⟩
    exact HM2.out.last.set 0 _
  · exact (But.of_below HB3.out (fun q => q = bl)).set (p := ⟨bl, 0, none⟩) rfl _
set_option maxHeartbeats 1000000 in
theorem meter_any {w : World} {y : Lay} {s : St} (h : MemAt w y s) (hs : s.tot < 18446744073709551616) :
    Calls Tryz.prog 46 #[.func (.func 47) #[.pointer (some ⟨y.g, 0, none⟩)] #[]] w fun e w' => ∃ bl bs, e = .returned (.func (.func 78) #[] #[.pointer (some ⟨bl, 0, none⟩), .pointer (some ⟨bs, 0, none⟩)]) ∧ Mtr w' bl bs y.g s.tot ∧ w.heap.size ≤ bl ∧ w.heap.size ≤ bs ∧ Below w.heap.size w w' := by
  have HS := Lib.hid fun W (hb : Below w.heap.size w W) => stats_yes (h.below hb)
  have HP := Lib.hid fun W => prim_any s.ld s.st s.fl s.fe W hs
  obtain ⟨g, hg⟩ : ∃ g, g = y.g := ⟨_, rfl⟩
  rw [← hg] at HS
  obtain ⟨T, hT⟩ : ∃ T, T = s.tot := ⟨_, rfl⟩
  have HP' := Lib.hid fun W => (show Calls Tryz.prog 77 #[.agg #[wv s.ld, wv s.st, wv s.fl, wv s.fe]] W fun e w' => e = .returned (.int .u64 (T : Int)) ∧ Below W.heap.size W w' by rw [hT]; exact HP.out W)
  rw [← hT]
  have eg := stats_enter
  rw [← hg]
  have HSs : Hid (∀ W, Below w.heap.size w W → _) := HS
  clear h hs HP hT hg HSs
  have hb0 := alloc_below w (.cells #[.func (.func 47) #[.pointer (some ⟨g, 0, none⟩)] #[]] 104)
  have r0 := Row.new w 104 #[.func (.func 47) #[.pointer (some ⟨g, 0, none⟩)] #[]]
  have HB0 := Lib.hid hb0
  have HR0 := Lib.hid r0
  clear hb0 r0
  go_enter Tryz.func46, Tryz.ntmps46
  go_wp2_with fail
  obtain ⟨W0, hW0⟩ : ∃ W0, W0 = w.alloc (.cells #[.func (.func 47) #[.pointer (some ⟨g, 0, none⟩)] #[]] 104) := ⟨_, rfl⟩
  rw [← hW0] at HB0 HR0 ⊢
  have hsz : w.heap.size < W0.heap.size := by rw [hW0]; simp
  clear hW0
  refine (HS.out _ HB0.out).mono ?_
  rintro e w1 ⟨rfl, hb1⟩
  have HB1 := Lib.hid hb1
  clear hb1
  unfold wv at HP'
  go_wp2_with fail
  refine (HP'.out _).mono ?_
  rintro e w2 ⟨rfl, hb2⟩
  have hb3 := Below.and HB1.out hb2
  have HB3 := Lib.hid (Below.and HB0.out hb3)
  have HR2 := Lib.hid (HR0.out.below hb3 hsz)
  have hsz2 := hb3.size
  clear hb2 hb3
  go_wp2
  go_ret
  refine ⟨w2.heap.size, w.heap.size, rfl, ⟨?_, HR2.out.alloc _⟩, HB3.out.size, Nat.le_refl _, Below.and HB3.out (alloc_below _ _)⟩
  exact Row.new w2 _ _
end Go.Proofs.YtedefebdfcgjeaaGreatDoor
