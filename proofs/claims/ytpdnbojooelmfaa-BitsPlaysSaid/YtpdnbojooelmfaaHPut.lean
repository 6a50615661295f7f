/- The set's functions that change it: Put, Take, Drop; and Copy, All, NewFree: what each answers, and which set it leaves; for sets of at most 10^9 addresses (All, NewFree: of at most twelve). -/
import Derived.Test.YtpdnbojooelmfaaHFree
namespace Go.Proofs.Ytpdnbojooelmfaa
open Go.RowKit
set_option linter.unusedVariables false
theorem errno0 (w : World) : True := trivial
def LeftSet (w : World) (g : Nat) (v : Value) (s : List Nat) (w' : World) : Prop := ∃ v', SetAt w' g s v' ∧ FTurn w w' g v v'
theorem put_nil (a : Nat) (w : World) : Calls Try.prog 8 #[.pointer none, wv a] w fun e w' => e = .returned (.int .i64 1) ∧ w = w' := by
  unfold wv
  go_enter Try.func8, Try.ntmps8
  go_wp2
  go_ret
  exact ⟨rfl, rfl⟩
theorem put_zero (g : Nat) (w : World) : Calls Try.prog 8 #[.pointer (some ⟨g, 0, none⟩), wv 0] w fun e w' => e = .returned (.int .i64 2) ∧ w = w' := by
  unfold wv
  show Calls Try.prog 8 #[.pointer (some ⟨g, 0, none⟩), .int .u64 0] w _
  go_enter Try.func8, Try.ntmps8
  go_wp2
  go_ret
  exact ⟨rfl, rfl⟩
set_option maxRecDepth 100000 in
set_option maxHeartbeats 1000000 in
theorem put_any {w : World} {g : Nat} {v : Value} {s : List Nat} (hS : SetAt w g s v) (hl : s.length ≤ 999999999) {a : Nat} (h0 : a ≠ 0) :
    Calls Try.prog 8 #[.pointer (some ⟨g, 0, none⟩), wv a] w fun e w' => e = .returned (.int .i64 0) ∧ LeftSet w g v (if a ∈ s then s else a :: s) w' := by
  have HH := Lib.hid (has_any hS (by omega) a)
  have hz : ((a : Int) == 0) = false := by rw [Bool.eq_false_iff]; intro h; have := beq_iff_eq.1 h; omega
  by_cases ha : a ∈ s
  · rw [if_pos ha]
    rw [decide_eq_true ha] at HH
    have HS := Lib.hid hS
    clear hS ha hl
    unfold wv at HH ⊢
    go_enter Try.func8, Try.ntmps8
    go_wp2_with fail
    refine HH.out.mono ?_
    rintro e w1 ⟨rfl, hb⟩
    have HE := Lib.hid (show LeftSet w g v s w1 from ⟨v, HS.out.below hb, FTurn.of_below g v hb⟩)
    clear hb
    go_wp2
    go_ret
    exact ⟨rfl, HE.out⟩
  · rw [if_neg ha]
    rw [decide_eq_false ha] at HH
    have HS := Lib.hid hS
    have HL := Lib.hid hl
    clear hS ha hl
    unfold wv at HH ⊢
    go_enter Try.func8, Try.ntmps8
    go_wp2_with fail
    refine HH.out.mono ?_
    rintro e w1 ⟨rfl, hb⟩
    obtain ⟨l, hF, hhp, hp⟩ := HS.out.below hb
    have HB := Lib.hid (FTurn.of_below g v hb)
    have hps := push_heap hhp a
    have HP := Lib.hid (hPush_any hF (by have := HL.out; have := hp.length_eq; omega) a)
    have HQ := Lib.hid (show HeapP (upF (l ++ [a]) l.length) (upF (l ++ [a]) l.length).length ∧ (upF (l ++ [a]) l.length).Perm (a :: s) from ⟨by rw [hps.2.2]; exact hps.1, hps.2.1.trans (hp.cons a)⟩)
    clear hF hhp hp hps hb
    unfold wv at HP
    go_wp2_with fail
    refine HP.out.mono ?_
    rintro e w2 ⟨rfl, v2, hF2, hT2⟩
    have HE := Lib.hid (show LeftSet w g v (a :: s) w2 from ⟨v2, ⟨_, hF2, HQ.out⟩, HB.out.trans hT2⟩)
    clear hF2 hT2
    go_wp2
    go_ret
    exact ⟨rfl, HE.out⟩
theorem assertA2 (x : Int) (w : World) : (Instr.typeAssert (.iface 32 (.int .u64 x)) 20 32 true).run Try.prog w = .ok (.tuple #[.int .u64 x, .bool true]) w := assertA x w
theorem take_nil (w : World) : Calls Try.prog 9 #[.pointer none] w fun e w' => e = .returned (.tuple #[.int .u64 0, .bool false]) ∧ w = w' := by
  go_enter Try.func9, Try.ntmps9
  go_wp2_with fail
  refine (len_nil _).mono ?_
  rintro e w1 ⟨rfl, rfl⟩
  go_wp2
  go_ret2
  exact ⟨rfl, rfl⟩
theorem take_none {w : World} {g : Nat} {v : Value} (hS : SetAt w g [] v) : Calls Try.prog 9 #[.pointer (some ⟨g, 0, none⟩)] w fun e w' => e = .returned (.tuple #[.int .u64 0, .bool false]) ∧ w = w' := by
  have HL := Lib.hid (len_any hS (by simp))
  clear hS
  go_enter Try.func9, Try.ntmps9
  go_wp2_with fail
  refine HL.out.mono ?_
  rintro e w1 ⟨rfl, rfl⟩
  go_wp2
  go_ret2
  exact ⟨rfl, rfl⟩
set_option maxRecDepth 100000 in
set_option maxHeartbeats 1000000 in
theorem take_any {w : World} {g : Nat} {v : Value} {s : List Nat} (hS : SetAt w g s v) (hl : s.length ≤ 1000000000) {m : Nat} (hm : m ∈ s) (hmin : ∀ x ∈ s, m ≤ x) :
    Calls Try.prog 9 #[.pointer (some ⟨g, 0, none⟩)] w fun e w' => e = .returned (.tuple #[wv m, .bool true]) ∧ LeftSet w g v (s.erase m) w' := by
  have HL := Lib.hid (len_any hS hl)
  have hpos : 0 < s.length := List.length_pos_of_mem hm
  have hz : ((s.length : Int) == 0) = false := by rw [Bool.eq_false_iff]; intro h; have := beq_iff_eq.1 h; omega
  obtain ⟨l, hF, hhp, hp⟩ := hS
  have hlen := hp.length_eq
  have hph := pop_heap hhp (by omega)
  have hg : gd l 0 = m := by
    have h1 : gd l 0 ∈ s := hp.mem_iff.1 (gd_mem (by omega))
    have h2 := hmin _ h1
    obtain ⟨j, hj, hjm⟩ := mem_gd.1 (hp.mem_iff.2 hm)
    have h3 := heap_min hhp hj
    omega
  have HP := Lib.hid (hPop_any hF (by omega) (by omega))
  rw [hph.2.1, hg] at HP
  have hq : ((popF l).take (l.length - 1)).Perm (s.erase m) := by
    have h1 : (m :: (popF l).take (l.length - 1)).Perm s := by rw [← hg]; exact hph.2.2.2.trans hp
    exact (List.perm_cons m).1 (h1.trans (List.perm_cons_erase hm))
  have hql : ((popF l).take (l.length - 1)).length = l.length - 1 := by rw [List.length_take, hph.1]; omega
  have HQ := Lib.hid (show HeapP ((popF l).take (l.length - 1)) ((popF l).take (l.length - 1)).length ∧ ((popF l).take (l.length - 1)).Perm (s.erase m) from ⟨by rw [hql]; exact hph.2.2.1, hq⟩)
  have hta := assertA (m : Int)
  clear hF hhp hp hlen hph hg hq hql hm hmin hl
  generalize s.length = n at *
  unfold wv at HP ⊢
  go_enter Try.func9, Try.ntmps9
  go_wp2_with fail
  refine HL.out.mono ?_
  rintro e w1 ⟨rfl, rfl⟩
  go_wp2_with fail
  refine HP.out.mono ?_
  rintro e w2 ⟨rfl, v2, hF2, hT2⟩
  have HE := Lib.hid (show LeftSet w g v (s.erase m) w2 from ⟨v2, ⟨_, hF2, HQ.out⟩, hT2⟩)
  clear hF2 hT2
  go_wp2
  go_ret2
  exact ⟨rfl, HE.out⟩
theorem drop_nil (a : Nat) (w : World) : Calls Try.prog 11 #[.pointer none, wv a] w fun e w' => e = .returned (.bool false) ∧ Below w.heap.size w w' := by
  have HP := Lib.hid (place_nil a w)
  unfold wv at HP ⊢
  go_enter Try.func11, Try.ntmps11
  go_wp2_with fail
  refine HP.out.mono ?_
  rintro e w1 ⟨rfl, hb⟩
  have HB := Lib.hid hb
  clear hb
  go_wp2
  go_ret
  exact ⟨rfl, HB.out⟩
set_option maxRecDepth 100000 in
set_option maxHeartbeats 1000000 in
theorem drop_any {w : World} {g : Nat} {v : Value} {s : List Nat} (hS : SetAt w g s v) (hl : s.length ≤ 1000000000) (a : Nat) :
    Calls Try.prog 11 #[.pointer (some ⟨g, 0, none⟩), wv a] w fun e w' => e = .returned (.bool (decide (a ∈ s))) ∧ LeftSet w g v (s.erase a) w' := by
  obtain ⟨l, hF, hhp, hp, hlen, hd⟩ := hS.place hl a
  have HP := Lib.hid (place_any hF (by omega) a)
  by_cases ha : a ∈ l
  · obtain ⟨k, hk, hkl, hgk⟩ := idx_yes ha
    rw [hk, decide_eq_true ha] at HP
    rw [← hd, decide_eq_true ha]
    have hr := rem_heap hhp hkl
    have hq : ((remF l k).take (l.length - 1)).Perm (s.erase a) := by
      have h1 : (a :: (remF l k).take (l.length - 1)).Perm s := by rw [← hgk]; exact hr.2.2.2.trans hp
      exact (List.perm_cons a).1 (h1.trans (List.perm_cons_erase (hp.mem_iff.1 ha)))
    have hql : ((remF l k).take (l.length - 1)).length = l.length - 1 := by rw [List.length_take, hr.1]; omega
    have HQ := Lib.hid (show HeapP ((remF l k).take (l.length - 1)) ((remF l k).take (l.length - 1)).length ∧ ((remF l k).take (l.length - 1)).Perm (s.erase a) from ⟨by rw [hql]; exact hr.2.2.1, hq⟩)
    have HF := Lib.hid hF
    have HK := Lib.hid hkl
    have HN := Lib.hid (show l.length ≤ 1000000000 by omega)
    clear hF hhp hp hlen hd hr hq hql hk hgk ha hl hS hkl
    unfold wv at HP ⊢
    go_enter Try.func11, Try.ntmps11
    go_wp2_with fail
    refine HP.out.mono ?_
    rintro e w1 ⟨rfl, hb⟩
    have HR := Lib.hid (hRemove_any (HF.out.below hb) HK.out (by have := HN.out; omega))
    have HB := Lib.hid (FTurn.of_below g v hb)
    clear hb
    go_wp2_with fail
    refine HR.out.mono ?_
    rintro e w2 ⟨rfl, v2, hF2, hT2⟩
    have HE := Lib.hid (show LeftSet w g v (s.erase a) w2 from ⟨v2, ⟨_, hF2, HQ.out⟩, HB.out.trans hT2⟩)
    clear hF2 hT2
    go_wp2
    go_ret
    exact ⟨rfl, HE.out⟩
  · rw [idx_no ha, decide_eq_false ha] at HP
    rw [← hd, decide_eq_false ha]
    have he : s.erase a = s := List.erase_of_not_mem (fun h => ha (hp.mem_iff.2 h))
    rw [he]
    have HS := Lib.hid hS
    clear hF hhp hp hlen hd ha hl hS he
    unfold wv at HP ⊢
    go_enter Try.func11, Try.ntmps11
    go_wp2_with fail
    refine HP.out.mono ?_
    rintro e w1 ⟨rfl, hb⟩
    have HE := Lib.hid (show LeftSet w g v s w1 from ⟨v, HS.out.below hb, FTurn.of_below g v hb⟩)
    clear hb
    go_wp2
    go_ret
    exact ⟨rfl, HE.out⟩
end Go.Proofs.Ytpdnbojooelmfaa
