/- SiteNil, walked: what is answered of no site, no memory, no step, and zero ones. -/
import Derived.Test.YtedefebdfcgjeaaSiG
import Derived.Test.YtedefebdfcgjeaaSiK
namespace Go.Proofs.Ytedefebdfcgjeaa
open Go.RowKit Go.Shelf
set_option linter.unusedVariables false
theorem whole_nomem {w : World} {p : Option Addr} (h : NoMem w p) (F : Value) (most : Int) : Calls Try.prog 10 #[.pointer p, F, .int .i64 most] w fun e w' => e = .returned (.tuple #[.int .i64 0, .bool false, .int .i64 1]) ∧ w = w' := by
  have H := Lib.hid (size_no h)
  clear h
  go_enter Try.func10, Try.ntmps10
  go_wp2_with fail
  go_step3
  go_wp2_with fail
  refine H.out.mono ?_
  rintro e w1 ⟨rfl, rfl⟩
  go_wp2
  (try rw [Exit.noGoto_ret])
  go_ret3
  exact ⟨rfl, rfl⟩
theorem whole_nostep {w : World} {y : Lay} {s : St} (h : MemAt w y s) (most : Int) : Calls Try.prog 10 #[.pointer (some ⟨y.g, 0, none⟩), .nilFunc, .int .i64 most] w fun e w' => e = .returned (.tuple #[.int .i64 0, .bool false, .int .i64 1]) ∧ w = w' := by
  have hnil : ∀ w : World, (binOp BinOp.eql 38 .nilFunc .nilFunc).run Try.prog w = .ok (.bool true) w := fun _ => by kernel_rfl
  have HZ := Lib.hid (size_yes h)
  have hpos := h.pos
  have hnz : (((64 * s.nl : Nat) : Int) == 0) = false := by rw [Bool.eq_false_iff]; intro k; have := beq_iff_eq.1 k; omega
  obtain ⟨N, hN⟩ : ∃ N : Int, N = ((64 * s.nl : Nat) : Int) := ⟨_, rfl⟩
  rw [← hN] at HZ hnz
  clear hN hpos h
  go_enter Try.func10, Try.ntmps10
  go_wp2_with fail
  go_step3
  go_wp2_with fail
  refine HZ.out.mono ?_
  rintro e w1 ⟨rfl, rfl⟩
  go_wp2
  (try rw [Exit.noGoto_ret])
  go_ret3
  exact ⟨rfl, rfl⟩
set_option maxRecDepth 100000 in
set_option maxHeartbeats 3200000 in
theorem siteNil_any (w : World) : Calls Try.prog 5 #[] w fun e w' => e = .returned (.bool true) ∧ Below w.heap.size w w' := by
  have HK := Lib.hid fun W => known13_any W
  have HN := Lib.hid (show Calls Try.prog 8 #[.int .i64 64] w (NewPost 1 w) from new_yes 1 w (by decide) (by decide))
  go_enter Try.func5, Try.ntmps5
  go_wp2_with fail
  refine HN.out.mono ?_
  rintro e w1 ⟨y, rfl, hm1, hfp, hb1⟩
  have HM1 := Lib.hid hm1
  have HB1 := Lib.hid hb1
  clear hm1 hfp hb1 HN
  obtain ⟨g, hg⟩ : ∃ g, g = y.g := ⟨_, rfl⟩
  rw [← hg]
  have HG := Lib.hid hg
  clear hg
  go_wp2_with fail
  obtain ⟨W2, hW2⟩ : ∃ W2, W2 = w1.alloc (.cells #[.pointer none, .pointer none, .pointer none] 50) := ⟨_, rfl⟩
  obtain ⟨W3, hW3⟩ : ∃ W3, W3 = W2.alloc (.cells #[.slice none 0 0, .slice none 0 0, .slice none 0 0, .map none, .int .u64 0, .int .u64 0, .int .u64 0, .int .u64 0] 55) := ⟨_, rfl⟩
  obtain ⟨W4, hW4⟩ : ∃ W4, W4 = W3.alloc (.cells #[.pointer (some ⟨g, 0, none⟩), .slice none 0 0, .int .i64 0] 35) := ⟨_, rfl⟩
  rw [← hW2, ← hW3, ← hW4]
  have z2 : W2.heap.size = w1.heap.size + 1 := by rw [hW2]; simp
  have z3 : W3.heap.size = w1.heap.size + 1 + 1 := by rw [hW3]; simp [z2]
  have hs4 : SiteAt W4 w1.heap.size none none none := by rw [hW4, hW3]; exact Row.alloc (Row.alloc (by rw [hW2]; exact Row.new _ _ _) _) _
  have hz4 : NoMem W4 (some ⟨w1.heap.size + 1, 0, none⟩) := .inr ⟨_, rfl, by rw [hW4, ← z2]; exact Row.alloc (by rw [hW3]; exact Row.new _ _ _) _⟩
  have hr4 : Row W4 (w1.heap.size + 1 + 1) 35 (rcell g none 0 0 0) := by rw [hW4, ← z3]; exact Row.new _ _ _
  have hB4 : Below w1.heap.size w1 W4 := by
    rw [hW4, hW3, hW2]
    exact Below.and (Below.and (alloc_below _ _) (alloc_below _ _)) (alloc_below _ _)
  have HS4 := Lib.hid hs4
  have HZ4 := Lib.hid hz4
  have HR4 := Lib.hid hr4
  have HM4 := Lib.hid (HM1.out.below hB4)
  have HBW := Lib.hid (HB1.out.trans (hB4.mono HB1.out.size))
  clear hs4 hz4 hr4 hB4 z2 z3 hW2 hW3 hW4 HM1
  refine (whole_nomem (.inl rfl) _ 5).mono ?_
  rintro e w' ⟨rfl, rfl⟩
  have HW := Lib.hid (whole_nostep HM4.out 5)
  rw [← HG.out] at HW
  go_wp2_with fail
  refine HW.out.mono ?_
  rintro e w' ⟨rfl, rfl⟩
  go_wp2_with fail
  refine (whole_nomem HZ4.out _ 5).mono ?_
  rintro e w' ⟨rfl, rfl⟩
  go_wp2_with fail
  refine (siDrop_of (siLocks_nil _) (kdrop_no (.inl rfl) 0)).mono ?_
  rintro e w5 ⟨rfl, hb5⟩
  have HB5 := Lib.hid hb5
  have HS5 := Lib.hid (show SiteAt w5 w1.heap.size none none none from Row.below HS4.out hb5 HS4.out.lt)
  have HR5 := Lib.hid (HR4.out.below hb5 HR4.out.lt)
  clear hb5
  go_wp2_with fail
  refine (siDrop_of (siLocks_yes HS5.out) (kdrop_no (.inl rfl) 0)).mono ?_
  rintro e w6 ⟨rfl, hb6⟩
  have HS6 := Lib.hid (show SiteAt w6 w1.heap.size none none none from Row.below HS5.out hb6 HS5.out.lt)
  have hr6 := HR5.out.below hb6 HR5.out.lt
  have c2 := hr6.cell 2
  simp only [rcell, List.getElem?_toArray, List.getElem?_cons_succ, List.getElem?_cons_zero] at c2
  have HB6 := Lib.hid (HBW.out.trans ((Below.and HB5.out hb6).mono HBW.out.size))
  clear hb6 hr6
  go_wp2_with fail
  refine (siMem_nil _).mono ?_
  rintro e w' ⟨rfl, rfl⟩
  go_wp2_with fail
  refine (siSlab_nil _).mono ?_
  rintro e w' ⟨rfl, rfl⟩
  go_wp2_with fail
  refine (siLocks_nil _).mono ?_
  rintro e w' ⟨rfl, rfl⟩
  go_wp2_with fail
  refine (siMem_yes HS6.out).mono ?_
  rintro e w' ⟨rfl, rfl⟩
  go_wp2_with fail
  refine (siLocks_yes HS6.out).mono ?_
  rintro e w' ⟨rfl, rfl⟩
  go_wp2_with fail
  refine (siClients_of (siLocks_nil _) (clients_no (.inl rfl))).mono ?_
  rintro e w' ⟨rfl, rfl⟩
  go_wp2_with fail
  refine (siClients_of (siLocks_yes HS6.out) (clients_no (.inl rfl))).mono ?_
  rintro e w' ⟨rfl, rfl⟩
  go_wp2_with fail
  refine (HK.out _).mono ?_
  rintro e w7 ⟨rfl, hb7⟩
  have HB7 := Lib.hid (HB6.out.trans (hb7.mono HB6.out.size))
  clear hb7
  go_wp2
  go_ret
  exact ⟨rfl, HB7.out⟩
end Go.Proofs.Ytedefebdfcgjeaa
