/- Texts of this claim, packed: PKnown. -/
import Derived.Test.YtkeajfedlhgejaaPc15
import Derived.Test.YtkeajfedlhgejaaPc28
/- known: the chapter's rows come out as it says; in any world. -/
namespace Go.Proofs.Ytkeajfedlhgejaa
open Go.RowKit
set_option linter.unusedVariables false
set_option maxRecDepth 100000 in
theorem b5a : (bytesL k5.lasted).length = 128 ∧ (bytesL k5.lasted)[0]? = some 1 ∧ (bytesL k5.lasted)[8]? = some 2 := by rw [k5_las]; decide
set_option maxRecDepth 100000 in
theorem b5v : (bytesL k5.view).length = 128 ∧ (bytesL k5.view)[0]? = some 3 := by rw [k5_vie]; decide
set_option maxRecDepth 100000 in
theorem b7a : (bytesL k7.lasted).length = 128 ∧ (bytesL k7.lasted)[0]? = some 1 ∧ (bytesL k7.lasted)[8]? = some 2 ∧ (bytesL k7.lasted)[64]? = some 5 := by rw [k7_las]; decide
/-- Bytes that a call handed out. -/
theorem bytes_out {w : World} {B : Nat} {l : List Nat} {v : Value} {n : Nat} (h : w.ownsRow B 5 1 v l.length (l.map bv)) (hl : l.length = n) (hn : 0 < n) : ∃ g c, v = .slice (some ⟨g, 0, none⟩) n c ∧ n ≤ c ∧ c ≤ maxLen ∧ Sl w (some ⟨g, 0, none⟩) (l.map bv) := by
  rw [hl] at h
  exact own_some h hn
theorem sl_at {w : World} {g i n : Nat} {l : List Nat} (h : Sl w (some ⟨g, 0, none⟩) (l.map bv)) (hi : l[i]? = some n) : w.cell? ⟨g, i, none⟩ = some (.int .u8 (n : Int)) := by
  obtain ⟨a, e, hc⟩ := h i (bv n) (by rw [List.getElem?_map, hi]; rfl)
  cases e
  rw [add_lit] at hc
  exact hc
set_option maxRecDepth 100000 in
set_option maxHeartbeats 3200000 in
theorem known_any (w : World) : Calls Try.prog 8 #[] w fun e w' => e = .returned (.bool true) ∧ Below w.heap.size w w' := by
  have HN : Calls Try.prog 24 #[.int .i64 128] w (NewPost 2 w) := new_yes 2 w (by decide) (by decide)
  go_enter Try.func8, Try.ntmps8
  go_wp2_with fail
  refine HN.mono ?_
  rintro e w1 ⟨y, rfl, hm1, hfp, hb1⟩
  clear HN
  have H1 := Lib.hid (show Calls Try.prog 18 #[.pointer (some ⟨y.g, 0, none⟩), .int .u64 0, .int .u64 1] w1 (StPost w1 y k1 0) from store_ok hm1 0 1 (by decide) (by decide) (by decide) (by decide) (by decide))
  go_wp2_with fail
  refine H1.out.mono ?_
  rintro e w2 ⟨rfl, y2, hm2, t2⟩
  have H2 := Lib.hid (show Calls Try.prog 18 #[.pointer (some ⟨y2.g, 0, none⟩), .int .u64 8, .int .u64 2] w2 (StPost w2 y2 k2 0) from store_ok hm2 8 2 (by decide) (by decide) (by decide) (by decide) (by decide))
  rw [t2.g] at H2
  clear H1
  go_wp2_with fail
  refine H2.out.mono ?_
  rintro e w3 ⟨rfl, y3, hm3, t3⟩
  have T3 := Lib.hid (t2.trans t3)
  have H3 := Lib.hid (show Calls Try.prog 25 #[.pointer (some ⟨y3.g, 0, none⟩), .int .i64 0, .int .u64 0] w3 (StPost w3 y3 k3 0) from flush_ok hm3 k2_Ok 0 0 (by decide) (by decide) (by decide))
  rw [T3.out.g] at H3
  clear H2 t2 t3 hm2
  go_wp2_with fail
  refine H3.out.mono ?_
  rintro e w4 ⟨rfl, y4, hm4, t4⟩
  have T4 := Lib.hid (T3.out.trans t4)
  have H4 := Lib.hid (show Calls Try.prog 18 #[.pointer (some ⟨y4.g, 0, none⟩), .int .u64 0, .int .u64 3] w4 (StPost w4 y4 k4 0) from store_ok hm4 0 3 (by decide) (by decide) (by decide) (by decide) (by decide))
  rw [T4.out.g] at H4
  clear H3 T3 t4 hm3
  go_wp2_with fail
  refine H4.out.mono ?_
  rintro e w5 ⟨rfl, y5, hm5, t5⟩
  have T5 := Lib.hid (T4.out.trans t5)
  have H5 := Lib.hid (show Calls Try.prog 26 #[.pointer (some ⟨y5.g, 0, none⟩), .int .i64 0] w5 (StPost w5 y5 k5 0) from fence_ok hm5 k4_Ok 0 (by decide) (by decide))
  rw [T5.out.g] at H5
  clear H4 T4 t5 hm4
  go_wp2_with fail
  refine H5.out.mono ?_
  rintro e w6 ⟨rfl, y6, hm6, t6⟩
  have T6 := Lib.hid (T5.out.trans t6)
  have H6 := Lib.hid (image_yes hm6 k5_Ok.las)
  rw [T6.out.g] at H6
  clear H5 T5 t6 hm5
  go_wp2_with fail
  refine H6.out.mono ?_
  rintro e w7 ⟨⟨v7, rfl, ho7⟩, hb7⟩
  obtain ⟨ga, ca, rfl, _, _, hsa⟩ := bytes_out ho7 b5a.1 (by decide)
  have hm7 := hm6.below hb7
  have H7 := Lib.hid (view_yes hm7 k5_Ok.vie)
  rw [T6.out.g] at H7
  clear H6 ho7
  go_wp2_with fail
  refine H7.out.mono ?_
  rintro e w8 ⟨⟨v8, rfl, ho8⟩, hb8⟩
  obtain ⟨gv, cv, rfl, _, _, hsv⟩ := bytes_out ho8 b5v.1 (by decide)
  have hm8 := hm7.below hb8
  have hsa8 := hsa.below hb8
  have a0 := sl_at hsa8 b5a.2.1
  have a8 := sl_at hsa8 b5a.2.2
  have v0 := sl_at hsv b5v.2
  have H8 := Lib.hid (show Calls Try.prog 19 #[.pointer (some ⟨y6.g, 0, none⟩), .int .u64 8] w8 (fun e w' => e = .returned (.int .i64 1) ∧ ∃ n, w8.drewN n = w') from pending_ok hm8 8 (by decide) (by decide))
  rw [T6.out.g] at H8
  clear H7 ho8 hsa8 hsa hsv hm7
  go_wp2_with fail
  refine H8.out.mono ?_
  rintro e w9 ⟨rfl, n9, rfl⟩
  have hm9 := hm8.below (drewN_below w8 n9)
  have H9 := Lib.hid (show Calls Try.prog 18 #[.pointer (some ⟨y6.g, 0, none⟩), .int .u64 64, .int .u64 5] (w8.drewN n9) (StPost (w8.drewN n9) y6 k6 0) from store_ok hm9 64 5 (by decide) (by decide) (by decide) (by decide) (by decide))
  rw [T6.out.g] at H9
  have T9 := Lib.hid (T6.out.trans (Turn.of_below y6 (Below.and (Below.and hb7 hb8) (drewN_below w8 n9))))
  clear H8 a0 a8 v0 hm8 hm6
  go_wp2_with fail
  refine H9.out.mono ?_
  rintro e w10 ⟨rfl, y10, hm10, t10⟩
  have T10 := Lib.hid (T9.out.trans t10)
  have hmA := hm10.below (alloc_below w10 (.cells #[.int .i64 0, .int .i64 1] 3))
  have H10 := Lib.hid (show Calls Try.prog 27 #[.pointer (some ⟨y10.g, 0, none⟩), .slice (some ⟨w10.heap.size, 0, none⟩) 2 2] (w10.alloc (.cells #[.int .i64 0, .int .i64 1] 3)) (fun e w' => e = .returned (.tuple #[]) ∧ ∃ y', MemAt w' y' k7 ∧ Turn (w10.alloc (.cells #[.int .i64 0, .int .i64 1] 3)) w' y10 y') from
    crash_ok hmA k6_Ok [0, 1] (some ⟨w10.heap.size, 0, none⟩) 2 (row_sl (l := [0, 1]) (f := fun n : Nat => iv (n : Int)) (Row.new w10 3 #[.int .i64 0, .int .i64 1])) (fun a ha hf => by cases ha; have := hm10.lt _ hf; dsimp only at this; omega) (by decide) (by decide))
  rw [T10.out.g] at H10
  clear H9 T9 t10 hm9
  go_wp2_with fail
  refine H10.out.mono ?_
  rintro e w11 ⟨rfl, y11, hm11, t11⟩
  have T11 := Lib.hid ((T10.out.trans (Turn.of_below y10 (alloc_below w10 _))).trans t11)
  have H11 := Lib.hid (image_yes hm11 k7_Ok.las)
  rw [T11.out.g] at H11
  clear H10 T10 t11 hmA hm10
  go_wp2_with fail
  refine H11.out.mono ?_
  rintro e w12 ⟨⟨v12, rfl, ho12⟩, hb12⟩
  obtain ⟨gb, cb, rfl, _, _, hsb⟩ := bytes_out ho12 b7a.1 (by decide)
  have hm12 := hm11.below hb12
  have hm12d := hm12.below (drew_below w12)
  have H12 := Lib.hid fun W (hb : Below w12.heap.size w12 W) => view_yes (hm12.below hb) k7_Ok.vie
  rw [T11.out.g] at H12
  have e77 : bytesL k7.view = bytesL k7.lasted := by rw [k7_las, k7_vie]
  rw [e77] at H12
  have b7v := b7a.1
  have B0 := sl_at hsb b7a.2.1
  have B8 := sl_at hsb b7a.2.2.1
  have B64 := sl_at hsb b7a.2.2.2
  obtain ⟨SS, hSS⟩ : ∃ SS, SS = strOf (bytesL k7.lasted) := ⟨_, rfl⟩
  have HSS := Lib.hid hSS
  have HCB := Lib.hid fun W (hb : Below w12.drew.heap.size w12.drew W) => conv_sl (w := W) 128 cb b7v ((hsb.below (drew_below w12)).below hb)
  rw [← hSS] at HCB
  have hcb0 := HCB.out w12.drew (Below.refl _ _)
  have HB11 : Below w.heap.size w1 w11 := T11.out.but.below hb1.size hfp
  have HBB := Lib.hid (show Below w.heap.size w w12 from (hb1.trans HB11).trans (hb12.mono (Nat.le_trans hb1.size HB11.size)))
  clear HB11
  have hstr : (SS.toList == SS.toList) = true := by simp
  clear H11 ho12 hm12 hm12d hm11 hSS e77 hsb
  go_wp2_with fail
  refine wp_region_any (by kernel_rfl) ?_
  change wpAny _ _ _ _ _ _ _ (World.drew _)
  · skip
    refine wpAny_take (i := 0) (oi := ⟨some 68, _, _, _, _, _⟩) (v := .slice (some ⟨gb, 0, none⟩) 128 cb) rfl (by kernel_rfl) (by kernel_rfl) (by kernel_rfl) (fun _ _ _ h => h) (Or.inl ⟨by kernel_rfl, by intro w; go_simp⟩) ?_
    simp only [Act.put, List.setIfInBounds_toArray, List.set_cons_zero, List.set_cons_succ]
    refine wpAny_take (i := 1) (oi := ⟨some 69, _, _, _, _, _⟩) (v := .int .i64 128) rfl (by kernel_rfl) (by kernel_rfl) (by kernel_rfl) (fun _ _ _ h => h) (Or.inl ⟨by kernel_rfl, by intro w; go_simp⟩) ?_
    simp only [Act.put, List.setIfInBounds_toArray, List.set_cons_zero, List.set_cons_succ]
    refine wpAny_take (i := 2) (oi := ⟨some 70, _, _, _, _, _⟩) (v := .bool true) rfl (by kernel_rfl) (by kernel_rfl) (by kernel_rfl) (fun _ _ _ h => h) (Or.inl ⟨by kernel_rfl, by intro w; go_simp⟩) ?_
    simp only [Act.put, List.setIfInBounds_toArray, List.set_cons_zero, List.set_cons_succ]
    refine wpAny_take (i := 3) (oi := ⟨some 71, _, _, _, _, _⟩) (v := .bool true) rfl (by kernel_rfl) (by kernel_rfl) (by kernel_rfl) (fun _ _ _ h => h) (Or.inl ⟨by kernel_rfl, by intro w; go_simp⟩) ?_
    simp only [Act.put, List.setIfInBounds_toArray, List.set_cons_zero, List.set_cons_succ]
    refine wpAny_take (i := 4) (oi := ⟨some 72, _, _, _, _, _⟩) (v := .slice (some ⟨gb, 0, none⟩) 128 cb) rfl (by kernel_rfl) (by kernel_rfl) (by kernel_rfl) (fun _ _ _ h => h) (Or.inl ⟨by kernel_rfl, by intro w; go_simp⟩) ?_
    simp only [Act.put, List.setIfInBounds_toArray, List.set_cons_zero, List.set_cons_succ]
    refine wpAny_take (i := 5) (oi := ⟨some 73, _, _, _, _, _⟩) (v := .pointer (some ⟨gb, 0, none⟩)) rfl (by kernel_rfl) (by kernel_rfl) (by kernel_rfl) (fun _ _ _ h => h) (Or.inl ⟨by kernel_rfl, by intro w; go_simp⟩) ?_
    simp only [Act.put, List.setIfInBounds_toArray, List.set_cons_zero, List.set_cons_succ]
    refine wpAny_ready (rs := [6]) (by kernel_rfl) (by simp) ?_
    refine AllReady.cons rfl (fun K hK => ?_) AllReady.nil
    go_simp
    refine hK _ _ ?_
    clear hK K
    refine wpAny_take (i := 7) (oi := ⟨some 75, _, _, _, _, _⟩) (v := .bool true) rfl (by kernel_rfl) (by kernel_rfl) (by kernel_rfl) (fun _ _ _ h => h) (Or.inl ⟨by kernel_rfl, by intro w; go_simp⟩) ?_
    simp only [Act.put, List.setIfInBounds_toArray, List.set_cons_zero, List.set_cons_succ]
    refine wpAny_take (i := 8) (oi := ⟨some 76, _, _, _, _, _⟩) (v := .bool true) rfl (by kernel_rfl) (by kernel_rfl) (by kernel_rfl) (fun _ _ _ h => h) (Or.inl ⟨by kernel_rfl, by intro w; go_simp⟩) ?_
    simp only [Act.put, List.setIfInBounds_toArray, List.set_cons_zero, List.set_cons_succ]
    refine wpAny_take (i := 9) (oi := ⟨some 77, _, _, _, _, _⟩) (v := .bool true) rfl (by kernel_rfl) (by kernel_rfl) (by kernel_rfl) (fun _ _ _ h => h) (Or.inl ⟨by kernel_rfl, by intro w; go_simp⟩) ?_
    simp only [Act.put, List.setIfInBounds_toArray, List.set_cons_zero, List.set_cons_succ]
    refine wpAny_take (i := 10) (oi := ⟨some 78, _, _, _, _, _⟩) (v := .slice (some ⟨gb, 0, none⟩) 128 cb) rfl (by kernel_rfl) (by kernel_rfl) (by kernel_rfl) (fun _ _ _ h => h) (Or.inl ⟨by kernel_rfl, by intro w; go_simp⟩) ?_
    simp only [Act.put, List.setIfInBounds_toArray, List.set_cons_zero, List.set_cons_succ]
    refine wpAny_take (i := 11) (oi := ⟨some 79, _, _, _, _, _⟩) (v := .pointer (some ⟨gb, 8, none⟩)) rfl (by kernel_rfl) (by kernel_rfl) (by kernel_rfl) (fun _ _ _ h => h) (Or.inl ⟨by kernel_rfl, by intro w; go_simp⟩) ?_
    simp only [Act.put, List.setIfInBounds_toArray, List.set_cons_zero, List.set_cons_succ]
    refine wpAny_ready (rs := [12]) (by kernel_rfl) (by simp) ?_
    refine AllReady.cons rfl (fun K hK => ?_) AllReady.nil
    go_simp
    refine hK _ _ ?_
    clear hK K
    refine wpAny_take (i := 13) (oi := ⟨some 81, _, _, _, _, _⟩) (v := .bool true) rfl (by kernel_rfl) (by kernel_rfl) (by kernel_rfl) (fun _ _ _ h => h) (Or.inl ⟨by kernel_rfl, by intro w; go_simp⟩) ?_
    simp only [Act.put, List.setIfInBounds_toArray, List.set_cons_zero, List.set_cons_succ]
    refine wpAny_take (i := 14) (oi := ⟨some 82, _, _, _, _, _⟩) (v := .bool true) rfl (by kernel_rfl) (by kernel_rfl) (by kernel_rfl) (fun _ _ _ h => h) (Or.inl ⟨by kernel_rfl, by intro w; go_simp⟩) ?_
    simp only [Act.put, List.setIfInBounds_toArray, List.set_cons_zero, List.set_cons_succ]
    refine wpAny_take (i := 15) (oi := ⟨some 83, _, _, _, _, _⟩) (v := .bool true) rfl (by kernel_rfl) (by kernel_rfl) (by kernel_rfl) (fun _ _ _ h => h) (Or.inl ⟨by kernel_rfl, by intro w; go_simp⟩) ?_
    simp only [Act.put, List.setIfInBounds_toArray, List.set_cons_zero, List.set_cons_succ]
    refine wpAny_take (i := 16) (oi := ⟨some 84, _, _, _, _, _⟩) (v := .slice (some ⟨gb, 0, none⟩) 128 cb) rfl (by kernel_rfl) (by kernel_rfl) (by kernel_rfl) (fun _ _ _ h => h) (Or.inl ⟨by kernel_rfl, by intro w; go_simp⟩) ?_
    simp only [Act.put, List.setIfInBounds_toArray, List.set_cons_zero, List.set_cons_succ]
    refine wpAny_take (i := 17) (oi := ⟨some 85, _, _, _, _, _⟩) (v := .pointer (some ⟨gb, 64, none⟩)) rfl (by kernel_rfl) (by kernel_rfl) (by kernel_rfl) (fun _ _ _ h => h) (Or.inl ⟨by kernel_rfl, by intro w; go_simp⟩) ?_
    simp only [Act.put, List.setIfInBounds_toArray, List.set_cons_zero, List.set_cons_succ]
    refine wpAny_ready (rs := [18]) (by kernel_rfl) (by simp) ?_
    refine AllReady.cons rfl (fun K hK => ?_) AllReady.nil
    go_simp
    refine hK _ _ ?_
    clear hK K
    refine wpAny_take (i := 19) (oi := ⟨some 87, _, _, _, _, _⟩) (v := .bool true) rfl (by kernel_rfl) (by kernel_rfl) (by kernel_rfl) (fun _ _ _ h => h) (Or.inl ⟨by kernel_rfl, by intro w; go_simp⟩) ?_
    simp only [Act.put, List.setIfInBounds_toArray, List.set_cons_zero, List.set_cons_succ]
    refine wpAny_take (i := 20) (oi := ⟨some 88, _, _, _, _, _⟩) (v := .bool true) rfl (by kernel_rfl) (by kernel_rfl) (by kernel_rfl) (fun _ _ _ h => h) (Or.inl ⟨by kernel_rfl, by intro w; go_simp⟩) ?_
    simp only [Act.put, List.setIfInBounds_toArray, List.set_cons_zero, List.set_cons_succ]
    refine wpAny_take (i := 21) (oi := ⟨some 89, _, _, _, _, _⟩) (v := .bool true) rfl (by kernel_rfl) (by kernel_rfl) (by kernel_rfl) (fun _ _ _ h => h) (Or.inl ⟨by kernel_rfl, by intro w; go_simp⟩) ?_
    simp only [Act.put, List.setIfInBounds_toArray, List.set_cons_zero, List.set_cons_succ]
    refine wpAny_take (i := 22) (oi := ⟨some 90, _, _, _, _, _⟩) (v := .slice (some ⟨gb, 0, none⟩) 128 cb) rfl (by kernel_rfl) (by kernel_rfl) (by kernel_rfl) (fun _ _ _ h => h) (Or.inl ⟨by kernel_rfl, by intro w; go_simp⟩) ?_
    simp only [Act.put, List.setIfInBounds_toArray, List.set_cons_zero, List.set_cons_succ]
    refine wpAny_take (i := 24) (oi := ⟨some 92, _, _, _, _, _⟩) (v := .pointer (some ⟨y.g, 0, none⟩)) rfl (by kernel_rfl) (by kernel_rfl) (by kernel_rfl) (fun _ _ _ h => h) (Or.inl ⟨by kernel_rfl, by intro w; go_simp⟩) ?_
    simp only [Act.put, List.setIfInBounds_toArray, List.set_cons_zero, List.set_cons_succ]
    refine wpAny_ready (rs := [23, 25]) (by kernel_rfl) (by simp) ?_
    refine AllReady.cons rfl (fun K hK => ?_) (AllReady.cons rfl (fun K hK => ?_) AllReady.nil)
    · go_simp
      refine hK _ _ ?_
      clear hK K
      refine wpAny_ready (rs := [25]) (by kernel_rfl) (by simp) ?_
      refine AllReady.cons rfl (fun K hK => ?_) AllReady.nil
      go_simp
      refine (H12.out w12.drew (drew_below w12)).mono ?_
      rintro e wy ⟨⟨vy, rfl, hoy⟩, hby⟩
      obtain ⟨gy, cy, rfl, _, _, hsy⟩ := bytes_out hoy b7v (by decide)
      have hcy := conv_sl 128 cy b7v hsy
      rw [← HSS.out] at hcy
      have hcb := HCB.out wy hby
      refine hK _ _ ?_
      clear hK K
      refine wpAny_ready (rs := [26]) (by kernel_rfl) (by simp) ?_
      refine AllReady.cons rfl (fun K hK => ?_) AllReady.nil
      go_simp
      refine hK _ _ ?_
      clear hK K
      refine wpAny_take (i := 27) (oi := ⟨some 95, _, _, _, _, _⟩) (v := .bool true) rfl (by kernel_rfl) (by kernel_rfl) (by kernel_rfl) (fun _ _ _ h => h) (Or.inl ⟨by kernel_rfl, by intro w; go_simp⟩) ?_
      simp only [Act.put, List.setIfInBounds_toArray, List.set_cons_zero, List.set_cons_succ]
      refine wpAny_take (i := 28) (oi := ⟨some 96, _, _, _, _, _⟩) (v := .bool true) rfl (by kernel_rfl) (by kernel_rfl) (by kernel_rfl) (fun _ _ _ h => h) (Or.inl ⟨by kernel_rfl, by intro w; go_simp⟩) ?_
      simp only [Act.put, List.setIfInBounds_toArray, List.set_cons_zero, List.set_cons_succ]
      refine wpAny_take (i := 29) (oi := ⟨some 0, _, _, _, _, _⟩) (v := .bool true) rfl (by kernel_rfl) (by kernel_rfl) (by kernel_rfl) (fun _ _ _ h => h) (Or.inl ⟨by kernel_rfl, by intro w; go_simp⟩) ?_
      simp only [Act.put, List.setIfInBounds_toArray, List.set_cons_zero, List.set_cons_succ]
      refine wpAny_done (by kernel_rfl) ?_ _
      go_wp2
      go_ret
      exact ⟨rfl, Below.and HBB.out (Below.and (drew_below w12) hby)⟩
    · go_simp
      refine (H12.out w12.drew (drew_below w12)).mono ?_
      rintro e wy ⟨⟨vy, rfl, hoy⟩, hby⟩
      obtain ⟨gy, cy, rfl, _, _, hsy⟩ := bytes_out hoy b7v (by decide)
      have hcy := conv_sl 128 cy b7v hsy
      rw [← HSS.out] at hcy
      have hcb := HCB.out wy hby
      refine hK _ _ ?_
      clear hK K
      refine wpAny_ready (rs := [23, 26]) (by kernel_rfl) (by simp) ?_
      refine AllReady.cons rfl (fun K hK => ?_) (AllReady.cons rfl (fun K hK => ?_) AllReady.nil)
      · go_simp
        refine hK _ _ ?_
        clear hK K
        refine wpAny_ready (rs := [26]) (by kernel_rfl) (by simp) ?_
        refine AllReady.cons rfl (fun K hK => ?_) AllReady.nil
        go_simp
        refine hK _ _ ?_
        clear hK K
        refine wpAny_take (i := 27) (oi := ⟨some 95, _, _, _, _, _⟩) (v := .bool true) rfl (by kernel_rfl) (by kernel_rfl) (by kernel_rfl) (fun _ _ _ h => h) (Or.inl ⟨by kernel_rfl, by intro w; go_simp⟩) ?_
        simp only [Act.put, List.setIfInBounds_toArray, List.set_cons_zero, List.set_cons_succ]
        refine wpAny_take (i := 28) (oi := ⟨some 96, _, _, _, _, _⟩) (v := .bool true) rfl (by kernel_rfl) (by kernel_rfl) (by kernel_rfl) (fun _ _ _ h => h) (Or.inl ⟨by kernel_rfl, by intro w; go_simp⟩) ?_
        simp only [Act.put, List.setIfInBounds_toArray, List.set_cons_zero, List.set_cons_succ]
        refine wpAny_take (i := 29) (oi := ⟨some 0, _, _, _, _, _⟩) (v := .bool true) rfl (by kernel_rfl) (by kernel_rfl) (by kernel_rfl) (fun _ _ _ h => h) (Or.inl ⟨by kernel_rfl, by intro w; go_simp⟩) ?_
        simp only [Act.put, List.setIfInBounds_toArray, List.set_cons_zero, List.set_cons_succ]
        refine wpAny_done (by kernel_rfl) ?_ _
        go_wp2
        go_ret
        exact ⟨rfl, Below.and HBB.out (Below.and (drew_below w12) hby)⟩
      · go_simp
        refine hK _ _ ?_
        clear hK K
        refine wpAny_ready (rs := [23]) (by kernel_rfl) (by simp) ?_
        refine AllReady.cons rfl (fun K hK => ?_) AllReady.nil
        go_simp
        refine hK _ _ ?_
        clear hK K
        refine wpAny_take (i := 27) (oi := ⟨some 95, _, _, _, _, _⟩) (v := .bool true) rfl (by kernel_rfl) (by kernel_rfl) (by kernel_rfl) (fun _ _ _ h => h) (Or.inl ⟨by kernel_rfl, by intro w; go_simp⟩) ?_
        simp only [Act.put, List.setIfInBounds_toArray, List.set_cons_zero, List.set_cons_succ]
        refine wpAny_take (i := 28) (oi := ⟨some 96, _, _, _, _, _⟩) (v := .bool true) rfl (by kernel_rfl) (by kernel_rfl) (by kernel_rfl) (fun _ _ _ h => h) (Or.inl ⟨by kernel_rfl, by intro w; go_simp⟩) ?_
        simp only [Act.put, List.setIfInBounds_toArray, List.set_cons_zero, List.set_cons_succ]
        refine wpAny_take (i := 29) (oi := ⟨some 0, _, _, _, _, _⟩) (v := .bool true) rfl (by kernel_rfl) (by kernel_rfl) (by kernel_rfl) (fun _ _ _ h => h) (Or.inl ⟨by kernel_rfl, by intro w; go_simp⟩) ?_
        simp only [Act.put, List.setIfInBounds_toArray, List.set_cons_zero, List.set_cons_succ]
        refine wpAny_done (by kernel_rfl) ?_ _
        go_wp2
        go_ret
        exact ⟨rfl, Below.and HBB.out (Below.and (drew_below w12) hby)⟩
end Go.Proofs.Ytkeajfedlhgejaa
