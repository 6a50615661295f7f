/- Texts of this claim, packed: SnF, RnM. -/
import Derived.Test.YteojhhfcfdkmdaaPm27
import Derived.Test.YteojhhfcfdkmdaaPm18
set_option linter.unusedSimpArgs false
set_option linter.unusedVariables false
/- What a snapshot's last step does: Count once more; the node, if nothing has changed; for whatever the load answers. -/
namespace Go.Proofs.Yteojhhfcfdkmdaa
open Go.RowKit
set_option linter.unusedVariables false
attribute [local go_sem] Oper.semAt_some
/-- What follows the last word: anew, or done. -/
def enF (F : Value) (g : Nat) (r : Nat → Int) (kk : Int) : Value := if kk = 0 ∧ sameR r = true then F else nextV 28 g
def enD (d : Bool) (r : Nat → Int) (kk : Int) : Bool := if kk = 0 ∧ sameR r = true then true else d
def enN (n : Nd) (r : Nat → Int) (kk : Int) : Nd := if kk = 0 ∧ sameR r = true then (ofR (rdL r 24)).1 else n
def enK (r : Nat → Int) (kk : Int) : Int := if kk = 0 ∧ sameR r = true then (ofR (rdL r 24)).2 else kk
theorem one24 (l : List Int) : (l.map uw).toArray.all (·.oneCell') = true := all_oneCell_toArray fun u hu => by
  obtain ⟨x, _, rfl⟩ := List.mem_map.1 hu
  rfl
set_option maxRecDepth 100000 in
set_option maxHeartbeats 6400000 in
theorem end_any {w : World} {g a : Nat} {cs : Array Value} {p : Option Addr} {F : Value} {d : Bool} {k wh wd lo v kk : Int} {r : Nat → Int} {n : Nd} {P : World → Prop}
    (hr : Row w g 80 cs) (hs : IsS cs p F d k a r wh wd lo n) (ha : a < 18446744073709551616) (h24 : 0 ≤ r 24 ∧ r 24 < 18446744073709551616)
    (HL : ∀ W, Below w.heap.size w W → Calls Try.prog 30 #[.pointer p, .int .u64 ((snWordAt a 3 : Nat) : Int)] W fun e' w' => e' = .returned (.tuple #[.int .u64 v, .int .i64 kk]) ∧ LQ g cs P w') :
    Calls Try.prog 75 #[.pointer (some ⟨g, 0, none⟩)] w (FPost g P (enK (rput r 27 v) kk) (fun cs' => IsS cs' p (enF F g (rput r 27 v) kk) (enD d (rput r 27 v) kk) k a (rput r 27 v) wh wd lo (enN n (rput r 27 v) kk))) := by
  have mixed : Try.prog.follows .mixedOrders = true := by kernel_rfl
  have c0 := (hr.cell 0).trans hs.c0
  have HDR := Lib.hid (drew_below w)
  have STAY := Lib.hid (show ∀ W, Below w.heap.size w W → W.cell? ⟨g, 4, none⟩ = some (.int .u64 (a : Int)) from fun W hb => (hr.below hb hr.lt).cell 4 |>.trans hs.c4)
  have STQ := Lib.hid (show ∀ W, Row W g 80 cs → W.cell? ⟨g, 4, none⟩ = some (.int .u64 (a : Int)) from fun W h => (h.cell 4).trans hs.c4)
  have HM := Lib.hid (macLoad_any (k := 3) ((drew_below w).cell (block_lt_of_cell c0) |>.trans c0) ha (by decide) (HL _ (drew_below w)))
  have HS := Lib.hid hs
  have H24 := Lib.hid (show 0 ≤ wAt (rdL (rput r 27 v) 24) 0 ∧ wAt (rdL (rput r 27 v) 24) 0 < 18446744073709551616 from by rw [rdL_at _ _ (by omega)]; exact h24)
  have HSW := Lib.hid (show ∀ w2, Row w2 g 80 cs → ∃ cs3, SnSw w2 (w2.setCell ⟨g, 32, none⟩ (.int .u64 v)) g cs3 ∧ IsS cs3 p F d k a (rput r 27 v) wh wd lo n from fun w2 h => ⟨_, (SnSw.refl h).set 32 _, hs.rset (i := 27) (by omega) v⟩)
  obtain ⟨r', hr'⟩ : ∃ r', r' = rput r 27 v := ⟨_, rfl⟩
  rw [← hr'] at HSW H24 ⊢
  clear hr hs HL c0 ha h24 hr'
  by_cases hk : kk = 0
  · by_cases hsm : sameR r' = true
    · have HG := Lib.hid (show enF F g r' kk = F ∧ enD d r' kk = true ∧ enN n r' kk = (ofR (rdL r' 24)).1 ∧ enK r' kk = (ofR (rdL r' 24)).2 from by
        unfold enF enD enN enK
        simp only [hk, hsm, and_self, if_true])
      rw [HG.out.1, HG.out.2.1, HG.out.2.2.1, HG.out.2.2.2]
      have hnq := fun W => neqR r' W
      simp only [hsm, Bool.not_true] at hnq
      have HOF := Lib.hid fun W => nOf_any (rdL_len r' 24) H24.out W
      obtain ⟨m, hm⟩ : ∃ m, m = (ofR (rdL r' 24)).1 := ⟨_, rfl⟩
      obtain ⟨e1, he1⟩ : ∃ e1, e1 = (ofR (rdL r' 24)).2 := ⟨_, rfl⟩
      rw [← hm, ← he1] at HOF ⊢
      clear HG hsm H24 hm he1
      subst hk
      go_enter Try.func75, Try.ntmps75
      go_wp2_with fail
      refine wp_region_held_drew (S := fun W' => W'.cell? ⟨g, 4, none⟩ = some (.int .u64 (a : Int))) (by kernel_rfl) (STAY.out _ HDR.out) (fun hHeld => ?_)
      refine wpAnyH_take (i := 0) (oi := ⟨some 6, _, _, _, _, _⟩) (v := .pointer (some ⟨g, 0, none⟩)) rfl (by kernel_rfl) (by kernel_rfl) (by kernel_rfl) (fun _ _ _ h => h) (Or.inl ⟨by rfl, by intro WW hSw; (try dsimp only at hSw); go_simp⟩) (by assumption) ?_
      (try simp only [Act.put, List.setIfInBounds_toArray, List.set_cons_zero, List.set_cons_succ])
      refine wpAnyH_take (i := 1) (oi := ⟨some 7, _, _, _, _, _⟩) (v := .pointer (some ⟨g, 0, none⟩)) rfl (by kernel_rfl) (by kernel_rfl) (by kernel_rfl) (fun _ _ _ h => h) (Or.inl ⟨by rfl, by intro WW hSw; (try dsimp only at hSw); go_simp⟩) (by assumption) ?_
      (try simp only [Act.put, List.setIfInBounds_toArray, List.set_cons_zero, List.set_cons_succ])
      refine wpAnyH_take (i := 2) (oi := ⟨some 8, _, _, _, _, _⟩) (v := .pointer (some ⟨g, 0, none⟩)) rfl (by kernel_rfl) (by kernel_rfl) (by kernel_rfl) (fun _ _ _ h => h) (Or.inl ⟨by rfl, by intro WW hSw; (try dsimp only at hSw); go_simp⟩) (by assumption) ?_
      (try simp only [Act.put, List.setIfInBounds_toArray, List.set_cons_zero, List.set_cons_succ])
      refine wpAnyH_take (i := 3) (oi := ⟨some 9, _, _, _, _, _⟩) (v := .pointer (some ⟨g, 0, none⟩)) rfl (by kernel_rfl) (by kernel_rfl) (by kernel_rfl) (fun _ _ _ h => h) (Or.inl ⟨by rfl, by intro WW hSw; (try dsimp only at hSw); go_simp⟩) (by assumption) ?_
      (try simp only [Act.put, List.setIfInBounds_toArray, List.set_cons_zero, List.set_cons_succ])
      refine wpAnyH_take (i := 4) (oi := ⟨some 10, _, _, _, _, _⟩) (v := .pointer (some ⟨g, 0, none⟩)) rfl (by kernel_rfl) (by kernel_rfl) (by kernel_rfl) (fun _ _ _ h => h) (Or.inl ⟨by rfl, by intro WW hSw; (try dsimp only at hSw); go_simp⟩) (by assumption) ?_
      (try simp only [Act.put, List.setIfInBounds_toArray, List.set_cons_zero, List.set_cons_succ])
      refine wpAnyH_take (i := 5) (oi := ⟨some 11, _, _, _, _, _⟩) (v := .pointer (some ⟨g, 4, none⟩)) rfl (by kernel_rfl) (by kernel_rfl) (by kernel_rfl) (fun _ _ _ h => h) (Or.inl ⟨by rfl, by intro WW hSw; (try dsimp only at hSw); go_simp⟩) (by assumption) ?_
      (try simp only [Act.put, List.setIfInBounds_toArray, List.set_cons_zero, List.set_cons_succ])
      refine wpAnyH_take (i := 6) (oi := ⟨some 12, _, _, _, _, _⟩) (v := .int .u64 (a : Int)) rfl (by kernel_rfl) (by kernel_rfl) (by kernel_rfl) (fun _ _ _ h => h) (Or.inl ⟨by rfl, by intro WW hSw; (try dsimp only at hSw); go_simp⟩) (by assumption) ?_
      (try simp only [Act.put, List.setIfInBounds_toArray, List.set_cons_zero, List.set_cons_succ])
      refine wpAnyH_one (i := 7) (oi := ⟨some 13, _, _, _, _, _⟩) rfl (by kernel_rfl) (fun K hK => ?_)
      refine step_calls (by rfl) 53 (fun args w => Try.call53 _ _) [.tmp 8, .tmp 12, .const (.int .i64 3)] _ rfl [.pointer (some ⟨g, 0, none⟩), .int .u64 (a : Int), .int .i64 3] rfl (HM.out) ?_
      rintro e w2 ⟨rfl, hq, hp⟩
      have HQ := Lib.hid hq
      have HP := Lib.hid hp
      clear hq hp HM
      refine ⟨_, rfl, hK _ _ (STQ.out _ HQ.out) (fun hSn => ?_)⟩
      clear hK K
      (try simp only [Act.put, List.setIfInBounds_toArray, List.set_cons_zero, List.set_cons_succ])
      refine wpAnyH_take (i := 8) (oi := ⟨some 5, _, _, _, _, _⟩) (v := .tuple #[.int .u64 v, .int .i64 0]) rfl (by kernel_rfl) (by kernel_rfl) (by kernel_rfl) (fun _ _ _ h => h) (Or.inl ⟨by rfl, by intro WW hSw; (try dsimp only at hSw); go_simp⟩) (by assumption) ?_
      (try simp only [Act.put, List.setIfInBounds_toArray, List.set_cons_zero, List.set_cons_succ])
      refine wpAnyH_take (i := 9) (oi := ⟨some 14, _, _, _, _, _⟩) (v := .int .u64 v) rfl (by kernel_rfl) (by kernel_rfl) (by kernel_rfl) (fun _ _ _ h => h) (Or.inl ⟨by rfl, by intro WW hSw; (try dsimp only at hSw); go_simp⟩) (by assumption) ?_
      (try simp only [Act.put, List.setIfInBounds_toArray, List.set_cons_zero, List.set_cons_succ])
      refine wpAnyH_take (i := 10) (oi := ⟨some 15, _, _, _, _, _⟩) (v := .int .i64 0) rfl (by kernel_rfl) (by kernel_rfl) (by kernel_rfl) (fun _ _ _ h => h) (Or.inl ⟨by rfl, by intro WW hSw; (try dsimp only at hSw); go_simp⟩) (by assumption) ?_
      (try simp only [Act.put, List.setIfInBounds_toArray, List.set_cons_zero, List.set_cons_succ])
      refine wpAnyH_take (i := 11) (oi := ⟨some 3, _, _, _, _, _⟩) (v := .int .u64 v) rfl (by kernel_rfl) (by kernel_rfl) (by kernel_rfl) (fun _ _ _ h => h) (Or.inl ⟨by rfl, by intro WW hSw; (try dsimp only at hSw); go_simp⟩) (by assumption) ?_
      (try simp only [Act.put, List.setIfInBounds_toArray, List.set_cons_zero, List.set_cons_succ])
      refine wpAnyH_take (i := 12) (oi := ⟨some 4, _, _, _, _, _⟩) (v := .int .i64 0) rfl (by kernel_rfl) (by kernel_rfl) (by kernel_rfl) (fun _ _ _ h => h) (Or.inl ⟨by rfl, by intro WW hSw; (try dsimp only at hSw); go_simp⟩) (by assumption) ?_
      (try simp only [Act.put, List.setIfInBounds_toArray, List.set_cons_zero, List.set_cons_succ])
      refine wpAnyH_done (by kernel_rfl) ?_ _

      clear STQ hHeld hSn STAY HDR
      have c32 := (HQ.out.cell 32).trans (HS.out.rr 27 (by omega))
      have f32 := HQ.out.free 32
      obtain ⟨cs3, S3, I3⟩ := HSW.out _ HQ.out
      obtain ⟨W3, hW3⟩ : ∃ W3, W3 = w2.setCell ⟨g, 32, none⟩ (.int .u64 v) := ⟨_, rfl⟩
      rw [← hW3] at S3
      have HS3 := Lib.hid S3
      have HI3 := Lib.hid I3
      clear HSW HS
      have hR0 := Lib.hid (fun (w' : World) (h : ∃ q : LowBy W3, w' = q.W) => (show w'.rangeAt g 5 ((rdL r' 0).map uw) by obtain ⟨q, rfl⟩ := h; exact rdRange (S3.row.below q.low S3.row.lt) I3 0 (by omega)))
      have hR1 := Lib.hid (fun (w' : World) (h : ∃ q : LowBy W3, w' = q.W) => (show w'.rangeAt g 29 ((rdL r' 24).map uw) by obtain ⟨q, rfl⟩ := h; exact rdRange (S3.row.below q.low S3.row.lt) I3 24 (by omega)))
      have HF := Lib.hid (fun q : LowBy W3 => (show SnSw w2 q.W g cs3 from S3.below q.low))
      clear S3 I3
      go_wp2_with fail
      rw [← hW3]
      clear hW3 c32 f32
      refine wp_region_quiet_low (by assumption) (by kernel_rfl) ?_
      repeat (first | go_big_quiet_skip | (go_big_quiet_want; first | (refine quiet_load_mid 77 _ rfl g 5 rfl ((rdL r' 0).map uw) _ hR0.out Try.underlying77 rfl (by rw [List.length_map, rdL_len]; exact rdI) ?_; simp only [Act.put, List.setIfInBounds_toArray, List.set_cons_succ, List.set_cons_zero]; go_big_quiet_on) | (refine quiet_load_mid 77 _ rfl g 29 rfl ((rdL r' 24).map uw) _ hR1.out Try.underlying77 rfl (by rw [List.length_map, rdL_len]; exact rdI) ?_; simp only [Act.put, List.setIfInBounds_toArray, List.set_cons_succ, List.set_cons_zero]; go_big_quiet_on) | (go_big_quiet_op; first | go_big_quiet_on)))
      refine wpQuiet_nil ?_
      intro _ hw'
      obtain ⟨q, hw''⟩ := hw'
      subst hw''
      have S4 := HF.out q
      have d2 := (S4.row.cell 2).trans HI3.out.c2
      have g2 := S4.row.free 2
      obtain ⟨W4, hW4⟩ : ∃ W4, W4 = q.W := ⟨_, rfl⟩
      rw [← hW4] at S4 d2 g2 ⊢
      have S5 := S4.set 2 (.bool true)
      have I5 := HI3.out.done true
      obtain ⟨W5, hW5⟩ : ∃ W5, W5 = W4.setCell ⟨g, 2, none⟩ (.bool true) := ⟨_, rfl⟩
      rw [← hW5] at S5
      have HS5 := Lib.hid S5
      have HI5 := Lib.hid I5
      have hR5 := Lib.hid (rdRange S5.row I5 24 (by omega))
      clear HF hR0 hR1 hW4 S4 S5 I5 hnq HS3 HI3
      have HW5 := Lib.hid hW5
      clear hW5
      go_wp2_with (first
        | (rw [← HW5.out])
        | (refine wpList_load_mid rfl _ _ rfl g 29 rfl ((rdL r' 24).map uw) _ hR5.out Try.underlying77 rfl (by rw [List.length_map, rdL_len]; exact rdI) ?_)
        | ((with_reducible refine (HOF.out _).mono ?_); rintro e w6 ⟨rfl, h6⟩; have HS6 := Lib.hid (HS5.out.below h6))
        | (refine wpList_store_mid rfl _ _ _ rfl g 56 m.cl.toArray rfl rfl (rowThere HS6.out.row (by rw [HI5.out.sz]; show 56 + m.cl.toArray.size ≤ 77; exact Nat.le_refl _)) (by exact ndI) (all_oneCell_toArray (cl_one m)) ?_))
      go_ret
      exact ⟨rfl, w2, _, HP.out, HI5.out.node m, HS6.out.setAll 56 m.cl⟩
    · have hno : ¬ (kk = 0 ∧ sameR r' = true) := fun h => hsm h.2
      have HG := Lib.hid (show enF F g r' kk = nextV 28 g ∧ enD d r' kk = d ∧ enN n r' kk = n ∧ enK r' kk = kk from by
        unfold enF enD enN enK
        rw [if_neg hno, if_neg hno, if_neg hno, if_neg hno]
        exact ⟨rfl, rfl, rfl, rfl⟩)
      rw [HG.out.1, HG.out.2.1, HG.out.2.2.1, HG.out.2.2.2]
      clear HG H24
      have hnq := fun W => neqR r' W
      have hsm' : sameR r' = false := by simpa using hsm
      simp only [hsm', Bool.not_false] at hnq
      subst hk
      clear hno hsm hsm'
      go_enter Try.func75, Try.ntmps75
      go_wp2_with fail
      refine wp_region_held_drew (S := fun W' => W'.cell? ⟨g, 4, none⟩ = some (.int .u64 (a : Int))) (by kernel_rfl) (STAY.out _ HDR.out) (fun hHeld => ?_)
      refine wpAnyH_take (i := 0) (oi := ⟨some 6, _, _, _, _, _⟩) (v := .pointer (some ⟨g, 0, none⟩)) rfl (by kernel_rfl) (by kernel_rfl) (by kernel_rfl) (fun _ _ _ h => h) (Or.inl ⟨by rfl, by intro WW hSw; (try dsimp only at hSw); go_simp⟩) (by assumption) ?_
      (try simp only [Act.put, List.setIfInBounds_toArray, List.set_cons_zero, List.set_cons_succ])
      refine wpAnyH_take (i := 1) (oi := ⟨some 7, _, _, _, _, _⟩) (v := .pointer (some ⟨g, 0, none⟩)) rfl (by kernel_rfl) (by kernel_rfl) (by kernel_rfl) (fun _ _ _ h => h) (Or.inl ⟨by rfl, by intro WW hSw; (try dsimp only at hSw); go_simp⟩) (by assumption) ?_
      (try simp only [Act.put, List.setIfInBounds_toArray, List.set_cons_zero, List.set_cons_succ])
      refine wpAnyH_take (i := 2) (oi := ⟨some 8, _, _, _, _, _⟩) (v := .pointer (some ⟨g, 0, none⟩)) rfl (by kernel_rfl) (by kernel_rfl) (by kernel_rfl) (fun _ _ _ h => h) (Or.inl ⟨by rfl, by intro WW hSw; (try dsimp only at hSw); go_simp⟩) (by assumption) ?_
      (try simp only [Act.put, List.setIfInBounds_toArray, List.set_cons_zero, List.set_cons_succ])
      refine wpAnyH_take (i := 3) (oi := ⟨some 9, _, _, _, _, _⟩) (v := .pointer (some ⟨g, 0, none⟩)) rfl (by kernel_rfl) (by kernel_rfl) (by kernel_rfl) (fun _ _ _ h => h) (Or.inl ⟨by rfl, by intro WW hSw; (try dsimp only at hSw); go_simp⟩) (by assumption) ?_
      (try simp only [Act.put, List.setIfInBounds_toArray, List.set_cons_zero, List.set_cons_succ])
      refine wpAnyH_take (i := 4) (oi := ⟨some 10, _, _, _, _, _⟩) (v := .pointer (some ⟨g, 0, none⟩)) rfl (by kernel_rfl) (by kernel_rfl) (by kernel_rfl) (fun _ _ _ h => h) (Or.inl ⟨by rfl, by intro WW hSw; (try dsimp only at hSw); go_simp⟩) (by assumption) ?_
      (try simp only [Act.put, List.setIfInBounds_toArray, List.set_cons_zero, List.set_cons_succ])
      refine wpAnyH_take (i := 5) (oi := ⟨some 11, _, _, _, _, _⟩) (v := .pointer (some ⟨g, 4, none⟩)) rfl (by kernel_rfl) (by kernel_rfl) (by kernel_rfl) (fun _ _ _ h => h) (Or.inl ⟨by rfl, by intro WW hSw; (try dsimp only at hSw); go_simp⟩) (by assumption) ?_
      (try simp only [Act.put, List.setIfInBounds_toArray, List.set_cons_zero, List.set_cons_succ])
      refine wpAnyH_take (i := 6) (oi := ⟨some 12, _, _, _, _, _⟩) (v := .int .u64 (a : Int)) rfl (by kernel_rfl) (by kernel_rfl) (by kernel_rfl) (fun _ _ _ h => h) (Or.inl ⟨by rfl, by intro WW hSw; (try dsimp only at hSw); go_simp⟩) (by assumption) ?_
      (try simp only [Act.put, List.setIfInBounds_toArray, List.set_cons_zero, List.set_cons_succ])
      refine wpAnyH_one (i := 7) (oi := ⟨some 13, _, _, _, _, _⟩) rfl (by kernel_rfl) (fun K hK => ?_)
      refine step_calls (by rfl) 53 (fun args w => Try.call53 _ _) [.tmp 8, .tmp 12, .const (.int .i64 3)] _ rfl [.pointer (some ⟨g, 0, none⟩), .int .u64 (a : Int), .int .i64 3] rfl (HM.out) ?_
      rintro e w2 ⟨rfl, hq, hp⟩
      have HQ := Lib.hid hq
      have HP := Lib.hid hp
      clear hq hp HM
      refine ⟨_, rfl, hK _ _ (STQ.out _ HQ.out) (fun hSn => ?_)⟩
      clear hK K
      (try simp only [Act.put, List.setIfInBounds_toArray, List.set_cons_zero, List.set_cons_succ])
      refine wpAnyH_take (i := 8) (oi := ⟨some 5, _, _, _, _, _⟩) (v := .tuple #[.int .u64 v, .int .i64 0]) rfl (by kernel_rfl) (by kernel_rfl) (by kernel_rfl) (fun _ _ _ h => h) (Or.inl ⟨by rfl, by intro WW hSw; (try dsimp only at hSw); go_simp⟩) (by assumption) ?_
      (try simp only [Act.put, List.setIfInBounds_toArray, List.set_cons_zero, List.set_cons_succ])
      refine wpAnyH_take (i := 9) (oi := ⟨some 14, _, _, _, _, _⟩) (v := .int .u64 v) rfl (by kernel_rfl) (by kernel_rfl) (by kernel_rfl) (fun _ _ _ h => h) (Or.inl ⟨by rfl, by intro WW hSw; (try dsimp only at hSw); go_simp⟩) (by assumption) ?_
      (try simp only [Act.put, List.setIfInBounds_toArray, List.set_cons_zero, List.set_cons_succ])
      refine wpAnyH_take (i := 10) (oi := ⟨some 15, _, _, _, _, _⟩) (v := .int .i64 0) rfl (by kernel_rfl) (by kernel_rfl) (by kernel_rfl) (fun _ _ _ h => h) (Or.inl ⟨by rfl, by intro WW hSw; (try dsimp only at hSw); go_simp⟩) (by assumption) ?_
      (try simp only [Act.put, List.setIfInBounds_toArray, List.set_cons_zero, List.set_cons_succ])
      refine wpAnyH_take (i := 11) (oi := ⟨some 3, _, _, _, _, _⟩) (v := .int .u64 v) rfl (by kernel_rfl) (by kernel_rfl) (by kernel_rfl) (fun _ _ _ h => h) (Or.inl ⟨by rfl, by intro WW hSw; (try dsimp only at hSw); go_simp⟩) (by assumption) ?_
      (try simp only [Act.put, List.setIfInBounds_toArray, List.set_cons_zero, List.set_cons_succ])
      refine wpAnyH_take (i := 12) (oi := ⟨some 4, _, _, _, _, _⟩) (v := .int .i64 0) rfl (by kernel_rfl) (by kernel_rfl) (by kernel_rfl) (fun _ _ _ h => h) (Or.inl ⟨by rfl, by intro WW hSw; (try dsimp only at hSw); go_simp⟩) (by assumption) ?_
      (try simp only [Act.put, List.setIfInBounds_toArray, List.set_cons_zero, List.set_cons_succ])
      refine wpAnyH_done (by kernel_rfl) ?_ _

      clear STQ hHeld hSn STAY HDR
      have c32 := (HQ.out.cell 32).trans (HS.out.rr 27 (by omega))
      have f32 := HQ.out.free 32
      obtain ⟨cs3, S3, I3⟩ := HSW.out _ HQ.out
      obtain ⟨W3, hW3⟩ : ∃ W3, W3 = w2.setCell ⟨g, 32, none⟩ (.int .u64 v) := ⟨_, rfl⟩
      rw [← hW3] at S3
      have HS3 := Lib.hid S3
      have HI3 := Lib.hid I3
      clear HSW HS
      have hR0 := Lib.hid (fun (w' : World) (h : ∃ q : LowBy W3, w' = q.W) => (show w'.rangeAt g 5 ((rdL r' 0).map uw) by obtain ⟨q, rfl⟩ := h; exact rdRange (S3.row.below q.low S3.row.lt) I3 0 (by omega)))
      have hR1 := Lib.hid (fun (w' : World) (h : ∃ q : LowBy W3, w' = q.W) => (show w'.rangeAt g 29 ((rdL r' 24).map uw) by obtain ⟨q, rfl⟩ := h; exact rdRange (S3.row.below q.low S3.row.lt) I3 24 (by omega)))
      have HF := Lib.hid (fun q : LowBy W3 => (show SnSw w2 q.W g cs3 from S3.below q.low))
      clear S3 I3
      go_wp2_with fail
      rw [← hW3]
      clear hW3 c32 f32
      refine wp_region_quiet_low (by assumption) (by kernel_rfl) ?_
      repeat (first | go_big_quiet_skip | (go_big_quiet_want; first | (refine quiet_load_mid 77 _ rfl g 5 rfl ((rdL r' 0).map uw) _ hR0.out Try.underlying77 rfl (by rw [List.length_map, rdL_len]; exact rdI) ?_; simp only [Act.put, List.setIfInBounds_toArray, List.set_cons_succ, List.set_cons_zero]; go_big_quiet_on) | (refine quiet_load_mid 77 _ rfl g 29 rfl ((rdL r' 24).map uw) _ hR1.out Try.underlying77 rfl (by rw [List.length_map, rdL_len]; exact rdI) ?_; simp only [Act.put, List.setIfInBounds_toArray, List.set_cons_succ, List.set_cons_zero]; go_big_quiet_on) | (go_big_quiet_op; first | go_big_quiet_on)))
      refine wpQuiet_nil ?_
      intro _ hw'
      obtain ⟨q, hw''⟩ := hw'
      subst hw''
      have S4 := HF.out q
      clear hR0 hR1 hnq
      have d1 := (S4.row.cell 1).trans HI3.out.c1
      have g1 := S4.row.free 1
      have HE := Lib.hid (show ∃ w1 cs', P w1 ∧ IsS cs' p (nextV 28 g) d k a r' wh wd lo n ∧ SnSw w1 (q.W.setCell ⟨g, 1, none⟩ (.func (.func 28) #[.pointer (some ⟨g, 0, none⟩)] #[])) g cs' from
        ⟨w2, _, HP.out, HI3.out.next _, S4.set 1 _⟩)
      clear HF S4 HS3 HI3
      go_wp2
      go_ret
      exact ⟨rfl, HE.out⟩
  · have hno : ¬ (kk = 0 ∧ sameR r' = true) := fun h => hk h.1
    have HG := Lib.hid (show enF F g r' kk = nextV 28 g ∧ enD d r' kk = d ∧ enN n r' kk = n ∧ enK r' kk = kk from by
      unfold enF enD enN enK
      rw [if_neg hno, if_neg hno, if_neg hno, if_neg hno]
      exact ⟨rfl, rfl, rfl, rfl⟩)
    rw [HG.out.1, HG.out.2.1, HG.out.2.2.1, HG.out.2.2.2]
    clear HG H24
    have hk' : (kk != 0) = true := by simpa using hk
    clear hno hk
    go_enter Try.func75, Try.ntmps75
    go_wp2_with fail
    refine wp_region_held_drew (S := fun W' => W'.cell? ⟨g, 4, none⟩ = some (.int .u64 (a : Int))) (by kernel_rfl) (STAY.out _ HDR.out) (fun hHeld => ?_)
    refine wpAnyH_take (i := 0) (oi := ⟨some 6, _, _, _, _, _⟩) (v := .pointer (some ⟨g, 0, none⟩)) rfl (by kernel_rfl) (by kernel_rfl) (by kernel_rfl) (fun _ _ _ h => h) (Or.inl ⟨by rfl, by intro WW hSw; (try dsimp only at hSw); go_simp⟩) (by assumption) ?_
    (try simp only [Act.put, List.setIfInBounds_toArray, List.set_cons_zero, List.set_cons_succ])
    refine wpAnyH_take (i := 1) (oi := ⟨some 7, _, _, _, _, _⟩) (v := .pointer (some ⟨g, 0, none⟩)) rfl (by kernel_rfl) (by kernel_rfl) (by kernel_rfl) (fun _ _ _ h => h) (Or.inl ⟨by rfl, by intro WW hSw; (try dsimp only at hSw); go_simp⟩) (by assumption) ?_
    (try simp only [Act.put, List.setIfInBounds_toArray, List.set_cons_zero, List.set_cons_succ])
    refine wpAnyH_take (i := 2) (oi := ⟨some 8, _, _, _, _, _⟩) (v := .pointer (some ⟨g, 0, none⟩)) rfl (by kernel_rfl) (by kernel_rfl) (by kernel_rfl) (fun _ _ _ h => h) (Or.inl ⟨by rfl, by intro WW hSw; (try dsimp only at hSw); go_simp⟩) (by assumption) ?_
    (try simp only [Act.put, List.setIfInBounds_toArray, List.set_cons_zero, List.set_cons_succ])
    refine wpAnyH_take (i := 3) (oi := ⟨some 9, _, _, _, _, _⟩) (v := .pointer (some ⟨g, 0, none⟩)) rfl (by kernel_rfl) (by kernel_rfl) (by kernel_rfl) (fun _ _ _ h => h) (Or.inl ⟨by rfl, by intro WW hSw; (try dsimp only at hSw); go_simp⟩) (by assumption) ?_
    (try simp only [Act.put, List.setIfInBounds_toArray, List.set_cons_zero, List.set_cons_succ])
    refine wpAnyH_take (i := 4) (oi := ⟨some 10, _, _, _, _, _⟩) (v := .pointer (some ⟨g, 0, none⟩)) rfl (by kernel_rfl) (by kernel_rfl) (by kernel_rfl) (fun _ _ _ h => h) (Or.inl ⟨by rfl, by intro WW hSw; (try dsimp only at hSw); go_simp⟩) (by assumption) ?_
    (try simp only [Act.put, List.setIfInBounds_toArray, List.set_cons_zero, List.set_cons_succ])
    refine wpAnyH_take (i := 5) (oi := ⟨some 11, _, _, _, _, _⟩) (v := .pointer (some ⟨g, 4, none⟩)) rfl (by kernel_rfl) (by kernel_rfl) (by kernel_rfl) (fun _ _ _ h => h) (Or.inl ⟨by rfl, by intro WW hSw; (try dsimp only at hSw); go_simp⟩) (by assumption) ?_
    (try simp only [Act.put, List.setIfInBounds_toArray, List.set_cons_zero, List.set_cons_succ])
    refine wpAnyH_take (i := 6) (oi := ⟨some 12, _, _, _, _, _⟩) (v := .int .u64 (a : Int)) rfl (by kernel_rfl) (by kernel_rfl) (by kernel_rfl) (fun _ _ _ h => h) (Or.inl ⟨by rfl, by intro WW hSw; (try dsimp only at hSw); go_simp⟩) (by assumption) ?_
    (try simp only [Act.put, List.setIfInBounds_toArray, List.set_cons_zero, List.set_cons_succ])
    refine wpAnyH_one (i := 7) (oi := ⟨some 13, _, _, _, _, _⟩) rfl (by kernel_rfl) (fun K hK => ?_)
    refine step_calls (by rfl) 53 (fun args w => Try.call53 _ _) [.tmp 8, .tmp 12, .const (.int .i64 3)] _ rfl [.pointer (some ⟨g, 0, none⟩), .int .u64 (a : Int), .int .i64 3] rfl (HM.out) ?_
    rintro e w2 ⟨rfl, hq, hp⟩
    have HQ := Lib.hid hq
    have HP := Lib.hid hp
    clear hq hp HM
    refine ⟨_, rfl, hK _ _ (STQ.out _ HQ.out) (fun hSn => ?_)⟩
    clear hK K
    (try simp only [Act.put, List.setIfInBounds_toArray, List.set_cons_zero, List.set_cons_succ])
    refine wpAnyH_take (i := 8) (oi := ⟨some 5, _, _, _, _, _⟩) (v := .tuple #[.int .u64 v, .int .i64 kk]) rfl (by kernel_rfl) (by kernel_rfl) (by kernel_rfl) (fun _ _ _ h => h) (Or.inl ⟨by rfl, by intro WW hSw; (try dsimp only at hSw); go_simp⟩) (by assumption) ?_
    (try simp only [Act.put, List.setIfInBounds_toArray, List.set_cons_zero, List.set_cons_succ])
    refine wpAnyH_take (i := 9) (oi := ⟨some 14, _, _, _, _, _⟩) (v := .int .u64 v) rfl (by kernel_rfl) (by kernel_rfl) (by kernel_rfl) (fun _ _ _ h => h) (Or.inl ⟨by rfl, by intro WW hSw; (try dsimp only at hSw); go_simp⟩) (by assumption) ?_
    (try simp only [Act.put, List.setIfInBounds_toArray, List.set_cons_zero, List.set_cons_succ])
    refine wpAnyH_take (i := 10) (oi := ⟨some 15, _, _, _, _, _⟩) (v := .int .i64 kk) rfl (by kernel_rfl) (by kernel_rfl) (by kernel_rfl) (fun _ _ _ h => h) (Or.inl ⟨by rfl, by intro WW hSw; (try dsimp only at hSw); go_simp⟩) (by assumption) ?_
    (try simp only [Act.put, List.setIfInBounds_toArray, List.set_cons_zero, List.set_cons_succ])
    refine wpAnyH_take (i := 11) (oi := ⟨some 3, _, _, _, _, _⟩) (v := .int .u64 v) rfl (by kernel_rfl) (by kernel_rfl) (by kernel_rfl) (fun _ _ _ h => h) (Or.inl ⟨by rfl, by intro WW hSw; (try dsimp only at hSw); go_simp⟩) (by assumption) ?_
    (try simp only [Act.put, List.setIfInBounds_toArray, List.set_cons_zero, List.set_cons_succ])
    refine wpAnyH_take (i := 12) (oi := ⟨some 4, _, _, _, _, _⟩) (v := .int .i64 kk) rfl (by kernel_rfl) (by kernel_rfl) (by kernel_rfl) (fun _ _ _ h => h) (Or.inl ⟨by rfl, by intro WW hSw; (try dsimp only at hSw); go_simp⟩) (by assumption) ?_
    (try simp only [Act.put, List.setIfInBounds_toArray, List.set_cons_zero, List.set_cons_succ])
    refine wpAnyH_done (by kernel_rfl) ?_ _

    clear STQ hHeld hSn STAY HDR
    have c32 := (HQ.out.cell 32).trans (HS.out.rr 27 (by omega))
    have f32 := HQ.out.free 32
    obtain ⟨cs3, S3, I3⟩ := HSW.out _ HQ.out
    obtain ⟨W3, hW3⟩ : ∃ W3, W3 = w2.setCell ⟨g, 32, none⟩ (.int .u64 v) := ⟨_, rfl⟩
    rw [← hW3] at S3
    have HS3 := Lib.hid S3
    have HI3 := Lib.hid I3
    clear HSW HS
    have HF := Lib.hid (fun q : LowBy W3 => (show SnSw w2 q.W g cs3 from S3.below q.low))
    clear S3 I3
    go_wp2_with fail
    rw [← hW3]
    clear hW3 c32 f32
    refine wp_region_quiet_low (by assumption) (by kernel_rfl) ?_
    repeat (go_big_quiet_step (fail))
    refine wpQuiet_nil ?_
    intro _ hw'
    obtain ⟨q, hw''⟩ := hw'
    subst hw''
    have S4 := HF.out q
    have d1 := (S4.row.cell 1).trans HI3.out.c1
    have g1 := S4.row.free 1
    have HE := Lib.hid (show ∃ w1 cs', P w1 ∧ IsS cs' p (nextV 28 g) d k a r' wh wd lo n ∧ SnSw w1 (q.W.setCell ⟨g, 1, none⟩ (.func (.func 28) #[.pointer (some ⟨g, 0, none⟩)] #[])) g cs' from
      ⟨w2, _, HP.out, HI3.out.next _, S4.set 1 _⟩)
    clear HF S4 HS3 HI3
    go_wp2
    go_ret
    exact ⟨rfl, HE.out⟩
end Go.Proofs.Yteojhhfcfdkmdaa
/- What a run does next: a store, a flush, a fence, the end; for stores that may be. -/
namespace Go.Proofs.Yteojhhfcfdkmdaa
open Go.RowKit Go.Shelf
set_option linter.unusedVariables false
attribute [local go_sem] Oper.semAt_some

theorem geoLine_any {a : Nat} (h1 : a < 18446744073709551616) (w : World) : Calls Try.prog 71 #[.int .u64 (a : Int)] w fun e w' => e = .returned (.int .u64 ((a / 64 * 64 : Nat) : Int)) ∧ w = w' := by
  have e : (a : Int) - (a : Int) % 64 = ((a / 64 * 64 : Nat) : Int) := by omega
  have e2 : (0 : Int) ≤ (a : Int) - (a : Int) % 64 := by omega
  go_enter Try.func71, Try.ntmps71
  go_wp2
  go_ret
  exact ⟨by rw [show ((a / 64 * 64 : Nat) : Int) = (a : Int) / 64 * 64 from by omega]; rfl, rfl⟩

/-- What a step of a run turns: the memory's blocks, the run's own; new ones may come. -/
structure RT (w w' : World) (y y' : Lay) (rg : Nat) : Prop where
  g : y'.g = y.g
  but : But w w' (fun k => y.fp k ∨ k = rg)
  fp : ∀ k, y'.fp k → y.fp k ∨ w.heap.size ≤ k
theorem RT.of_turn {w w' : World} {y y' : Lay} (rg : Nat) (t : Turn w w' y y') : RT w w' y y' rg := ⟨t.g, t.but.mono fun k h => .inl h, t.fp⟩
theorem RT.trans {w w1 w2 : World} {y y1 y2 : Lay} {rg : Nat} (h : RT w w1 y y1 rg) (h2 : RT w1 w2 y1 y2 rg) : RT w w2 y y2 rg :=
  ⟨h2.g.trans h.g, h.but.trans h2.but fun k hk => by
    rcases hk with hk | hk
    · rcases h.fp k hk with h3 | h3
      · exact .inl (.inl h3)
      · exact .inr h3
    · exact .inl (.inr hk), fun k hk => by
    rcases h2.fp k hk with h3 | h3
    · exact h.fp k h3
    · exact .inr (Nat.le_trans h.but.size h3)⟩
theorem RT.set {w : World} (y : Lay) (rg i : Nat) (u : Value) : RT w (w.setCell ⟨rg, i, none⟩ u) y y rg := ⟨rfl, (But.refl w _).set (.inr rfl) u, fun _ h => .inl h⟩
theorem RT.of_below {w w' : World} (y : Lay) (rg : Nat) (h : Below w.heap.size w w') : RT w w' y y rg := ⟨rfl, But.of_below h _, fun _ h => .inl h⟩
theorem MemAt.rset {w : World} {y : Lay} {s : St} (h : MemAt w y s) {rg : Nat} (hn : ¬ y.fp rg) (i : Nat) (u : Value) : MemAt (w.setCell ⟨rg, i, none⟩ u) y s :=
  h.same fun k hk => heap_setCell_other w _ k u (fun e => hn (by have e' : k = rg := e; rw [← e']; exact hk))

/-- Whether a group ends behind a store at a, with these ahead. -/
def ends (a : Nat) : List (Nat × Nat) → Bool
  | [] => true
  | p :: _ => !(p.1 / 64 * 64 == a / 64 * 64)

/-- What follows a store at a, with these ahead. -/
def stNext (a : Nat) (t : List (Nat × Nat)) : Nat := if ends a t then 72 else 50
/-- What a run's store leaves. -/
def RstPost (w : World) (y : Lay) (s' : St) (rg : Nat) (p : Option Addr) (c L : Int) (f : Nat) (d : Bool) (k : Int) (t : List (Nat × Nat)) (ob : Option Nat) (w' : World) : Prop :=
  ∃ y' V', MemAt w' y' s' ∧ Row w' rg 113 (rcells p c V' L (nextV f rg) d k) ∧ Ahead w' V' t ∧ (t ≠ [] → V'.ownBlock = ob) ∧ RT w w' y y' rg
theorem rstore_fin {w w2 W : World} {y y2 : Lay} {s s' : St} {rg : Nat} {c L : Int} {V : Value} {t : List (Nat × Nat)} {d : Bool} {k : Int} {p : Option Addr} {u1 u2 : Value}
    (h : MemAt w y s) (h2 : MemAt w2 y2 s') (T : Turn w w2 y y2) (hb : Below (((w2.setCell ⟨rg, 2, none⟩ u1).setCell ⟨rg, 3, none⟩ u2).drew).heap.size (((w2.setCell ⟨rg, 2, none⟩ u1).setCell ⟨rg, 3, none⟩ u2).drew) W)
    (hr : Row (((w2.setCell ⟨rg, 2, none⟩ u1).setCell ⟨rg, 3, none⟩ u2).drew) rg 113 (rcells p c V L (nextV 50 rg) d k)) (sep : ¬ y.fp rg) (hrl : rg < w.heap.size) (hA : Ahead w V t) (hAs : ∀ b, V.ownBlock = some b → t ≠ [] → ¬ y.fp b ∧ b ≠ rg) :
    (MemAt W y2 s' ∧ Row W rg 113 (rcells p c V L (nextV 50 rg) d k) ∧ Ahead W V t ∧ RT w W y y2 rg) ∧
    (MemAt (W.setCell ⟨rg, 4, none⟩ (nextV 72 rg)) y2 s' ∧ Row (W.setCell ⟨rg, 4, none⟩ (nextV 72 rg)) rg 113 (rcells p c V L (nextV 72 rg) d k) ∧ Ahead (W.setCell ⟨rg, 4, none⟩ (nextV 72 rg)) V t ∧ RT w (W.setCell ⟨rg, 4, none⟩ (nextV 72 rg)) y y2 rg) := by
  have sep2 : ¬ y2.fp rg := fun hf => by
    rcases T.fp rg hf with h1 | h1
    · exact sep h1
    · omega
  have m3 : MemAt (((w2.setCell ⟨rg, 2, none⟩ u1).setCell ⟨rg, 3, none⟩ u2).drew) y2 s' := ((h2.rset sep2 2 u1).rset sep2 3 u2).below (drew_below _)
  have mW := m3.below hb
  have T2 : RT w w2 y y2 rg := RT.of_turn rg T
  have T3 : RT w (((w2.setCell ⟨rg, 2, none⟩ u1).setCell ⟨rg, 3, none⟩ u2).drew) y y2 rg := ((T2.trans (RT.set y2 rg 2 u1)).trans (RT.set y2 rg 3 u2)).trans (RT.of_below y2 rg (drew_below _))
  have T4 := T3.trans (RT.of_below y2 rg hb)
  have T5 := T4.trans (RT.set y2 rg 4 (nextV 72 rg))
  have rW := hr.below hb hr.lt
  have ah : ∀ W' y', RT w W' y y' rg → Ahead W' V t := fun W' y' T' => by
    by_cases h0 : t = []
    · rcases hA with h1 | ⟨h1, _⟩
      · exact .inl h1
      · exact absurd h0 h1
    · exact hA.same fun b hb' => T'.but.block b (hA.lt h0 hb') (by
        rintro (h1 | h1)
        · exact (hAs b hb' h0).1 h1
        · exact (hAs b hb' h0).2 h1)
  exact ⟨⟨mW, rW, ah _ _ T4, T4⟩, mW.rset sep2 4 _, rW.set 4 _, ah _ _ T5, T5⟩

set_option maxRecDepth 100000 in
set_option maxHeartbeats 3200000 in
theorem rstore_any {w : World} {y : Lay} {s : St} (h : MemAt w y s) {rg a v : Nat} {c line : Int} {t : List (Nat × Nat)} {V : Value} {d : Bool} {k : Int}
    (hr : Row w rg 113 (rcells (some ⟨y.g, 0, none⟩) c V line (nextV 50 rg) d k)) (ha : Ahead w V ((a, v) :: t)) (sep : ¬ y.fp rg) (vsep : ∀ b, V.ownBlock = some b → ¬ y.fp b ∧ b ≠ rg)
    (h8 : a % 8 = 0) (h64 : a < 64 * s.nl) (hv : v < 18446744073709551616) (hst : s.st < 9223372036854775808) (hn : ∀ l ∈ s.pend, l.length ≤ 1000000000) (ht : ∀ p ∈ t, p.1 < 18446744073709551616) :
    Calls Try.prog 50 #[.pointer (some ⟨rg, 0, none⟩)] w fun e w' => e = .returned (.int .i64 0) ∧ RstPost w y (s.store a v) rg (some ⟨y.g, 0, none⟩) c ((a / 64 * 64 : Nat) : Int) (stNext a t) d k t V.ownBlock w' := by
  have hmost := h.most
  have HL0 := Lib.hid fun W => geoLine_any (a := a) (by omega) W
  obtain ⟨L, hL⟩ : ∃ L, L = ((a / 64 * 64 : Nat) : Int) := ⟨_, rfl⟩
  rw [← hL] at HL0 ⊢
  have HLE := Lib.hid hL
  clear hL
  have HL := HL0
  clear HL0
  have hlen1 : (1 : Int) ≤ (t.length : Int) + 1 := by omega
  have HA := Lib.hid ha
  rcases ha with ⟨e, _⟩ | ⟨_, g, off, cap, rfl, hlc, hcm, hcell⟩
  · cases e
  obtain ⟨hs1, hs2⟩ := vsep g rfl
  have c0 := hr.cell 0
  have c2 := hr.cell 2
  simp only [rcells, List.getElem?_toArray, List.getElem?_cons_succ, List.getElem?_cons_zero] at c0 c2
  obtain ⟨P2, hP2⟩ : ∃ P2 : Option Addr, P2 = (if cap = 1 then some ⟨g, off, none⟩ else some ⟨g, off + 2, none⟩) := ⟨_, rfl⟩
  have hP3 : t ≠ [] → P2 = some ⟨g, off + 2, none⟩ := fun h0 => by
    have := List.length_pos_iff.2 h0
    rw [hP2, if_neg (by simp only [List.length_cons] at hlc; omega)]
  have p0 := hcell 0 (wv a) rfl
  have p1 := hcell 1 (wv v) rfl
  simp only [Nat.add_zero] at p0
  unfold wv at p0 p1
  simp only [List.length_cons] at c2 hlc
  obtain ⟨W1, hW1⟩ : ∃ W1, W1 = w.alloc (.cells #[.int .u64 (a : Int), .int .u64 (v : Int)] 64) := ⟨_, rfl⟩
  have hb1 : Below w.heap.size w W1 := by rw [hW1]; exact alloc_below _ _
  have hp1 : Row W1 w.heap.size 64 #[.int .u64 (a : Int), .int .u64 (v : Int)] := by rw [hW1]; exact Row.new _ _ _
  have hr1 := hr.below hb1 hr.lt
  have k0 := hr1.cell 0
  have k1 := hp1.cell 0
  have k2 := hp1.cell 1
  simp only [rcells, List.getElem?_toArray, List.getElem?_cons_succ, List.getElem?_cons_zero] at k0 k1 k2
  have ca := fun p : LowBy W1 => p.cell k0
  have cb := fun p : LowBy W1 => p.cell k1
  have cc := fun p : LowBy W1 => p.cell k2
  have mixed : Try.prog.follows .mixedOrders = true := by kernel_rfl
  have HST := Lib.hid fun (p : LowBy W1) => store_ok (h.below (hb1.trans (p.low.mono hb1.size))) a v h8 h64 hv hst hn
  have HM := Lib.hid h
  have HR := Lib.hid hr
  have HB1 := Lib.hid hb1
  have HCL := Lib.hid hcell
  have hgs : g < w.heap.size := block_lt_of_cell p0
  have HRL := Lib.hid hr.lt
  have HAH := Lib.hid (show Ahead w (.slice P2 t.length (cap - 1)) t from by
    cases t with
    | nil => exact .inl ⟨rfl, _, _, rfl, by omega⟩
    | cons bu t' =>
      refine .inr ⟨by simp, g, off + 2, cap - 1, by rw [hP3 (by simp)], by simp only [List.length_cons] at hlc ⊢; omega, by omega, fun i u hu => ?_⟩
      have := hcell (i + 2) u (by rw [flat_cons]; exact hu)
      rw [show off + 2 + i = off + (i + 2) from by omega]
      exact this)
  have HAS := Lib.hid (show ∀ b, (Value.slice P2 t.length (cap - 1)).ownBlock = some b → t ≠ [] → ¬ y.fp b ∧ b ≠ rg from fun b hb h0 => by
    rw [hP3 h0] at hb
    exact vsep b hb)
  have HP2 := Lib.hid hP2
  have HP3 := Lib.hid hP3
  clear hP2 hP3
  clear h hr hr1 hp1 k0 k1 k2 hcell hb1 hst hn hv h8
  go_enter Try.func50, Try.ntmps50
  go_wp2_with fail
  rw [← hW1]
  refine wp_region_low_tail 8 (by assumption) (by kernel_rfl) ?_
  simp only [List.take_succ_cons, List.take_zero, List.drop_succ_cons, List.drop_zero]
  repeat (go_big_quiet_step (fail))
  refine wpQuiet_nil ?_
  intro _ hw'
  obtain ⟨p, hw''⟩ := hw'
  subst hw''
  clear ca cb cc
  go_wp2_with fail
  refine (HST.out p).mono ?_
  rintro e w2 ⟨rfl, y2, hm2, ht2⟩
  have T2 : Turn w w2 y y2 := (Turn.of_below y (Below.and HB1.out p.low)).trans ht2
  have B2 := T2.but
  have hr2 : Row w2 rg 113 (rcells (some ⟨y.g, 0, none⟩) c (.slice (some ⟨g, off, none⟩) (t.length + 1) cap) line (nextV 50 rg) d k) := B2.row HR.out sep
  have hp2 : Row w2 w.heap.size 64 #[.int .u64 (a : Int), .int .u64 (v : Int)] := by
    have r1 : Row W1 w.heap.size 64 #[.int .u64 (a : Int), .int .u64 (v : Int)] := by rw [hW1]; exact Row.new _ _ _
    exact ht2.but.row (r1.below p.low r1.lt) (fun hf => Nat.lt_irrefl _ (HM.out.lt _ hf))
  have j2 := hr2.cell 2
  have j3 := hr2.cell 3
  have j4 := hr2.cell 4
  simp only [rcells, List.getElem?_toArray, List.getElem?_cons_succ, List.getElem?_cons_zero] at j2 j3 j4
  have l2 := hr2.free 2
  have l3 := hr2.free 3
  have l4 := hr2.free 4
  have m0 := hp2.cell 0
  simp only [List.getElem?_toArray, List.getElem?_cons_succ, List.getElem?_cons_zero] at m0
  have HM2 := Lib.hid hm2
  have HT2 := Lib.hid T2
  have HR2 := Lib.hid hr2
  have HSZ := Lib.hid (show w.heap.size ≤ w2.heap.size from B2.size)
  clear hm2 ht2 T2 hr2 hp2 c0 c2 p0 p1 hW1 HST HB1 HR HSZ
  go_wp2_with fail
  refine wp_region_any (by kernel_rfl) ?_
  change wpAny _ _ _ _ _ _ _ (World.drew _)
  refine wpAny_take (i := 0) (oi := ⟨some 23, _, _, _, _, _⟩) (v := .pointer (some ⟨rg, 0, none⟩)) rfl (by kernel_rfl) (by kernel_rfl) (by kernel_rfl) (fun _ _ _ h => h) (Or.inl ⟨by kernel_rfl, by intro w; go_simp⟩) ?_
  simp only [Act.put, List.setIfInBounds_toArray, List.set_cons_zero, List.set_cons_succ]
  refine wpAny_take (i := 1) (oi := ⟨some 24, _, _, _, _, _⟩) (v := .pointer (some ⟨rg, 0, none⟩)) rfl (by kernel_rfl) (by kernel_rfl) (by kernel_rfl) (fun _ _ _ h => h) (Or.inl ⟨by kernel_rfl, by intro w; go_simp⟩) ?_
  simp only [Act.put, List.setIfInBounds_toArray, List.set_cons_zero, List.set_cons_succ]
  refine wpAny_take (i := 2) (oi := ⟨some 25, _, _, _, _, _⟩) (v := .pointer (some ⟨rg, 0, none⟩)) rfl (by kernel_rfl) (by kernel_rfl) (by kernel_rfl) (fun _ _ _ h => h) (Or.inl ⟨by kernel_rfl, by intro w; go_simp⟩) ?_
  simp only [Act.put, List.setIfInBounds_toArray, List.set_cons_zero, List.set_cons_succ]
  refine wpAny_take (i := 3) (oi := ⟨some 26, _, _, _, _, _⟩) (v := .pointer (some ⟨rg, 0, none⟩)) rfl (by kernel_rfl) (by kernel_rfl) (by kernel_rfl) (fun _ _ _ h => h) (Or.inl ⟨by kernel_rfl, by intro w; go_simp⟩) ?_
  simp only [Act.put, List.setIfInBounds_toArray, List.set_cons_zero, List.set_cons_succ]
  refine wpAny_take (i := 4) (oi := ⟨some 27, _, _, _, _, _⟩) (v := .pointer (some ⟨rg, 2, none⟩)) rfl (by kernel_rfl) (by kernel_rfl) (by kernel_rfl) (fun _ _ _ h => h) (Or.inl ⟨by kernel_rfl, by intro w; go_simp⟩) ?_
  simp only [Act.put, List.setIfInBounds_toArray, List.set_cons_zero, List.set_cons_succ]
  refine wpAny_take (i := 7) (oi := ⟨some 30, _, _, _, _, _⟩) (v := .pointer (some ⟨w.heap.size, 0, none⟩)) rfl (by kernel_rfl) (by kernel_rfl) (by kernel_rfl) (fun _ _ _ h => h) (Or.inl ⟨by kernel_rfl, by intro w; go_simp⟩) ?_
  simp only [Act.put, List.setIfInBounds_toArray, List.set_cons_zero, List.set_cons_succ]
  refine wpAny_ready (rs := [5, 8]) (by kernel_rfl) (by simp) ?_
  refine AllReady.cons rfl (fun K hK => ?_) (AllReady.cons rfl (fun K hK => ?_) AllReady.nil)
  · skip
    go_simp
    refine hK _ _ ?_
    clear hK K
    refine wpAny_take (i := 6) (oi := ⟨some 29, _, _, _, _, _⟩) (v := .slice P2 t.length (cap - 1)) rfl (by kernel_rfl) (by kernel_rfl) (by kernel_rfl) (fun _ _ _ h => h) (Or.inl ⟨by kernel_rfl, by intro w; go_simp; rw [HP2.out]⟩) ?_
    simp only [Act.put, List.setIfInBounds_toArray, List.set_cons_zero, List.set_cons_succ]
    refine wpAny_ready (rs := [8]) (by kernel_rfl) (by simp) ?_
    refine AllReady.cons rfl (fun K hK => ?_) AllReady.nil
    go_simp
    refine hK _ _ ?_
    clear hK K
    refine wpAny_ready (rs := [9]) (by kernel_rfl) (by simp) ?_
    refine AllReady.cons rfl (fun K hK => ?_) AllReady.nil
    go_simp
    refine (HL.out _).mono ?_
    rintro e wy ⟨rfl, rfl⟩
    refine hK _ _ ?_
    clear hK K
    refine wpAny_take (i := 10) (oi := ⟨some 33, _, _, _, _, _⟩) (v := .pointer (some ⟨rg, 0, none⟩)) rfl (by kernel_rfl) (by kernel_rfl) (by kernel_rfl) (fun _ _ _ h => h) (Or.inl ⟨by kernel_rfl, by intro w; go_simp⟩) ?_
    simp only [Act.put, List.setIfInBounds_toArray, List.set_cons_zero, List.set_cons_succ]
    refine wpAny_take (i := 11) (oi := ⟨some 34, _, _, _, _, _⟩) (v := .pointer (some ⟨rg, 2, none⟩)) rfl (by kernel_rfl) (by kernel_rfl) (by kernel_rfl) (fun _ _ _ h => h) (Or.inl ⟨by kernel_rfl, by intro w; go_simp⟩) ?_
    simp only [Act.put, List.setIfInBounds_toArray, List.set_cons_zero, List.set_cons_succ]
    refine wpAny_ready (rs := [12]) (by kernel_rfl) (by simp) ?_
    refine AllReady.cons rfl (fun K hK => ?_) AllReady.nil
    go_simp
    refine hK _ _ ?_
    clear hK K
    refine wpAny_take (i := 13) (oi := ⟨some 35, _, _, _, _, _⟩) (v := .pointer (some ⟨rg, 0, none⟩)) rfl (by kernel_rfl) (by kernel_rfl) (by kernel_rfl) (fun _ _ _ h => h) (Or.inl ⟨by kernel_rfl, by intro w; go_simp⟩) ?_
    simp only [Act.put, List.setIfInBounds_toArray, List.set_cons_zero, List.set_cons_succ]
    refine wpAny_take (i := 14) (oi := ⟨some 36, _, _, _, _, _⟩) (v := .pointer (some ⟨rg, 3, none⟩)) rfl (by kernel_rfl) (by kernel_rfl) (by kernel_rfl) (fun _ _ _ h => h) (Or.inl ⟨by kernel_rfl, by intro w; go_simp⟩) ?_
    simp only [Act.put, List.setIfInBounds_toArray, List.set_cons_zero, List.set_cons_succ]
    refine wpAny_ready (rs := [15]) (by kernel_rfl) (by simp) ?_
    refine AllReady.cons rfl (fun K hK => ?_) AllReady.nil
    go_simp
    refine hK _ _ ?_
    clear hK K
    refine wpAny_done (by kernel_rfl) ?_ _
    obtain ⟨W3, hW3⟩ : ∃ W3, W3 = ((w2.setCell ⟨rg, 2, none⟩ (.slice P2 t.length (cap - 1))).setCell ⟨rg, 3, none⟩ (.int .u64 L)).drew := ⟨_, rfl⟩
    rw [← hW3]
    have hr3 : Row W3 rg 113 (rcells (some ⟨y.g, 0, none⟩) c (.slice P2 t.length (cap - 1)) L (nextV 50 rg) d k) := by
      rw [hW3]
      exact ((HR2.out.set 2 _).set 3 _).below (drew_below _) (((HR2.out.set 2 _).set 3 _).lt)
    have n2 := hr3.cell 2
    have n3 := hr3.cell 3
    simp only [rcells, List.getElem?_toArray, List.getElem?_cons_succ, List.getElem?_cons_zero] at n2 n3
    have FIN := Lib.hid fun (p3 : LowBy W3) => rstore_fin (V := .slice P2 t.length (cap - 1)) HM.out HM2.out HT2.out (by rw [← hW3]; exact p3.low) (by rw [← hW3]; exact hr3) sep HRL.out HAH.out HAS.out
    have HOW := Lib.hid (show t ≠ [] → (Value.slice P2 t.length (cap - 1)).ownBlock = some g from fun h0 => by rw [HP3.out h0]; rfl)
    have ca := fun p : LowBy W3 => p.cell n2
    have cb := fun p : LowBy W3 => p.cell n3
    cases t with
    | nil =>
      clear j2 j3 j4 m0 l2 l3 l4 n2 n3 hr3 hW3
      go_wp2_with fail
      refine wp_region_quiet_low (by assumption) (by kernel_rfl) ?_
      repeat (go_big_quiet_step (fail))
      refine wpQuiet_nil ?_
      intro _ hw'
      obtain ⟨p3, hw''⟩ := hw'
      subst hw''
      clear ca cb
      have F := FIN.out p3
      have n4 := F.1.2.1.cell 4
      have l4 := F.1.2.1.free 4
      simp only [rcells, List.getElem?_toArray, List.getElem?_cons_succ, List.getElem?_cons_zero] at n4
      have F := Lib.hid F.2
      clear FIN
      unfold nextV at F
      go_wp2
      go_ret
      exact ⟨rfl, y2, .slice P2 0 (cap - 1), F.out.1, F.out.2.1, F.out.2.2.1, fun h0 => absurd rfl h0, F.out.2.2.2⟩
    | cons bu t' =>
      obtain ⟨b, u⟩ := bu
      obtain ⟨g', off', q0, hPP⟩ : ∃ g' off', W3.cell? ⟨g', off', none⟩ = some (.int .u64 (b : Int)) ∧ P2 = some ⟨g', off', none⟩ := by
        rcases (FIN.out ⟨W3, Below.refl _ _⟩).1.2.2.1 with ⟨h0, _⟩ | ⟨_, g', off', cap', he, _, _, hc⟩
        · cases h0
        · injection he with he1 _ _
          exact ⟨g', off', hc 0 _ (by rw [flat_cons]; rfl), he1⟩
      subst hPP
      have cd := fun p : LowBy W3 => p.cell q0
      obtain ⟨Lb, hLb⟩ : ∃ Lb, Lb = ((b / 64 * 64 : Nat) : Int) := ⟨_, rfl⟩
      have HLb := Lib.hid fun (p : LowBy W3) => Calls.low_of_same (w := W3) (p := p) (geoLine_any (a := b) (ht (b, u) List.mem_cons_self) p.W)
      rw [← hLb] at HLb
      have HE : Lb = L ↔ b / 64 * 64 = a / 64 * 64 := by rw [hLb, HLE.out]; omega
      have hz1 : (((((b, u) :: t').length : Nat) : Int) == 0) = false := by simp only [List.length_cons]; rw [beq_eq_false_iff_ne]; omega
      have hz2 : (((t'.length + 1 : Nat) : Int) == 0) = false := by rw [beq_eq_false_iff_ne]; omega
      have hz3 : (((t'.length : Nat) : Int) + 1 == 0) = false := by rw [beq_eq_false_iff_ne]; omega
      have HEE := Lib.hid (show ends a ((b, u) :: t') = !(b / 64 * 64 == a / 64 * 64) from rfl)
      have HEQ := Lib.hid HE
      clear j2 j3 j4 m0 l2 l3 l4 n2 n3 hr3 hW3 HE hLb q0 HP2 HP3
      by_cases hEq : Lb = L
      · have e1 : (Lb == L) = true := by rw [beq_iff_eq]; exact hEq
        have e2 : (Lb != L) = false := by simp [bne, e1]
        have e3 : ends a ((b, u) :: t') = false := by rw [HEE.out, HEQ.out.1 hEq]; simp
        have E3 := Lib.hid e3
        clear hEq e3
        go_wp2_with fail
        refine wp_region_quiet_low (by assumption) (by kernel_rfl) ?_
        repeat (go_big_quiet_step ((go_at_call 71; with_reducible exact HLb.out _)))
        refine wpQuiet_nil ?_
        intro _ hw'
        obtain ⟨p3, hw''⟩ := hw'
        subst hw''
        clear ca cb cd
        have F := Lib.hid (FIN.out p3).1
        clear FIN
        go_wp2
        go_ret
        refine ⟨rfl, ?_⟩
        unfold stNext
        rw [E3.out]
        exact ⟨y2, _, F.out.1, F.out.2.1, F.out.2.2.1, HOW.out, F.out.2.2.2⟩
      · have e1 : (Lb == L) = false := by rw [beq_eq_false_iff_ne]; exact hEq
        have e2 : (Lb != L) = true := by simp [bne, e1]
        have e3 : ends a ((b, u) :: t') = true := by
          rw [HEE.out]
          simp only [Bool.not_eq_true', beq_eq_false_iff_ne]
          exact fun h => hEq (HEQ.out.2 h)
        have E3 := Lib.hid e3
        clear hEq e3
        go_wp2_with fail
        refine wp_region_quiet_low (by assumption) (by kernel_rfl) ?_
        repeat (go_big_quiet_step ((go_at_call 71; with_reducible exact HLb.out _)))
        refine wpQuiet_nil ?_
        intro _ hw'
        obtain ⟨p3, hw''⟩ := hw'
        subst hw''
        clear ca cb cd
        have F := FIN.out p3
        have n4 := F.1.2.1.cell 4
        have l4 := F.1.2.1.free 4
        simp only [rcells, List.getElem?_toArray, List.getElem?_cons_succ, List.getElem?_cons_zero] at n4
        have F := Lib.hid F.2
        clear FIN
        unfold nextV at F
        go_wp2
        go_ret
        refine ⟨rfl, ?_⟩
        unfold stNext
        rw [E3.out]
        exact ⟨y2, _, F.out.1, F.out.2.1, F.out.2.2.1, HOW.out, F.out.2.2.2⟩
  · skip
    go_simp
    refine hK _ _ ?_
    clear hK K
    refine wpAny_ready (rs := [5, 9]) (by kernel_rfl) (by simp) ?_
    refine AllReady.cons rfl (fun K hK => ?_) (AllReady.cons rfl (fun K hK => ?_) AllReady.nil)
    · skip
      go_simp
      refine hK _ _ ?_
      clear hK K
      refine wpAny_take (i := 6) (oi := ⟨some 29, _, _, _, _, _⟩) (v := .slice P2 t.length (cap - 1)) rfl (by kernel_rfl) (by kernel_rfl) (by kernel_rfl) (fun _ _ _ h => h) (Or.inl ⟨by kernel_rfl, by intro w; go_simp; rw [HP2.out]⟩) ?_
      simp only [Act.put, List.setIfInBounds_toArray, List.set_cons_zero, List.set_cons_succ]
      refine wpAny_ready (rs := [9]) (by kernel_rfl) (by simp) ?_
      refine AllReady.cons rfl (fun K hK => ?_) AllReady.nil
      go_simp
      refine (HL.out _).mono ?_
      rintro e wy ⟨rfl, rfl⟩
      refine hK _ _ ?_
      clear hK K
      refine wpAny_take (i := 10) (oi := ⟨some 33, _, _, _, _, _⟩) (v := .pointer (some ⟨rg, 0, none⟩)) rfl (by kernel_rfl) (by kernel_rfl) (by kernel_rfl) (fun _ _ _ h => h) (Or.inl ⟨by kernel_rfl, by intro w; go_simp⟩) ?_
      simp only [Act.put, List.setIfInBounds_toArray, List.set_cons_zero, List.set_cons_succ]
      refine wpAny_take (i := 11) (oi := ⟨some 34, _, _, _, _, _⟩) (v := .pointer (some ⟨rg, 2, none⟩)) rfl (by kernel_rfl) (by kernel_rfl) (by kernel_rfl) (fun _ _ _ h => h) (Or.inl ⟨by kernel_rfl, by intro w; go_simp⟩) ?_
      simp only [Act.put, List.setIfInBounds_toArray, List.set_cons_zero, List.set_cons_succ]
      refine wpAny_ready (rs := [12]) (by kernel_rfl) (by simp) ?_
      refine AllReady.cons rfl (fun K hK => ?_) AllReady.nil
      go_simp
      refine hK _ _ ?_
      clear hK K
      refine wpAny_take (i := 13) (oi := ⟨some 35, _, _, _, _, _⟩) (v := .pointer (some ⟨rg, 0, none⟩)) rfl (by kernel_rfl) (by kernel_rfl) (by kernel_rfl) (fun _ _ _ h => h) (Or.inl ⟨by kernel_rfl, by intro w; go_simp⟩) ?_
      simp only [Act.put, List.setIfInBounds_toArray, List.set_cons_zero, List.set_cons_succ]
      refine wpAny_take (i := 14) (oi := ⟨some 36, _, _, _, _, _⟩) (v := .pointer (some ⟨rg, 3, none⟩)) rfl (by kernel_rfl) (by kernel_rfl) (by kernel_rfl) (fun _ _ _ h => h) (Or.inl ⟨by kernel_rfl, by intro w; go_simp⟩) ?_
      simp only [Act.put, List.setIfInBounds_toArray, List.set_cons_zero, List.set_cons_succ]
      refine wpAny_ready (rs := [15]) (by kernel_rfl) (by simp) ?_
      refine AllReady.cons rfl (fun K hK => ?_) AllReady.nil
      go_simp
      refine hK _ _ ?_
      clear hK K
      refine wpAny_done (by kernel_rfl) ?_ _
      obtain ⟨W3, hW3⟩ : ∃ W3, W3 = ((w2.setCell ⟨rg, 2, none⟩ (.slice P2 t.length (cap - 1))).setCell ⟨rg, 3, none⟩ (.int .u64 L)).drew := ⟨_, rfl⟩
      rw [← hW3]
      have hr3 : Row W3 rg 113 (rcells (some ⟨y.g, 0, none⟩) c (.slice P2 t.length (cap - 1)) L (nextV 50 rg) d k) := by
        rw [hW3]
        exact ((HR2.out.set 2 _).set 3 _).below (drew_below _) (((HR2.out.set 2 _).set 3 _).lt)
      have n2 := hr3.cell 2
      have n3 := hr3.cell 3
      simp only [rcells, List.getElem?_toArray, List.getElem?_cons_succ, List.getElem?_cons_zero] at n2 n3
      have FIN := Lib.hid fun (p3 : LowBy W3) => rstore_fin (V := .slice P2 t.length (cap - 1)) HM.out HM2.out HT2.out (by rw [← hW3]; exact p3.low) (by rw [← hW3]; exact hr3) sep HRL.out HAH.out HAS.out
      have HOW := Lib.hid (show t ≠ [] → (Value.slice P2 t.length (cap - 1)).ownBlock = some g from fun h0 => by rw [HP3.out h0]; rfl)
      have ca := fun p : LowBy W3 => p.cell n2
      have cb := fun p : LowBy W3 => p.cell n3
      cases t with
      | nil =>
        clear j2 j3 j4 m0 l2 l3 l4 n2 n3 hr3 hW3
        go_wp2_with fail
        refine wp_region_quiet_low (by assumption) (by kernel_rfl) ?_
        repeat (go_big_quiet_step (fail))
        refine wpQuiet_nil ?_
        intro _ hw'
        obtain ⟨p3, hw''⟩ := hw'
        subst hw''
        clear ca cb
        have F := FIN.out p3
        have n4 := F.1.2.1.cell 4
        have l4 := F.1.2.1.free 4
        simp only [rcells, List.getElem?_toArray, List.getElem?_cons_succ, List.getElem?_cons_zero] at n4
        have F := Lib.hid F.2
        clear FIN
        unfold nextV at F
        go_wp2
        go_ret
        exact ⟨rfl, y2, .slice P2 0 (cap - 1), F.out.1, F.out.2.1, F.out.2.2.1, fun h0 => absurd rfl h0, F.out.2.2.2⟩
      | cons bu t' =>
        obtain ⟨b, u⟩ := bu
        obtain ⟨g', off', q0, hPP⟩ : ∃ g' off', W3.cell? ⟨g', off', none⟩ = some (.int .u64 (b : Int)) ∧ P2 = some ⟨g', off', none⟩ := by
          rcases (FIN.out ⟨W3, Below.refl _ _⟩).1.2.2.1 with ⟨h0, _⟩ | ⟨_, g', off', cap', he, _, _, hc⟩
          · cases h0
          · injection he with he1 _ _
            exact ⟨g', off', hc 0 _ (by rw [flat_cons]; rfl), he1⟩
        subst hPP
        have cd := fun p : LowBy W3 => p.cell q0
        obtain ⟨Lb, hLb⟩ : ∃ Lb, Lb = ((b / 64 * 64 : Nat) : Int) := ⟨_, rfl⟩
        have HLb := Lib.hid fun (p : LowBy W3) => Calls.low_of_same (w := W3) (p := p) (geoLine_any (a := b) (ht (b, u) List.mem_cons_self) p.W)
        rw [← hLb] at HLb
        have HE : Lb = L ↔ b / 64 * 64 = a / 64 * 64 := by rw [hLb, HLE.out]; omega
        have hz1 : (((((b, u) :: t').length : Nat) : Int) == 0) = false := by simp only [List.length_cons]; rw [beq_eq_false_iff_ne]; omega
        have hz2 : (((t'.length + 1 : Nat) : Int) == 0) = false := by rw [beq_eq_false_iff_ne]; omega
        have hz3 : (((t'.length : Nat) : Int) + 1 == 0) = false := by rw [beq_eq_false_iff_ne]; omega
        have HEE := Lib.hid (show ends a ((b, u) :: t') = !(b / 64 * 64 == a / 64 * 64) from rfl)
        have HEQ := Lib.hid HE
        clear j2 j3 j4 m0 l2 l3 l4 n2 n3 hr3 hW3 HE hLb q0 HP2 HP3
        by_cases hEq : Lb = L
        · have e1 : (Lb == L) = true := by rw [beq_iff_eq]; exact hEq
          have e2 : (Lb != L) = false := by simp [bne, e1]
          have e3 : ends a ((b, u) :: t') = false := by rw [HEE.out, HEQ.out.1 hEq]; simp
          have E3 := Lib.hid e3
          clear hEq e3
          go_wp2_with fail
          refine wp_region_quiet_low (by assumption) (by kernel_rfl) ?_
          repeat (go_big_quiet_step ((go_at_call 71; with_reducible exact HLb.out _)))
          refine wpQuiet_nil ?_
          intro _ hw'
          obtain ⟨p3, hw''⟩ := hw'
          subst hw''
          clear ca cb cd
          have F := Lib.hid (FIN.out p3).1
          clear FIN
          go_wp2
          go_ret
          refine ⟨rfl, ?_⟩
          unfold stNext
          rw [E3.out]
          exact ⟨y2, _, F.out.1, F.out.2.1, F.out.2.2.1, HOW.out, F.out.2.2.2⟩
        · have e1 : (Lb == L) = false := by rw [beq_eq_false_iff_ne]; exact hEq
          have e2 : (Lb != L) = true := by simp [bne, e1]
          have e3 : ends a ((b, u) :: t') = true := by
            rw [HEE.out]
            simp only [Bool.not_eq_true', beq_eq_false_iff_ne]
            exact fun h => hEq (HEQ.out.2 h)
          have E3 := Lib.hid e3
          clear hEq e3
          go_wp2_with fail
          refine wp_region_quiet_low (by assumption) (by kernel_rfl) ?_
          repeat (go_big_quiet_step ((go_at_call 71; with_reducible exact HLb.out _)))
          refine wpQuiet_nil ?_
          intro _ hw'
          obtain ⟨p3, hw''⟩ := hw'
          subst hw''
          clear ca cb cd
          have F := FIN.out p3
          have n4 := F.1.2.1.cell 4
          have l4 := F.1.2.1.free 4
          simp only [rcells, List.getElem?_toArray, List.getElem?_cons_succ, List.getElem?_cons_zero] at n4
          have F := Lib.hid F.2
          clear FIN
          unfold nextV at F
          go_wp2
          go_ret
          refine ⟨rfl, ?_⟩
          unfold stNext
          rw [E3.out]
          exact ⟨y2, _, F.out.1, F.out.2.1, F.out.2.2.1, HOW.out, F.out.2.2.2⟩
    · skip
      go_simp
      refine (HL.out _).mono ?_
      rintro e wy ⟨rfl, rfl⟩
      refine hK _ _ ?_
      clear hK K
      refine wpAny_ready (rs := [5]) (by kernel_rfl) (by simp) ?_
      refine AllReady.cons rfl (fun K hK => ?_) AllReady.nil
      go_simp
      refine hK _ _ ?_
      clear hK K
      refine wpAny_take (i := 6) (oi := ⟨some 29, _, _, _, _, _⟩) (v := .slice P2 t.length (cap - 1)) rfl (by kernel_rfl) (by kernel_rfl) (by kernel_rfl) (fun _ _ _ h => h) (Or.inl ⟨by kernel_rfl, by intro w; go_simp; rw [HP2.out]⟩) ?_
      simp only [Act.put, List.setIfInBounds_toArray, List.set_cons_zero, List.set_cons_succ]
      refine wpAny_take (i := 10) (oi := ⟨some 33, _, _, _, _, _⟩) (v := .pointer (some ⟨rg, 0, none⟩)) rfl (by kernel_rfl) (by kernel_rfl) (by kernel_rfl) (fun _ _ _ h => h) (Or.inl ⟨by kernel_rfl, by intro w; go_simp⟩) ?_
      simp only [Act.put, List.setIfInBounds_toArray, List.set_cons_zero, List.set_cons_succ]
      refine wpAny_take (i := 11) (oi := ⟨some 34, _, _, _, _, _⟩) (v := .pointer (some ⟨rg, 2, none⟩)) rfl (by kernel_rfl) (by kernel_rfl) (by kernel_rfl) (fun _ _ _ h => h) (Or.inl ⟨by kernel_rfl, by intro w; go_simp⟩) ?_
      simp only [Act.put, List.setIfInBounds_toArray, List.set_cons_zero, List.set_cons_succ]
      refine wpAny_ready (rs := [12]) (by kernel_rfl) (by simp) ?_
      refine AllReady.cons rfl (fun K hK => ?_) AllReady.nil
      go_simp
      refine hK _ _ ?_
      clear hK K
      refine wpAny_take (i := 13) (oi := ⟨some 35, _, _, _, _, _⟩) (v := .pointer (some ⟨rg, 0, none⟩)) rfl (by kernel_rfl) (by kernel_rfl) (by kernel_rfl) (fun _ _ _ h => h) (Or.inl ⟨by kernel_rfl, by intro w; go_simp⟩) ?_
      simp only [Act.put, List.setIfInBounds_toArray, List.set_cons_zero, List.set_cons_succ]
      refine wpAny_take (i := 14) (oi := ⟨some 36, _, _, _, _, _⟩) (v := .pointer (some ⟨rg, 3, none⟩)) rfl (by kernel_rfl) (by kernel_rfl) (by kernel_rfl) (fun _ _ _ h => h) (Or.inl ⟨by kernel_rfl, by intro w; go_simp⟩) ?_
      simp only [Act.put, List.setIfInBounds_toArray, List.set_cons_zero, List.set_cons_succ]
      refine wpAny_ready (rs := [15]) (by kernel_rfl) (by simp) ?_
      refine AllReady.cons rfl (fun K hK => ?_) AllReady.nil
      go_simp
      refine hK _ _ ?_
      clear hK K
      refine wpAny_done (by kernel_rfl) ?_ _
      obtain ⟨W3, hW3⟩ : ∃ W3, W3 = ((w2.setCell ⟨rg, 2, none⟩ (.slice P2 t.length (cap - 1))).setCell ⟨rg, 3, none⟩ (.int .u64 L)).drew := ⟨_, rfl⟩
      rw [← hW3]
      have hr3 : Row W3 rg 113 (rcells (some ⟨y.g, 0, none⟩) c (.slice P2 t.length (cap - 1)) L (nextV 50 rg) d k) := by
        rw [hW3]
        exact ((HR2.out.set 2 _).set 3 _).below (drew_below _) (((HR2.out.set 2 _).set 3 _).lt)
      have n2 := hr3.cell 2
      have n3 := hr3.cell 3
      simp only [rcells, List.getElem?_toArray, List.getElem?_cons_succ, List.getElem?_cons_zero] at n2 n3
      have FIN := Lib.hid fun (p3 : LowBy W3) => rstore_fin (V := .slice P2 t.length (cap - 1)) HM.out HM2.out HT2.out (by rw [← hW3]; exact p3.low) (by rw [← hW3]; exact hr3) sep HRL.out HAH.out HAS.out
      have HOW := Lib.hid (show t ≠ [] → (Value.slice P2 t.length (cap - 1)).ownBlock = some g from fun h0 => by rw [HP3.out h0]; rfl)
      have ca := fun p : LowBy W3 => p.cell n2
      have cb := fun p : LowBy W3 => p.cell n3
      cases t with
      | nil =>
        clear j2 j3 j4 m0 l2 l3 l4 n2 n3 hr3 hW3
        go_wp2_with fail
        refine wp_region_quiet_low (by assumption) (by kernel_rfl) ?_
        repeat (go_big_quiet_step (fail))
        refine wpQuiet_nil ?_
        intro _ hw'
        obtain ⟨p3, hw''⟩ := hw'
        subst hw''
        clear ca cb
        have F := FIN.out p3
        have n4 := F.1.2.1.cell 4
        have l4 := F.1.2.1.free 4
        simp only [rcells, List.getElem?_toArray, List.getElem?_cons_succ, List.getElem?_cons_zero] at n4
        have F := Lib.hid F.2
        clear FIN
        unfold nextV at F
        go_wp2
        go_ret
        exact ⟨rfl, y2, .slice P2 0 (cap - 1), F.out.1, F.out.2.1, F.out.2.2.1, fun h0 => absurd rfl h0, F.out.2.2.2⟩
      | cons bu t' =>
        obtain ⟨b, u⟩ := bu
        obtain ⟨g', off', q0, hPP⟩ : ∃ g' off', W3.cell? ⟨g', off', none⟩ = some (.int .u64 (b : Int)) ∧ P2 = some ⟨g', off', none⟩ := by
          rcases (FIN.out ⟨W3, Below.refl _ _⟩).1.2.2.1 with ⟨h0, _⟩ | ⟨_, g', off', cap', he, _, _, hc⟩
          · cases h0
          · injection he with he1 _ _
            exact ⟨g', off', hc 0 _ (by rw [flat_cons]; rfl), he1⟩
        subst hPP
        have cd := fun p : LowBy W3 => p.cell q0
        obtain ⟨Lb, hLb⟩ : ∃ Lb, Lb = ((b / 64 * 64 : Nat) : Int) := ⟨_, rfl⟩
        have HLb := Lib.hid fun (p : LowBy W3) => Calls.low_of_same (w := W3) (p := p) (geoLine_any (a := b) (ht (b, u) List.mem_cons_self) p.W)
        rw [← hLb] at HLb
        have HE : Lb = L ↔ b / 64 * 64 = a / 64 * 64 := by rw [hLb, HLE.out]; omega
        have hz1 : (((((b, u) :: t').length : Nat) : Int) == 0) = false := by simp only [List.length_cons]; rw [beq_eq_false_iff_ne]; omega
        have hz2 : (((t'.length + 1 : Nat) : Int) == 0) = false := by rw [beq_eq_false_iff_ne]; omega
        have hz3 : (((t'.length : Nat) : Int) + 1 == 0) = false := by rw [beq_eq_false_iff_ne]; omega
        have HEE := Lib.hid (show ends a ((b, u) :: t') = !(b / 64 * 64 == a / 64 * 64) from rfl)
        have HEQ := Lib.hid HE
        clear j2 j3 j4 m0 l2 l3 l4 n2 n3 hr3 hW3 HE hLb q0 HP2 HP3
        by_cases hEq : Lb = L
        · have e1 : (Lb == L) = true := by rw [beq_iff_eq]; exact hEq
          have e2 : (Lb != L) = false := by simp [bne, e1]
          have e3 : ends a ((b, u) :: t') = false := by rw [HEE.out, HEQ.out.1 hEq]; simp
          have E3 := Lib.hid e3
          clear hEq e3
          go_wp2_with fail
          refine wp_region_quiet_low (by assumption) (by kernel_rfl) ?_
          repeat (go_big_quiet_step ((go_at_call 71; with_reducible exact HLb.out _)))
          refine wpQuiet_nil ?_
          intro _ hw'
          obtain ⟨p3, hw''⟩ := hw'
          subst hw''
          clear ca cb cd
          have F := Lib.hid (FIN.out p3).1
          clear FIN
          go_wp2
          go_ret
          refine ⟨rfl, ?_⟩
          unfold stNext
          rw [E3.out]
          exact ⟨y2, _, F.out.1, F.out.2.1, F.out.2.2.1, HOW.out, F.out.2.2.2⟩
        · have e1 : (Lb == L) = false := by rw [beq_eq_false_iff_ne]; exact hEq
          have e2 : (Lb != L) = true := by simp [bne, e1]
          have e3 : ends a ((b, u) :: t') = true := by
            rw [HEE.out]
            simp only [Bool.not_eq_true', beq_eq_false_iff_ne]
            exact fun h => hEq (HEQ.out.2 h)
          have E3 := Lib.hid e3
          clear hEq e3
          go_wp2_with fail
          refine wp_region_quiet_low (by assumption) (by kernel_rfl) ?_
          repeat (go_big_quiet_step ((go_at_call 71; with_reducible exact HLb.out _)))
          refine wpQuiet_nil ?_
          intro _ hw'
          obtain ⟨p3, hw''⟩ := hw'
          subst hw''
          clear ca cb cd
          have F := FIN.out p3
          have n4 := F.1.2.1.cell 4
          have l4 := F.1.2.1.free 4
          simp only [rcells, List.getElem?_toArray, List.getElem?_cons_succ, List.getElem?_cons_zero] at n4
          have F := Lib.hid F.2
          clear FIN
          unfold nextV at F
          go_wp2
          go_ret
          refine ⟨rfl, ?_⟩
          unfold stNext
          rw [E3.out]
          exact ⟨y2, _, F.out.1, F.out.2.1, F.out.2.2.1, HOW.out, F.out.2.2.2⟩
end Go.Proofs.Yteojhhfcfdkmdaa
