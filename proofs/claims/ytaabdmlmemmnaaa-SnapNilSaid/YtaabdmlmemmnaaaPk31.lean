/- Texts of this claim, packed: SnE, SnF, SnT, SnN, SnO, SnH, SnG, SnP. -/
import Derived.Test.YtaabdmlmemmnaaaPk26
import Derived.Test.YtaabdmlmemmnaaaPk29
import Derived.Test.YtaabdmlmemmnaaaPk30
import Derived.Test.YtaabdmlmemmnaaaPk15
import Derived.Test.YtaabdmlmemmnaaaPk24
/- What a snapshot's last steps do: Low of the next node; Count once more, and the node; for whatever the load answers. -/
namespace Go.Proofs.Ytaabdmlmemmnaaa
open Go.RowKit
set_option linter.unusedVariables false
attribute [local go_sem] Oper.semAt_some
set_option maxRecDepth 100000 in
set_option maxHeartbeats 6400000 in
theorem readLow_any {w : World} {g a : Nat} {cs : Array Value} {p : Option Addr} {F : Value} {d : Bool} {k at' wh wd lo v kk : Int} {r : Nat → Int} {n : Nd} {P : World → Prop}
    (hr : Row w g 81 cs) (hs : IsS cs p F d k at' r wh wd lo n) (h26 : r 26 = (a : Int)) (ha : a < 18446744073709551616)
    (HL : ∀ W, Below w.heap.size w W → Calls Try.prog 24 #[.pointer p, .int .u64 ((wordAt a 1 : Nat) : Int)] W fun e' w' => e' = .returned (.tuple #[.int .u64 v, .int .i64 kk]) ∧ LQ g cs P w') :
    Calls Try.prog 71 #[.pointer (some ⟨g, 0, none⟩)] w (FPost g P kk (fun cs' => IsS cs' p (nextV 72 g) d k at' r wh wd v n)) := by
  have c0 := (hr.cell 0).trans hs.c0
  have HDR := Lib.hid (drew_below w)
  have STAY := Lib.hid (show ∀ W, Below w.heap.size w W → W.cell? ⟨g, 31, none⟩ = some (.int .u64 (a : Int)) from fun W hb => by rw [← h26]; exact (hr.below hb hr.lt).cell 31 |>.trans (hs.rr 26 (by omega)))
  have STQ := Lib.hid (show ∀ W, Row W g 81 cs → W.cell? ⟨g, 31, none⟩ = some (.int .u64 (a : Int)) from fun W h => by rw [← h26]; exact (h.cell 31).trans (hs.rr 26 (by omega)))
  have HM := Lib.hid (macLoad_any (k := 1) ((drew_below w).cell (block_lt_of_cell c0) |>.trans c0) ha (by decide) (HL _ (drew_below w)))
  have HS := Lib.hid hs
  clear hr hs HL c0 ha h26
  go_enter Try.func71, Try.ntmps71
  go_wp2_with fail
  refine wp_region_held_drew (S := fun W' => W'.cell? ⟨g, 31, none⟩ = some (.int .u64 (a : Int))) (by kernel_rfl) (STAY.out _ HDR.out) (fun hHeld => ?_)
  refine wpAnyH_take (i := 0) (oi := ⟨some 6, _, _, _, _, _⟩) (v := .pointer (some ⟨g, 0, none⟩)) rfl (by kernel_rfl) (by kernel_rfl) (by kernel_rfl) (fun _ _ _ h => h) (Or.inl ⟨by rfl, by intro WW hSw; (try dsimp only at hSw); go_simp⟩) (by assumption) ?_
  (try simp only [Act.put, List.setIfInBounds_toArray, List.set_cons_zero, List.set_cons_succ])
  refine wpAnyH_take (i := 1) (oi := ⟨some 7, _, _, _, _, _⟩) (v := .pointer (some ⟨g, 0, none⟩)) rfl (by kernel_rfl) (by kernel_rfl) (by kernel_rfl) (fun _ _ _ h => h) (Or.inl ⟨by rfl, by intro WW hSw; (try dsimp only at hSw); go_simp⟩) (by assumption) ?_
  (try simp only [Act.put, List.setIfInBounds_toArray, List.set_cons_zero, List.set_cons_succ])
  refine wpAnyH_take (i := 2) (oi := ⟨some 8, _, _, _, _, _⟩) (v := .pointer (some ⟨g, 0, none⟩)) rfl (by kernel_rfl) (by kernel_rfl) (by kernel_rfl) (fun _ _ _ h => h) (Or.inl ⟨by rfl, by intro WW hSw; (try dsimp only at hSw); go_simp⟩) (by assumption) ?_
  (try simp only [Act.put, List.setIfInBounds_toArray, List.set_cons_zero, List.set_cons_succ])
  refine wpAnyH_take (i := 3) (oi := ⟨some 9, _, _, _, _, _⟩) (v := .pointer (some ⟨g, 0, none⟩)) rfl (by kernel_rfl) (by kernel_rfl) (by kernel_rfl) (fun _ _ _ h => h) (Or.inl ⟨by rfl, by intro WW hSw; (try dsimp only at hSw); go_simp⟩) (by assumption) ?_
  (try simp only [Act.put, List.setIfInBounds_toArray, List.set_cons_zero, List.set_cons_succ])
  refine wpAnyH_take (i := 4) (oi := ⟨some 10, _, _, _, _, _⟩) (v := .pointer (some ⟨g, 0, none⟩)) rfl (by kernel_rfl) (by kernel_rfl) (by kernel_rfl) (fun _ _ _ h => h) (Or.inl ⟨by rfl, by intro WW hSw; (try dsimp only at hSw); go_simp⟩) (by assumption) ?_
  (try simp only [Act.put, List.setIfInBounds_toArray, List.set_cons_zero, List.set_cons_succ])
  refine wpAnyH_take (i := 5) (oi := ⟨some 11, _, _, _, _, _⟩) (v := .pointer (some ⟨g, 5, none⟩)) rfl (by kernel_rfl) (by kernel_rfl) (by kernel_rfl) (fun _ _ _ h => h) (Or.inl ⟨by rfl, by intro WW hSw; (try dsimp only at hSw); go_simp⟩) (by assumption) ?_
  (try simp only [Act.put, List.setIfInBounds_toArray, List.set_cons_zero, List.set_cons_succ])
  refine wpAnyH_take (i := 6) (oi := ⟨some 12, _, _, _, _, _⟩) (v := .pointer (some ⟨g, 29, none⟩)) rfl (by kernel_rfl) (by kernel_rfl) (by kernel_rfl) (fun _ _ _ h => h) (Or.inl ⟨by rfl, by intro WW hSw; (try dsimp only at hSw); go_simp⟩) (by assumption) ?_
  (try simp only [Act.put, List.setIfInBounds_toArray, List.set_cons_zero, List.set_cons_succ])
  refine wpAnyH_take (i := 7) (oi := ⟨some 13, _, _, _, _, _⟩) (v := .pointer (some ⟨g, 31, none⟩)) rfl (by kernel_rfl) (by kernel_rfl) (by kernel_rfl) (fun _ _ _ h => h) (Or.inl ⟨by rfl, by intro WW hSw; (try dsimp only at hSw); go_simp⟩) (by assumption) ?_
  (try simp only [Act.put, List.setIfInBounds_toArray, List.set_cons_zero, List.set_cons_succ])
  refine wpAnyH_take (i := 8) (oi := ⟨some 14, _, _, _, _, _⟩) (v := .int .u64 (a : Int)) rfl (by kernel_rfl) (by kernel_rfl) (by kernel_rfl) (fun _ _ _ h => h) (Or.inl ⟨by rfl, by intro WW hSw; (try dsimp only at hSw); go_simp⟩) (by assumption) ?_
  (try simp only [Act.put, List.setIfInBounds_toArray, List.set_cons_zero, List.set_cons_succ])
  refine wpAnyH_one (i := 9) (oi := ⟨some 15, _, _, _, _, _⟩) rfl (by kernel_rfl) (fun K hK => ?_)
  refine step_calls (by rfl) 54 (fun args w => Try.call54 _ _) [.tmp 8, .tmp 14, .const (.int .i64 1)] _ rfl [.pointer (some ⟨g, 0, none⟩), .int .u64 (a : Int), .int .i64 1] rfl (HM.out) ?_
  rintro e w2 ⟨rfl, hq, hp⟩
  have HQ := Lib.hid hq
  have HP := Lib.hid hp
  clear hq hp HM
  refine ⟨_, rfl, hK _ _ (STQ.out _ HQ.out) (fun hSn => ?_)⟩
  clear hK K
  (try simp only [Act.put, List.setIfInBounds_toArray, List.set_cons_zero, List.set_cons_succ])
  refine wpAnyH_take (i := 10) (oi := ⟨some 5, _, _, _, _, _⟩) (v := .tuple #[.int .u64 v, .int .i64 kk]) rfl (by kernel_rfl) (by kernel_rfl) (by kernel_rfl) (fun _ _ _ h => h) (Or.inl ⟨by rfl, by intro WW hSw; (try dsimp only at hSw); go_simp⟩) (by assumption) ?_
  (try simp only [Act.put, List.setIfInBounds_toArray, List.set_cons_zero, List.set_cons_succ])
  refine wpAnyH_take (i := 11) (oi := ⟨some 16, _, _, _, _, _⟩) (v := .int .u64 v) rfl (by kernel_rfl) (by kernel_rfl) (by kernel_rfl) (fun _ _ _ h => h) (Or.inl ⟨by rfl, by intro WW hSw; (try dsimp only at hSw); go_simp⟩) (by assumption) ?_
  (try simp only [Act.put, List.setIfInBounds_toArray, List.set_cons_zero, List.set_cons_succ])
  refine wpAnyH_take (i := 12) (oi := ⟨some 17, _, _, _, _, _⟩) (v := .int .i64 kk) rfl (by kernel_rfl) (by kernel_rfl) (by kernel_rfl) (fun _ _ _ h => h) (Or.inl ⟨by rfl, by intro WW hSw; (try dsimp only at hSw); go_simp⟩) (by assumption) ?_
  (try simp only [Act.put, List.setIfInBounds_toArray, List.set_cons_zero, List.set_cons_succ])
  refine wpAnyH_take (i := 13) (oi := ⟨some 3, _, _, _, _, _⟩) (v := .int .u64 v) rfl (by kernel_rfl) (by kernel_rfl) (by kernel_rfl) (fun _ _ _ h => h) (Or.inl ⟨by rfl, by intro WW hSw; (try dsimp only at hSw); go_simp⟩) (by assumption) ?_
  (try simp only [Act.put, List.setIfInBounds_toArray, List.set_cons_zero, List.set_cons_succ])
  refine wpAnyH_take (i := 14) (oi := ⟨some 4, _, _, _, _, _⟩) (v := .int .i64 kk) rfl (by kernel_rfl) (by kernel_rfl) (by kernel_rfl) (fun _ _ _ h => h) (Or.inl ⟨by rfl, by intro WW hSw; (try dsimp only at hSw); go_simp⟩) (by assumption) ?_
  (try simp only [Act.put, List.setIfInBounds_toArray, List.set_cons_zero, List.set_cons_succ])
  refine wpAnyH_done (by kernel_rfl) ?_ _


  have c1 := (HQ.out.cell 1).trans HS.out.c1
  have c55 := (HQ.out.cell 55).trans HS.out.cl
  have f1 := HQ.out.free 1
  have f55 := HQ.out.free 55
  have HE := Lib.hid (show ∃ w1 cs', P w1 ∧ IsS cs' p (nextV 72 g) d k at' r wh wd v n ∧ Sw w1 ((w2.setCell ⟨g, 55, none⟩ (.int .u64 v)).setCell ⟨g, 1, none⟩ (.func (.func 72) #[.pointer (some ⟨g, 0, none⟩)] #[])) g cs' from
    ⟨w2, _, HP.out, (HS.out.low v).next _, ((Sw.refl HQ.out).set 55 _).set 1 _⟩)
  clear STQ hHeld hSn
  go_wp2
  go_ret
  exact ⟨rfl, HE.out⟩
/-- Whether both readings are one. -/
def sameR (r : Nat → Int) : Bool := (List.range 24).all fun j => r j == r (24 + j)
def rdL (r : Nat → Int) (o : Nat) : List Int := (List.range 24).map fun j => r (o + j)
theorem rdL_len (r : Nat → Int) (o : Nat) : (rdL r o).length = 24 := by simp [rdL]
theorem rdL_at (r : Nat → Int) (o : Nat) {j : Nat} (hj : j < 24) : wAt (rdL r o) j = r (o + j) := by
  unfold wAt rdL
  rw [List.getD_eq_getElem?_getD, List.getElem?_map, List.getElem?_range hj]
  rfl
theorem rdL_get (r : Nat → Int) (o : Nat) {j : Nat} (hj : j < 24) : ((rdL r o).map uw)[j]? = some (.int .u64 (r (o + j))) := by
  rw [wAt_get (rdL_len r o) hj, rdL_at r o hj]
theorem infUr : (Try.prog.info? 22).map (fun i => (i.zero, i.size, i.bytes)) = some (some (.int .u64 0), 1, 8) := by kernel_rfl
theorem celUr : Try.prog.cellsOf 22 = 1 := by kernel_rfl
theorem plnUr : Try.prog.plainKey 22 = true := by kernel_rfl
theorem itemsR (f g : Nat → Int) (xs ys : Array Value) (w : World) : ∀ is : List Nat, (∀ i ∈ is, xs[i]? = some (.int .u64 (f i)) ∧ ys[i]? = some (.int .u64 (g i))) → (Op.eqItems 9999 22 1 xs ys is).run Try.prog w = .ok (is.all fun i => f i == g i) w
  | [], _ => by simp [Op.eqItems]
  | i :: is, h => by
    obtain ⟨hx, hy⟩ := h i (by simp)
    have hp := run_part_plain (P := Try.prog) w plnUr (xs := xs) (off := i) hx
    have hq := run_part_plain (P := Try.prog) w plnUr (xs := ys) (off := i) hy
    have he := run_equalIn_int (P := Try.prog) w 9998 22 .u64 .u64 (f i) (g i) Try.underlying22
    have hi := itemsR f g xs ys w is (fun j hj => h j (by simp [hj]))
    cases hb : (f i == g i) <;> rw [hb] at he <;> simp [Op.eqItems, Sem.run_bind, Nat.mul_one, hp, hq, Result.andThen_ok, he, hb, hi, List.all_cons]
theorem neqR (r : Nat → Int) (w : World) : (binOp .neq 78 (.agg ((rdL r 0).map uw).toArray) (.agg ((rdL r 24).map uw).toArray)).run Try.prog w = .ok (.bool (!sameR r)) w := by
  obtain ⟨i0, hi0, hz0, hz1, hz2⟩ := info_parts infUr
  rw [run_neq_struct, run_equalIn_array (P := Try.prog) w 9999 _ _ Try.underlying78 hi0, celUr,
    itemsR (fun j => r j) (fun j => r (24 + j)) _ _ w _ (fun i hi => by
      have hi := List.mem_range.1 hi
      rw [List.getElem?_toArray, List.getElem?_toArray, rdL_get r 0 hi, rdL_get r 24 hi, Nat.zero_add]
      exact ⟨rfl, rfl⟩)]
  rfl
theorem rdI : (Try.prog.info? 78).map (·.size) = some 24 := by kernel_rfl
theorem rdRange {w : World} {g : Nat} {cs : Array Value} {p : Option Addr} {F : Value} {d : Bool} {k a wh wd lo : Int} {r : Nat → Int} {n : Nd} (hr : Row w g 81 cs) (hs : IsS cs p F d k a r wh wd lo n) (o : Nat) (ho : o ≤ 24) : w.rangeAt g (5 + o) ((rdL r o).map uw) := fun j v hv => by
  have hj : j < 24 := by have := (List.getElem?_eq_some_iff.1 hv).1; simpa [rdL] using this
  rw [rdL_get r o hj] at hv
  rw [hr.cell, show 5 + o + j = 5 + (o + j) by omega, hs.rr _ (by omega)]
  exact hv
end Go.Proofs.Ytaabdmlmemmnaaa
/- What a snapshot's last step does: Count once more; the node, if nothing has changed; for whatever the load answers. -/
namespace Go.Proofs.Ytaabdmlmemmnaaa
open Go.RowKit
set_option linter.unusedVariables false
attribute [local go_sem] Oper.semAt_some
/-- What follows the last word: anew, or done. -/
def enF (F : Value) (g : Nat) (r : Nat → Int) (kk : Int) : Value := if kk = 0 ∧ sameR r = true then F else nextV 35 g
def enD (d : Bool) (r : Nat → Int) (kk : Int) : Bool := if kk = 0 ∧ sameR r = true then true else d
def enN (n : Nd) (r : Nat → Int) (kk : Int) : Nd := if kk = 0 ∧ sameR r = true then (ofR (rdL r 24)).1 else n
def enK (r : Nat → Int) (kk : Int) : Int := if kk = 0 ∧ sameR r = true then (ofR (rdL r 24)).2 else kk
theorem one24 (l : List Int) : (l.map uw).toArray.all (·.oneCell') = true := all_oneCell_toArray fun u hu => by
  obtain ⟨x, _, rfl⟩ := List.mem_map.1 hu
  rfl
set_option maxRecDepth 100000 in
set_option maxHeartbeats 6400000 in
theorem end_any {w : World} {g a : Nat} {cs : Array Value} {p : Option Addr} {F : Value} {d : Bool} {k wh wd lo v kk : Int} {r : Nat → Int} {n : Nd} {P : World → Prop}
    (hr : Row w g 81 cs) (hs : IsS cs p F d k a r wh wd lo n) (ha : a < 18446744073709551616) (h24 : 0 ≤ r 24 ∧ r 24 < 18446744073709551616)
    (HL : ∀ W, Below w.heap.size w W → Calls Try.prog 24 #[.pointer p, .int .u64 ((wordAt a 3 : Nat) : Int)] W fun e' w' => e' = .returned (.tuple #[.int .u64 v, .int .i64 kk]) ∧ LQ g cs P w') :
    Calls Try.prog 72 #[.pointer (some ⟨g, 0, none⟩)] w (FPost g P (enK (rput r 27 v) kk) (fun cs' => IsS cs' p (enF F g (rput r 27 v) kk) (enD d (rput r 27 v) kk) k a (rput r 27 v) wh wd lo (enN n (rput r 27 v) kk))) := by
  have mixed : Try.prog.follows .mixedOrders = true := by kernel_rfl
  have c0 := (hr.cell 0).trans hs.c0
  have HDR := Lib.hid (drew_below w)
  have STAY := Lib.hid (show ∀ W, Below w.heap.size w W → W.cell? ⟨g, 4, none⟩ = some (.int .u64 (a : Int)) from fun W hb => (hr.below hb hr.lt).cell 4 |>.trans hs.c4)
  have STQ := Lib.hid (show ∀ W, Row W g 81 cs → W.cell? ⟨g, 4, none⟩ = some (.int .u64 (a : Int)) from fun W h => (h.cell 4).trans hs.c4)
  have HM := Lib.hid (macLoad_any (k := 3) ((drew_below w).cell (block_lt_of_cell c0) |>.trans c0) ha (by decide) (HL _ (drew_below w)))
  have HS := Lib.hid hs
  have H24 := Lib.hid (show 0 ≤ wAt (rdL (rput r 27 v) 24) 0 ∧ wAt (rdL (rput r 27 v) 24) 0 < 18446744073709551616 from by rw [rdL_at _ _ (by omega)]; exact h24)
  have HSW := Lib.hid (show ∀ w2, Row w2 g 81 cs → ∃ cs3, Sw w2 (w2.setCell ⟨g, 32, none⟩ (.int .u64 v)) g cs3 ∧ IsS cs3 p F d k a (rput r 27 v) wh wd lo n from fun w2 h => ⟨_, (Sw.refl h).set 32 _, hs.rset (i := 27) (by omega) v⟩)
  obtain ⟨r', hr'⟩ : ∃ r', r' = rput r 27 v := ⟨_, rfl⟩
  rw [← hr'] at HSW H24 ⊢
  clear hr hs HL c0 ha h24 hr'
  by_cases hk : kk = 0
  · by_cases hsm : sameR r' = true
    · have HG := Lib.hid (show enF F g r' kk = F ∧ enD d r' kk = true ∧ enN n r' kk = (ofR (rdL r' 24)).1 ∧ enK r' kk = (ofR (rdL r' 24)).2 from by
        unfold enF enD enN enK
        simp only [hk, hsm, and_self, if_true])
      rw [HG.out.1, HG.out.2.1, HG.out.2.2.1, HG.out.2.2.2]
      have hnq := fun W => neqR r' W
      simp only [hsm, Bool.not_true] at hnq
      have HOF := Lib.hid fun W => nOf_any (rdL_len r' 24) H24.out W
      obtain ⟨m, hm⟩ : ∃ m, m = (ofR (rdL r' 24)).1 := ⟨_, rfl⟩
      obtain ⟨e1, he1⟩ : ∃ e1, e1 = (ofR (rdL r' 24)).2 := ⟨_, rfl⟩
      rw [← hm, ← he1] at HOF ⊢
      clear HG hsm H24 hm he1
      subst hk
      go_enter Try.func72, Try.ntmps72
      go_wp2_with fail
      refine wp_region_held_drew (S := fun W' => W'.cell? ⟨g, 4, none⟩ = some (.int .u64 (a : Int))) (by kernel_rfl) (STAY.out _ HDR.out) (fun hHeld => ?_)
      refine wpAnyH_take (i := 0) (oi := ⟨some 6, _, _, _, _, _⟩) (v := .pointer (some ⟨g, 0, none⟩)) rfl (by kernel_rfl) (by kernel_rfl) (by kernel_rfl) (fun _ _ _ h => h) (Or.inl ⟨by rfl, by intro WW hSw; (try dsimp only at hSw); go_simp⟩) (by assumption) ?_
      (try simp only [Act.put, List.setIfInBounds_toArray, List.set_cons_zero, List.set_cons_succ])
      refine wpAnyH_take (i := 1) (oi := ⟨some 7, _, _, _, _, _⟩) (v := .pointer (some ⟨g, 0, none⟩)) rfl (by kernel_rfl) (by kernel_rfl) (by kernel_rfl) (fun _ _ _ h => h) (Or.inl ⟨by rfl, by intro WW hSw; (try dsimp only at hSw); go_simp⟩) (by assumption) ?_
      (try simp only [Act.put, List.setIfInBounds_toArray, List.set_cons_zero, List.set_cons_succ])
      refine wpAnyH_take (i := 2) (oi := ⟨some 8, _, _, _, _, _⟩) (v := .pointer (some ⟨g, 0, none⟩)) rfl (by kernel_rfl) (by kernel_rfl) (by kernel_rfl) (fun _ _ _ h => h) (Or.inl ⟨by rfl, by intro WW hSw; (try dsimp only at hSw); go_simp⟩) (by assumption) ?_
      (try simp only [Act.put, List.setIfInBounds_toArray, List.set_cons_zero, List.set_cons_succ])
      refine wpAnyH_take (i := 3) (oi := ⟨some 9, _, _, _, _, _⟩) (v := .pointer (some ⟨g, 0, none⟩)) rfl (by kernel_rfl) (by kernel_rfl) (by kernel_rfl) (fun _ _ _ h => h) (Or.inl ⟨by rfl, by intro WW hSw; (try dsimp only at hSw); go_simp⟩) (by assumption) ?_
      (try simp only [Act.put, List.setIfInBounds_toArray, List.set_cons_zero, List.set_cons_succ])
      refine wpAnyH_take (i := 4) (oi := ⟨some 10, _, _, _, _, _⟩) (v := .pointer (some ⟨g, 0, none⟩)) rfl (by kernel_rfl) (by kernel_rfl) (by kernel_rfl) (fun _ _ _ h => h) (Or.inl ⟨by rfl, by intro WW hSw; (try dsimp only at hSw); go_simp⟩) (by assumption) ?_
      (try simp only [Act.put, List.setIfInBounds_toArray, List.set_cons_zero, List.set_cons_succ])
      refine wpAnyH_take (i := 5) (oi := ⟨some 11, _, _, _, _, _⟩) (v := .pointer (some ⟨g, 4, none⟩)) rfl (by kernel_rfl) (by kernel_rfl) (by kernel_rfl) (fun _ _ _ h => h) (Or.inl ⟨by rfl, by intro WW hSw; (try dsimp only at hSw); go_simp⟩) (by assumption) ?_
      (try simp only [Act.put, List.setIfInBounds_toArray, List.set_cons_zero, List.set_cons_succ])
      refine wpAnyH_take (i := 6) (oi := ⟨some 12, _, _, _, _, _⟩) (v := .int .u64 (a : Int)) rfl (by kernel_rfl) (by kernel_rfl) (by kernel_rfl) (fun _ _ _ h => h) (Or.inl ⟨by rfl, by intro WW hSw; (try dsimp only at hSw); go_simp⟩) (by assumption) ?_
      (try simp only [Act.put, List.setIfInBounds_toArray, List.set_cons_zero, List.set_cons_succ])
      refine wpAnyH_one (i := 7) (oi := ⟨some 13, _, _, _, _, _⟩) rfl (by kernel_rfl) (fun K hK => ?_)
      refine step_calls (by rfl) 54 (fun args w => Try.call54 _ _) [.tmp 8, .tmp 12, .const (.int .i64 3)] _ rfl [.pointer (some ⟨g, 0, none⟩), .int .u64 (a : Int), .int .i64 3] rfl (HM.out) ?_
      rintro e w2 ⟨rfl, hq, hp⟩
      have HQ := Lib.hid hq
      have HP := Lib.hid hp
      clear hq hp HM
      refine ⟨_, rfl, hK _ _ (STQ.out _ HQ.out) (fun hSn => ?_)⟩
      clear hK K
      (try simp only [Act.put, List.setIfInBounds_toArray, List.set_cons_zero, List.set_cons_succ])
      refine wpAnyH_take (i := 8) (oi := ⟨some 5, _, _, _, _, _⟩) (v := .tuple #[.int .u64 v, .int .i64 0]) rfl (by kernel_rfl) (by kernel_rfl) (by kernel_rfl) (fun _ _ _ h => h) (Or.inl ⟨by rfl, by intro WW hSw; (try dsimp only at hSw); go_simp⟩) (by assumption) ?_
      (try simp only [Act.put, List.setIfInBounds_toArray, List.set_cons_zero, List.set_cons_succ])
      refine wpAnyH_take (i := 9) (oi := ⟨some 14, _, _, _, _, _⟩) (v := .int .u64 v) rfl (by kernel_rfl) (by kernel_rfl) (by kernel_rfl) (fun _ _ _ h => h) (Or.inl ⟨by rfl, by intro WW hSw; (try dsimp only at hSw); go_simp⟩) (by assumption) ?_
      (try simp only [Act.put, List.setIfInBounds_toArray, List.set_cons_zero, List.set_cons_succ])
      refine wpAnyH_take (i := 10) (oi := ⟨some 15, _, _, _, _, _⟩) (v := .int .i64 0) rfl (by kernel_rfl) (by kernel_rfl) (by kernel_rfl) (fun _ _ _ h => h) (Or.inl ⟨by rfl, by intro WW hSw; (try dsimp only at hSw); go_simp⟩) (by assumption) ?_
      (try simp only [Act.put, List.setIfInBounds_toArray, List.set_cons_zero, List.set_cons_succ])
      refine wpAnyH_take (i := 11) (oi := ⟨some 3, _, _, _, _, _⟩) (v := .int .u64 v) rfl (by kernel_rfl) (by kernel_rfl) (by kernel_rfl) (fun _ _ _ h => h) (Or.inl ⟨by rfl, by intro WW hSw; (try dsimp only at hSw); go_simp⟩) (by assumption) ?_
      (try simp only [Act.put, List.setIfInBounds_toArray, List.set_cons_zero, List.set_cons_succ])
      refine wpAnyH_take (i := 12) (oi := ⟨some 4, _, _, _, _, _⟩) (v := .int .i64 0) rfl (by kernel_rfl) (by kernel_rfl) (by kernel_rfl) (fun _ _ _ h => h) (Or.inl ⟨by rfl, by intro WW hSw; (try dsimp only at hSw); go_simp⟩) (by assumption) ?_
      (try simp only [Act.put, List.setIfInBounds_toArray, List.set_cons_zero, List.set_cons_succ])
      refine wpAnyH_done (by kernel_rfl) ?_ _

      clear STQ hHeld hSn STAY HDR
      have c32 := (HQ.out.cell 32).trans (HS.out.rr 27 (by omega))
      have f32 := HQ.out.free 32
      obtain ⟨cs3, S3, I3⟩ := HSW.out _ HQ.out
      obtain ⟨W3, hW3⟩ : ∃ W3, W3 = w2.setCell ⟨g, 32, none⟩ (.int .u64 v) := ⟨_, rfl⟩
      rw [← hW3] at S3
      have HS3 := Lib.hid S3
      have HI3 := Lib.hid I3
      clear HSW HS
      have hR0 := Lib.hid (fun (w' : World) (h : ∃ q : LowBy W3, w' = q.W) => (show w'.rangeAt g 5 ((rdL r' 0).map uw) by obtain ⟨q, rfl⟩ := h; exact rdRange (S3.row.below q.low S3.row.lt) I3 0 (by omega)))
      have hR1 := Lib.hid (fun (w' : World) (h : ∃ q : LowBy W3, w' = q.W) => (show w'.rangeAt g 29 ((rdL r' 24).map uw) by obtain ⟨q, rfl⟩ := h; exact rdRange (S3.row.below q.low S3.row.lt) I3 24 (by omega)))
      have HF := Lib.hid (fun q : LowBy W3 => (show Sw w2 q.W g cs3 from S3.below q.low))
      clear S3 I3
      go_wp2_with fail
      rw [← hW3]
      clear hW3 c32 f32
      refine wp_region_quiet_low (by assumption) (by kernel_rfl) ?_
      repeat (first | go_big_quiet_skip | (go_big_quiet_want; first | (refine quiet_load_mid 78 _ rfl g 5 rfl ((rdL r' 0).map uw) _ hR0.out Try.underlying78 rfl (by rw [List.length_map, rdL_len]; exact rdI) ?_; simp only [Act.put, List.setIfInBounds_toArray, List.set_cons_succ, List.set_cons_zero]; go_big_quiet_on) | (refine quiet_load_mid 78 _ rfl g 29 rfl ((rdL r' 24).map uw) _ hR1.out Try.underlying78 rfl (by rw [List.length_map, rdL_len]; exact rdI) ?_; simp only [Act.put, List.setIfInBounds_toArray, List.set_cons_succ, List.set_cons_zero]; go_big_quiet_on) | (go_big_quiet_op; first | go_big_quiet_on)))
      refine wpQuiet_nil ?_
      intro _ hw'
      obtain ⟨q, hw''⟩ := hw'
      subst hw''
      have S4 := HF.out q
      have d2 := (S4.row.cell 2).trans HI3.out.c2
      have g2 := S4.row.free 2
      obtain ⟨W4, hW4⟩ : ∃ W4, W4 = q.W := ⟨_, rfl⟩
      rw [← hW4] at S4 d2 g2 ⊢
      have S5 := S4.set 2 (.bool true)
      have I5 := HI3.out.done true
      obtain ⟨W5, hW5⟩ : ∃ W5, W5 = W4.setCell ⟨g, 2, none⟩ (.bool true) := ⟨_, rfl⟩
      rw [← hW5] at S5
      have HS5 := Lib.hid S5
      have HI5 := Lib.hid I5
      have hR5 := Lib.hid (rdRange S5.row I5 24 (by omega))
      clear HF hR0 hR1 hW4 S4 S5 I5 hnq HS3 HI3
      have HW5 := Lib.hid hW5
      clear hW5
      go_wp2_with (first
        | (rw [← HW5.out])
        | (refine wpList_load_mid rfl _ _ rfl g 29 rfl ((rdL r' 24).map uw) _ hR5.out Try.underlying78 rfl (by rw [List.length_map, rdL_len]; exact rdI) ?_)
        | ((with_reducible refine (HOF.out _).mono ?_); rintro e w6 ⟨rfl, h6⟩; have HS6 := Lib.hid (HS5.out.below h6))
        | (refine wpList_store_mid rfl _ _ _ rfl g 56 m.cl.toArray rfl rfl (rowThere HS6.out.row (by rw [HI5.out.sz]; show 56 + m.cl.toArray.size ≤ 77; exact Nat.le_refl _)) (by exact ndI) (all_oneCell_toArray (cl_one m)) ?_))
      go_ret
      exact ⟨rfl, w2, _, HP.out, HI5.out.node m, HS6.out.setAll 56 m.cl⟩
    · have hno : ¬ (kk = 0 ∧ sameR r' = true) := fun h => hsm h.2
      have HG := Lib.hid (show enF F g r' kk = nextV 35 g ∧ enD d r' kk = d ∧ enN n r' kk = n ∧ enK r' kk = kk from by
        unfold enF enD enN enK
        rw [if_neg hno, if_neg hno, if_neg hno, if_neg hno]
        exact ⟨rfl, rfl, rfl, rfl⟩)
      rw [HG.out.1, HG.out.2.1, HG.out.2.2.1, HG.out.2.2.2]
      clear HG H24
      have hnq := fun W => neqR r' W
      have hsm' : sameR r' = false := by simpa using hsm
      simp only [hsm', Bool.not_false] at hnq
      subst hk
      clear hno hsm hsm'
      go_enter Try.func72, Try.ntmps72
      go_wp2_with fail
      refine wp_region_held_drew (S := fun W' => W'.cell? ⟨g, 4, none⟩ = some (.int .u64 (a : Int))) (by kernel_rfl) (STAY.out _ HDR.out) (fun hHeld => ?_)
      refine wpAnyH_take (i := 0) (oi := ⟨some 6, _, _, _, _, _⟩) (v := .pointer (some ⟨g, 0, none⟩)) rfl (by kernel_rfl) (by kernel_rfl) (by kernel_rfl) (fun _ _ _ h => h) (Or.inl ⟨by rfl, by intro WW hSw; (try dsimp only at hSw); go_simp⟩) (by assumption) ?_
      (try simp only [Act.put, List.setIfInBounds_toArray, List.set_cons_zero, List.set_cons_succ])
      refine wpAnyH_take (i := 1) (oi := ⟨some 7, _, _, _, _, _⟩) (v := .pointer (some ⟨g, 0, none⟩)) rfl (by kernel_rfl) (by kernel_rfl) (by kernel_rfl) (fun _ _ _ h => h) (Or.inl ⟨by rfl, by intro WW hSw; (try dsimp only at hSw); go_simp⟩) (by assumption) ?_
      (try simp only [Act.put, List.setIfInBounds_toArray, List.set_cons_zero, List.set_cons_succ])
      refine wpAnyH_take (i := 2) (oi := ⟨some 8, _, _, _, _, _⟩) (v := .pointer (some ⟨g, 0, none⟩)) rfl (by kernel_rfl) (by kernel_rfl) (by kernel_rfl) (fun _ _ _ h => h) (Or.inl ⟨by rfl, by intro WW hSw; (try dsimp only at hSw); go_simp⟩) (by assumption) ?_
      (try simp only [Act.put, List.setIfInBounds_toArray, List.set_cons_zero, List.set_cons_succ])
      refine wpAnyH_take (i := 3) (oi := ⟨some 9, _, _, _, _, _⟩) (v := .pointer (some ⟨g, 0, none⟩)) rfl (by kernel_rfl) (by kernel_rfl) (by kernel_rfl) (fun _ _ _ h => h) (Or.inl ⟨by rfl, by intro WW hSw; (try dsimp only at hSw); go_simp⟩) (by assumption) ?_
      (try simp only [Act.put, List.setIfInBounds_toArray, List.set_cons_zero, List.set_cons_succ])
      refine wpAnyH_take (i := 4) (oi := ⟨some 10, _, _, _, _, _⟩) (v := .pointer (some ⟨g, 0, none⟩)) rfl (by kernel_rfl) (by kernel_rfl) (by kernel_rfl) (fun _ _ _ h => h) (Or.inl ⟨by rfl, by intro WW hSw; (try dsimp only at hSw); go_simp⟩) (by assumption) ?_
      (try simp only [Act.put, List.setIfInBounds_toArray, List.set_cons_zero, List.set_cons_succ])
      refine wpAnyH_take (i := 5) (oi := ⟨some 11, _, _, _, _, _⟩) (v := .pointer (some ⟨g, 4, none⟩)) rfl (by kernel_rfl) (by kernel_rfl) (by kernel_rfl) (fun _ _ _ h => h) (Or.inl ⟨by rfl, by intro WW hSw; (try dsimp only at hSw); go_simp⟩) (by assumption) ?_
      (try simp only [Act.put, List.setIfInBounds_toArray, List.set_cons_zero, List.set_cons_succ])
      refine wpAnyH_take (i := 6) (oi := ⟨some 12, _, _, _, _, _⟩) (v := .int .u64 (a : Int)) rfl (by kernel_rfl) (by kernel_rfl) (by kernel_rfl) (fun _ _ _ h => h) (Or.inl ⟨by rfl, by intro WW hSw; (try dsimp only at hSw); go_simp⟩) (by assumption) ?_
      (try simp only [Act.put, List.setIfInBounds_toArray, List.set_cons_zero, List.set_cons_succ])
      refine wpAnyH_one (i := 7) (oi := ⟨some 13, _, _, _, _, _⟩) rfl (by kernel_rfl) (fun K hK => ?_)
      refine step_calls (by rfl) 54 (fun args w => Try.call54 _ _) [.tmp 8, .tmp 12, .const (.int .i64 3)] _ rfl [.pointer (some ⟨g, 0, none⟩), .int .u64 (a : Int), .int .i64 3] rfl (HM.out) ?_
      rintro e w2 ⟨rfl, hq, hp⟩
      have HQ := Lib.hid hq
      have HP := Lib.hid hp
      clear hq hp HM
      refine ⟨_, rfl, hK _ _ (STQ.out _ HQ.out) (fun hSn => ?_)⟩
      clear hK K
      (try simp only [Act.put, List.setIfInBounds_toArray, List.set_cons_zero, List.set_cons_succ])
      refine wpAnyH_take (i := 8) (oi := ⟨some 5, _, _, _, _, _⟩) (v := .tuple #[.int .u64 v, .int .i64 0]) rfl (by kernel_rfl) (by kernel_rfl) (by kernel_rfl) (fun _ _ _ h => h) (Or.inl ⟨by rfl, by intro WW hSw; (try dsimp only at hSw); go_simp⟩) (by assumption) ?_
      (try simp only [Act.put, List.setIfInBounds_toArray, List.set_cons_zero, List.set_cons_succ])
      refine wpAnyH_take (i := 9) (oi := ⟨some 14, _, _, _, _, _⟩) (v := .int .u64 v) rfl (by kernel_rfl) (by kernel_rfl) (by kernel_rfl) (fun _ _ _ h => h) (Or.inl ⟨by rfl, by intro WW hSw; (try dsimp only at hSw); go_simp⟩) (by assumption) ?_
      (try simp only [Act.put, List.setIfInBounds_toArray, List.set_cons_zero, List.set_cons_succ])
      refine wpAnyH_take (i := 10) (oi := ⟨some 15, _, _, _, _, _⟩) (v := .int .i64 0) rfl (by kernel_rfl) (by kernel_rfl) (by kernel_rfl) (fun _ _ _ h => h) (Or.inl ⟨by rfl, by intro WW hSw; (try dsimp only at hSw); go_simp⟩) (by assumption) ?_
      (try simp only [Act.put, List.setIfInBounds_toArray, List.set_cons_zero, List.set_cons_succ])
      refine wpAnyH_take (i := 11) (oi := ⟨some 3, _, _, _, _, _⟩) (v := .int .u64 v) rfl (by kernel_rfl) (by kernel_rfl) (by kernel_rfl) (fun _ _ _ h => h) (Or.inl ⟨by rfl, by intro WW hSw; (try dsimp only at hSw); go_simp⟩) (by assumption) ?_
      (try simp only [Act.put, List.setIfInBounds_toArray, List.set_cons_zero, List.set_cons_succ])
      refine wpAnyH_take (i := 12) (oi := ⟨some 4, _, _, _, _, _⟩) (v := .int .i64 0) rfl (by kernel_rfl) (by kernel_rfl) (by kernel_rfl) (fun _ _ _ h => h) (Or.inl ⟨by rfl, by intro WW hSw; (try dsimp only at hSw); go_simp⟩) (by assumption) ?_
      (try simp only [Act.put, List.setIfInBounds_toArray, List.set_cons_zero, List.set_cons_succ])
      refine wpAnyH_done (by kernel_rfl) ?_ _

      clear STQ hHeld hSn STAY HDR
      have c32 := (HQ.out.cell 32).trans (HS.out.rr 27 (by omega))
      have f32 := HQ.out.free 32
      obtain ⟨cs3, S3, I3⟩ := HSW.out _ HQ.out
      obtain ⟨W3, hW3⟩ : ∃ W3, W3 = w2.setCell ⟨g, 32, none⟩ (.int .u64 v) := ⟨_, rfl⟩
      rw [← hW3] at S3
      have HS3 := Lib.hid S3
      have HI3 := Lib.hid I3
      clear HSW HS
      have hR0 := Lib.hid (fun (w' : World) (h : ∃ q : LowBy W3, w' = q.W) => (show w'.rangeAt g 5 ((rdL r' 0).map uw) by obtain ⟨q, rfl⟩ := h; exact rdRange (S3.row.below q.low S3.row.lt) I3 0 (by omega)))
      have hR1 := Lib.hid (fun (w' : World) (h : ∃ q : LowBy W3, w' = q.W) => (show w'.rangeAt g 29 ((rdL r' 24).map uw) by obtain ⟨q, rfl⟩ := h; exact rdRange (S3.row.below q.low S3.row.lt) I3 24 (by omega)))
      have HF := Lib.hid (fun q : LowBy W3 => (show Sw w2 q.W g cs3 from S3.below q.low))
      clear S3 I3
      go_wp2_with fail
      rw [← hW3]
      clear hW3 c32 f32
      refine wp_region_quiet_low (by assumption) (by kernel_rfl) ?_
      repeat (first | go_big_quiet_skip | (go_big_quiet_want; first | (refine quiet_load_mid 78 _ rfl g 5 rfl ((rdL r' 0).map uw) _ hR0.out Try.underlying78 rfl (by rw [List.length_map, rdL_len]; exact rdI) ?_; simp only [Act.put, List.setIfInBounds_toArray, List.set_cons_succ, List.set_cons_zero]; go_big_quiet_on) | (refine quiet_load_mid 78 _ rfl g 29 rfl ((rdL r' 24).map uw) _ hR1.out Try.underlying78 rfl (by rw [List.length_map, rdL_len]; exact rdI) ?_; simp only [Act.put, List.setIfInBounds_toArray, List.set_cons_succ, List.set_cons_zero]; go_big_quiet_on) | (go_big_quiet_op; first | go_big_quiet_on)))
      refine wpQuiet_nil ?_
      intro _ hw'
      obtain ⟨q, hw''⟩ := hw'
      subst hw''
      have S4 := HF.out q
      clear hR0 hR1 hnq
      have d1 := (S4.row.cell 1).trans HI3.out.c1
      have g1 := S4.row.free 1
      have HE := Lib.hid (show ∃ w1 cs', P w1 ∧ IsS cs' p (nextV 35 g) d k a r' wh wd lo n ∧ Sw w1 (q.W.setCell ⟨g, 1, none⟩ (.func (.func 35) #[.pointer (some ⟨g, 0, none⟩)] #[])) g cs' from
        ⟨w2, _, HP.out, HI3.out.next _, S4.set 1 _⟩)
      clear HF S4 HS3 HI3
      go_wp2
      go_ret
      exact ⟨rfl, HE.out⟩
  · have hno : ¬ (kk = 0 ∧ sameR r' = true) := fun h => hk h.1
    have HG := Lib.hid (show enF F g r' kk = nextV 35 g ∧ enD d r' kk = d ∧ enN n r' kk = n ∧ enK r' kk = kk from by
      unfold enF enD enN enK
      rw [if_neg hno, if_neg hno, if_neg hno, if_neg hno]
      exact ⟨rfl, rfl, rfl, rfl⟩)
    rw [HG.out.1, HG.out.2.1, HG.out.2.2.1, HG.out.2.2.2]
    clear HG H24
    have hk' : (kk != 0) = true := by simpa using hk
    clear hno hk
    go_enter Try.func72, Try.ntmps72
    go_wp2_with fail
    refine wp_region_held_drew (S := fun W' => W'.cell? ⟨g, 4, none⟩ = some (.int .u64 (a : Int))) (by kernel_rfl) (STAY.out _ HDR.out) (fun hHeld => ?_)
    refine wpAnyH_take (i := 0) (oi := ⟨some 6, _, _, _, _, _⟩) (v := .pointer (some ⟨g, 0, none⟩)) rfl (by kernel_rfl) (by kernel_rfl) (by kernel_rfl) (fun _ _ _ h => h) (Or.inl ⟨by rfl, by intro WW hSw; (try dsimp only at hSw); go_simp⟩) (by assumption) ?_
    (try simp only [Act.put, List.setIfInBounds_toArray, List.set_cons_zero, List.set_cons_succ])
    refine wpAnyH_take (i := 1) (oi := ⟨some 7, _, _, _, _, _⟩) (v := .pointer (some ⟨g, 0, none⟩)) rfl (by kernel_rfl) (by kernel_rfl) (by kernel_rfl) (fun _ _ _ h => h) (Or.inl ⟨by rfl, by intro WW hSw; (try dsimp only at hSw); go_simp⟩) (by assumption) ?_
    (try simp only [Act.put, List.setIfInBounds_toArray, List.set_cons_zero, List.set_cons_succ])
    refine wpAnyH_take (i := 2) (oi := ⟨some 8, _, _, _, _, _⟩) (v := .pointer (some ⟨g, 0, none⟩)) rfl (by kernel_rfl) (by kernel_rfl) (by kernel_rfl) (fun _ _ _ h => h) (Or.inl ⟨by rfl, by intro WW hSw; (try dsimp only at hSw); go_simp⟩) (by assumption) ?_
    (try simp only [Act.put, List.setIfInBounds_toArray, List.set_cons_zero, List.set_cons_succ])
    refine wpAnyH_take (i := 3) (oi := ⟨some 9, _, _, _, _, _⟩) (v := .pointer (some ⟨g, 0, none⟩)) rfl (by kernel_rfl) (by kernel_rfl) (by kernel_rfl) (fun _ _ _ h => h) (Or.inl ⟨by rfl, by intro WW hSw; (try dsimp only at hSw); go_simp⟩) (by assumption) ?_
    (try simp only [Act.put, List.setIfInBounds_toArray, List.set_cons_zero, List.set_cons_succ])
    refine wpAnyH_take (i := 4) (oi := ⟨some 10, _, _, _, _, _⟩) (v := .pointer (some ⟨g, 0, none⟩)) rfl (by kernel_rfl) (by kernel_rfl) (by kernel_rfl) (fun _ _ _ h => h) (Or.inl ⟨by rfl, by intro WW hSw; (try dsimp only at hSw); go_simp⟩) (by assumption) ?_
    (try simp only [Act.put, List.setIfInBounds_toArray, List.set_cons_zero, List.set_cons_succ])
    refine wpAnyH_take (i := 5) (oi := ⟨some 11, _, _, _, _, _⟩) (v := .pointer (some ⟨g, 4, none⟩)) rfl (by kernel_rfl) (by kernel_rfl) (by kernel_rfl) (fun _ _ _ h => h) (Or.inl ⟨by rfl, by intro WW hSw; (try dsimp only at hSw); go_simp⟩) (by assumption) ?_
    (try simp only [Act.put, List.setIfInBounds_toArray, List.set_cons_zero, List.set_cons_succ])
    refine wpAnyH_take (i := 6) (oi := ⟨some 12, _, _, _, _, _⟩) (v := .int .u64 (a : Int)) rfl (by kernel_rfl) (by kernel_rfl) (by kernel_rfl) (fun _ _ _ h => h) (Or.inl ⟨by rfl, by intro WW hSw; (try dsimp only at hSw); go_simp⟩) (by assumption) ?_
    (try simp only [Act.put, List.setIfInBounds_toArray, List.set_cons_zero, List.set_cons_succ])
    refine wpAnyH_one (i := 7) (oi := ⟨some 13, _, _, _, _, _⟩) rfl (by kernel_rfl) (fun K hK => ?_)
    refine step_calls (by rfl) 54 (fun args w => Try.call54 _ _) [.tmp 8, .tmp 12, .const (.int .i64 3)] _ rfl [.pointer (some ⟨g, 0, none⟩), .int .u64 (a : Int), .int .i64 3] rfl (HM.out) ?_
    rintro e w2 ⟨rfl, hq, hp⟩
    have HQ := Lib.hid hq
    have HP := Lib.hid hp
    clear hq hp HM
    refine ⟨_, rfl, hK _ _ (STQ.out _ HQ.out) (fun hSn => ?_)⟩
    clear hK K
    (try simp only [Act.put, List.setIfInBounds_toArray, List.set_cons_zero, List.set_cons_succ])
    refine wpAnyH_take (i := 8) (oi := ⟨some 5, _, _, _, _, _⟩) (v := .tuple #[.int .u64 v, .int .i64 kk]) rfl (by kernel_rfl) (by kernel_rfl) (by kernel_rfl) (fun _ _ _ h => h) (Or.inl ⟨by rfl, by intro WW hSw; (try dsimp only at hSw); go_simp⟩) (by assumption) ?_
    (try simp only [Act.put, List.setIfInBounds_toArray, List.set_cons_zero, List.set_cons_succ])
    refine wpAnyH_take (i := 9) (oi := ⟨some 14, _, _, _, _, _⟩) (v := .int .u64 v) rfl (by kernel_rfl) (by kernel_rfl) (by kernel_rfl) (fun _ _ _ h => h) (Or.inl ⟨by rfl, by intro WW hSw; (try dsimp only at hSw); go_simp⟩) (by assumption) ?_
    (try simp only [Act.put, List.setIfInBounds_toArray, List.set_cons_zero, List.set_cons_succ])
    refine wpAnyH_take (i := 10) (oi := ⟨some 15, _, _, _, _, _⟩) (v := .int .i64 kk) rfl (by kernel_rfl) (by kernel_rfl) (by kernel_rfl) (fun _ _ _ h => h) (Or.inl ⟨by rfl, by intro WW hSw; (try dsimp only at hSw); go_simp⟩) (by assumption) ?_
    (try simp only [Act.put, List.setIfInBounds_toArray, List.set_cons_zero, List.set_cons_succ])
    refine wpAnyH_take (i := 11) (oi := ⟨some 3, _, _, _, _, _⟩) (v := .int .u64 v) rfl (by kernel_rfl) (by kernel_rfl) (by kernel_rfl) (fun _ _ _ h => h) (Or.inl ⟨by rfl, by intro WW hSw; (try dsimp only at hSw); go_simp⟩) (by assumption) ?_
    (try simp only [Act.put, List.setIfInBounds_toArray, List.set_cons_zero, List.set_cons_succ])
    refine wpAnyH_take (i := 12) (oi := ⟨some 4, _, _, _, _, _⟩) (v := .int .i64 kk) rfl (by kernel_rfl) (by kernel_rfl) (by kernel_rfl) (fun _ _ _ h => h) (Or.inl ⟨by rfl, by intro WW hSw; (try dsimp only at hSw); go_simp⟩) (by assumption) ?_
    (try simp only [Act.put, List.setIfInBounds_toArray, List.set_cons_zero, List.set_cons_succ])
    refine wpAnyH_done (by kernel_rfl) ?_ _

    clear STQ hHeld hSn STAY HDR
    have c32 := (HQ.out.cell 32).trans (HS.out.rr 27 (by omega))
    have f32 := HQ.out.free 32
    obtain ⟨cs3, S3, I3⟩ := HSW.out _ HQ.out
    obtain ⟨W3, hW3⟩ : ∃ W3, W3 = w2.setCell ⟨g, 32, none⟩ (.int .u64 v) := ⟨_, rfl⟩
    rw [← hW3] at S3
    have HS3 := Lib.hid S3
    have HI3 := Lib.hid I3
    clear HSW HS
    have HF := Lib.hid (fun q : LowBy W3 => (show Sw w2 q.W g cs3 from S3.below q.low))
    clear S3 I3
    go_wp2_with fail
    rw [← hW3]
    clear hW3 c32 f32
    refine wp_region_quiet_low (by assumption) (by kernel_rfl) ?_
    repeat (go_big_quiet_step (fail))
    refine wpQuiet_nil ?_
    intro _ hw'
    obtain ⟨q, hw''⟩ := hw'
    subst hw''
    have S4 := HF.out q
    have d1 := (S4.row.cell 1).trans HI3.out.c1
    have g1 := S4.row.free 1
    have HE := Lib.hid (show ∃ w1 cs', P w1 ∧ IsS cs' p (nextV 35 g) d k a r' wh wd lo n ∧ Sw w1 (q.W.setCell ⟨g, 1, none⟩ (.func (.func 35) #[.pointer (some ⟨g, 0, none⟩)] #[])) g cs' from
      ⟨w2, _, HP.out, HI3.out.next _, S4.set 1 _⟩)
    clear HF S4 HS3 HI3
    go_wp2
    go_ret
    exact ⟨rfl, HE.out⟩
end Go.Proofs.Ytaabdmlmemmnaaa
/- A snapshot's Step, of whatever its function leaves; of none, a zero one, one that is done; its refusal; without conditions. -/
namespace Go.Proofs.Ytaabdmlmemmnaaa
open Go.RowKit
set_option linter.unusedVariables false
attribute [local go_sem] Oper.semAt_some
/-- What a step leaves. -/
def SPost (g : Nat) (P : World → Prop) (D : Bool) (k : Int) (R : Array Value → Prop) (e : Ending) (w' : World) : Prop := e = .returned (.tuple #[.bool D, .int .i64 k]) ∧ ∃ w1 cs', P w1 ∧ R cs' ∧ Sw w1 w' g cs'
theorem mstep_nil {w : World} {g : Nat} {t : TypeId} {cs : Array Value} (hr : Row w g t cs) (h1 : cs[1]? = some .nilFunc) : Calls Try.prog 37 #[.pointer (some ⟨g, 0, none⟩)] w fun e w' => e = .returned (.tuple #[.bool true, .int .i64 1]) ∧ w = w' := by
  have c1 := hr.cell 1
  rw [h1] at c1
  have q1 := fun w => eqNilR w
  have q2 := fun w => guardNilR w (.tmp 8)
  clear hr h1
  go_enter Try.func37, Try.ntmps37
  go_wp2
  go_ret2
  exact ⟨rfl, rfl⟩
set_option maxRecDepth 100000 in
set_option maxHeartbeats 1600000 in
theorem mstep_done {w : World} {g f : Nat} {t : TypeId} {cs : Array Value} {k : Int} (hr : Row w g t cs) (h1 : cs[1]? = some (nextV f g)) (h2 : cs[2]? = some (.bool true)) (h3 : cs[3]? = some (.int .i64 k)) :
    Calls Try.prog 37 #[.pointer (some ⟨g, 0, none⟩)] w fun e w' => e = .returned (.tuple #[.bool true, .int .i64 k]) ∧ Below w.heap.size w w' := by
  have mixed : Try.prog.follows .mixedOrders = true := by kernel_rfl
  have c1 := hr.cell 1
  have c2 := hr.cell 2
  have c3 := hr.cell 3
  rw [h1] at c1
  rw [h2] at c2
  rw [h3] at c3
  unfold nextV at c1
  have q1 := fun w => eqFnR w f #[.pointer (some ⟨g, 0, none⟩)] #[]
  have q2 := fun w => guardFnR w f #[.pointer (some ⟨g, 0, none⟩)] #[] (.tmp 8)
  have ca := fun p : LowBy w => p.cell c3
  clear hr h1 h2 h3
  go_enter Try.func37, Try.ntmps37
  go_wp2_with fail
  refine wp_region_quiet_low (by assumption) (by kernel_rfl) ?_
  repeat (go_big_quiet_step (fail))
  refine wpQuiet_nil ?_
  intro _ hw'
  obtain ⟨p, hw''⟩ := hw'
  subst hw''
  have hp := Lib.hid p.low
  clear ca
  go_wp2
  go_ret2
  exact ⟨rfl, hp.out⟩
set_option maxRecDepth 100000 in
set_option maxHeartbeats 3200000 in
theorem mstep_of {w : World} {g f : Nat} {cs : Array Value} {p : Option Addr} {F' : Value} {d' D : Bool} {k kk a wh wd lo : Int} {r : Nat → Int} {n : Nd} {P : World → Prop}
    (hcall : ∀ (w : World) (v : Value), (callFunc f #[v]).run Try.prog w = .ok (.enter f #[v]) w)
    (hr : Row w g 81 cs) (h1 : cs[1]? = some (nextV f g)) (h2 : cs[2]? = some (.bool false)) (hD : (d' || kk != 0) = D)
    (H : Calls Try.prog f #[.pointer (some ⟨g, 0, none⟩)] w (FPost g P kk (fun cs' => IsS cs' p F' d' k a r wh wd lo n))) :
    Calls Try.prog 37 #[.pointer (some ⟨g, 0, none⟩)] w (SPost g P D kk (fun cs' => IsS cs' p F' D kk a r wh wd lo n)) := by
  have mixed : Try.prog.follows .mixedOrders = true := by kernel_rfl
  have c1 := hr.cell 1
  have c2 := hr.cell 2
  rw [h1] at c1
  rw [h2] at c2
  unfold nextV at c1
  have q1 := fun w => eqFnR w f #[.pointer (some ⟨g, 0, none⟩)] #[]
  have q2 := fun w => guardFnR w f #[.pointer (some ⟨g, 0, none⟩)] #[] (.tmp 8)
  have H := Lib.hid H
  clear hr h1 h2
  go_enter Try.func37, Try.ntmps37
  go_wp2_with fail
  refine H.out.mono ?_
  rintro e w1 ⟨rfl, w0, cs1, hp, hi, hsw⟩
  have e2 := (hsw.row.cell 2).trans hi.c2
  have e3 := (hsw.row.cell 3).trans hi.c3
  have g2 := hsw.row.free 2
  have g3 := hsw.row.free 3
  have HP := Lib.hid hp
  have HI := Lib.hid hi
  have HSW := Lib.hid hsw
  clear hp hi hsw c1 c2 q1 q2 H hcall
  have HFIN := Lib.hid (show ∀ W, Below (((w1.setCell ⟨g, 3, none⟩ (.int .i64 kk)).setCell ⟨g, 2, none⟩ (.bool D))).heap.size ((w1.setCell ⟨g, 3, none⟩ (.int .i64 kk)).setCell ⟨g, 2, none⟩ (.bool D)) W → ∃ w1 cs', P w1 ∧ IsS cs' p F' D kk a r wh wd lo n ∧ Sw w1 W g cs' from
    fun W hb => ⟨w0, _, HP.out, (HI.out.code kk).done D, ((HSW.out.set 3 _).set 2 _).below hb⟩)
  have HC := Lib.hid (show ∀ q : LowBy ((w1.setCell ⟨g, 3, none⟩ (.int .i64 kk)).setCell ⟨g, 2, none⟩ (.bool D)), q.W.cell? ⟨g, 2, none⟩ = some (.bool D) ∧ q.W.cell? ⟨g, 3, none⟩ = some (.int .i64 kk) from fun q => by
    have hs := (HSW.out.set 3 (.int .i64 kk)).set 2 (.bool D)
    have hrw := hs.row.below q.low hs.row.lt
    have hi := (HI.out.code kk).done D
    exact ⟨(hrw.cell 2).trans hi.c2, (hrw.cell 3).trans hi.c3⟩)
  obtain ⟨W2, hW2⟩ : ∃ W2, W2 = (w1.setCell ⟨g, 3, none⟩ (.int .i64 kk)).setCell ⟨g, 2, none⟩ (.bool D) := ⟨_, rfl⟩
  rw [← hW2] at HFIN HC
  cases d' with
  | true =>
    obtain rfl : true = D := by simpa using hD
    clear hD HI HSW HP
    go_wp2_with fail
    rw [← hW2]
    clear hW2 e2 e3 g2 g3
    have ca := fun q : LowBy W2 => (HC.out q).1
    have cb := fun q : LowBy W2 => (HC.out q).2
    refine wp_region_quiet_low (by assumption) (by kernel_rfl) ?_
    repeat (go_big_quiet_step (fail))
    refine wpQuiet_nil ?_
    intro _ hw'
    obtain ⟨q, hw''⟩ := hw'
    subst hw''
    have HE := Lib.hid (HFIN.out q.W q.low)
    clear ca cb HC HFIN
    go_wp2
    go_ret2
    exact ⟨rfl, HE.out⟩
  | false =>
    by_cases hk : kk = 0
    · subst hk
      obtain rfl : false = D := by simpa using hD
      clear hD HI HSW HP
      go_wp2_with fail
      rw [← hW2]
      clear hW2 e2 e3 g2 g3
      have ca := fun q : LowBy W2 => (HC.out q).1
      have cb := fun q : LowBy W2 => (HC.out q).2
      refine wp_region_quiet_low (by assumption) (by kernel_rfl) ?_
      repeat (go_big_quiet_step (fail))
      refine wpQuiet_nil ?_
      intro _ hw'
      obtain ⟨q, hw''⟩ := hw'
      subst hw''
      have HE := Lib.hid (HFIN.out q.W q.low)
      clear ca cb HC HFIN
      go_wp2
      go_ret2
      exact ⟨rfl, HE.out⟩
    · have hk1 : (kk != 0) = true := by simpa using hk
      obtain rfl : true = D := by rw [← hD, hk1]; rfl
      have hk2 : (kk == 0) = false := by simpa using hk
      clear hD HI HSW HP hk
      go_wp2_with fail
      rw [← hW2]
      clear hW2 e2 e3 g2 g3
      have ca := fun q : LowBy W2 => (HC.out q).1
      have cb := fun q : LowBy W2 => (HC.out q).2
      refine wp_region_quiet_low (by assumption) (by kernel_rfl) ?_
      repeat (go_big_quiet_step (fail))
      refine wpQuiet_nil ?_
      intro _ hw'
      obtain ⟨q, hw''⟩ := hw'
      subst hw''
      have HE := Lib.hid (HFIN.out q.W q.low)
      clear ca cb HC HFIN
      go_wp2
      go_ret2
      exact ⟨rfl, HE.out⟩
theorem snStep_nil (w : World) : Calls Try.prog 12 #[.pointer none] w fun e w' => e = .returned (.tuple #[.bool true, .int .i64 1]) ∧ w = w' := by
  go_enter Try.func12, Try.ntmps12
  go_wp2
  go_ret2
  exact ⟨rfl, rfl⟩
theorem snStep_of {w : World} {g : Nat} {D : Bool} {k : Int} {Q : World → Prop} (H : Calls Try.prog 37 #[.pointer (some ⟨g, 0, none⟩)] w fun e w' => e = .returned (.tuple #[.bool D, .int .i64 k]) ∧ Q w') :
    Calls Try.prog 12 #[.pointer (some ⟨g, 0, none⟩)] w fun e w' => e = .returned (.tuple #[.bool D, .int .i64 k]) ∧ Q w' := by
  have H := Lib.hid H
  go_enter Try.func12, Try.ntmps12
  go_wp2_with fail
  refine H.out.mono ?_
  rintro e w1 ⟨rfl, hq⟩
  have HQ := Lib.hid hq
  clear hq
  go_wp2
  go_ret2
  exact ⟨rfl, HQ.out⟩
/-- Why nothing is told. -/
def refK (F : Bool) (d : Bool) (k z : Int) : Int := if F = true then 1 else if d = true then k else if z = 0 then 1 else 7
theorem snRefusal_nil {w : World} {g : Nat} {t : TypeId} {cs : Array Value} (hr : Row w g t cs) (h1 : cs[1]? = some .nilFunc) : Calls Try.prog 38 #[.pointer (some ⟨g, 0, none⟩)] w fun e w' => e = .returned (.int .i64 1) ∧ w = w' := by
  have c1 := hr.cell 1
  rw [h1] at c1
  have q1 := fun w => eqNilR w
  have q2 := fun w => guardNilR w (.tmp 7)
  clear hr h1
  go_enter Try.func38, Try.ntmps38
  go_wp2
  go_ret
  exact ⟨rfl, rfl⟩
theorem snRefusal_any {w : World} {g f : Nat} {t : TypeId} {cs : Array Value} {p : Option Addr} {d : Bool} {k z : Int} (hr : Row w g t cs) (h0 : cs[0]? = some (.pointer p)) (h1 : cs[1]? = some (nextV f g)) (h2 : cs[2]? = some (.bool d)) (h3 : cs[3]? = some (.int .i64 k))
    (HS : Calls Try.prog 56 #[.pointer p] w fun e w' => e = .returned (.int .i64 z) ∧ w = w') :
    Calls Try.prog 38 #[.pointer (some ⟨g, 0, none⟩)] w fun e w' => e = .returned (.int .i64 (refK false d k z)) ∧ w = w' := by
  have c0 := hr.cell 0
  have c1 := hr.cell 1
  have c2 := hr.cell 2
  have c3 := hr.cell 3
  rw [h0] at c0
  rw [h1] at c1
  rw [h2] at c2
  rw [h3] at c3
  unfold nextV at c1
  have q1 := fun w => eqFnR w f #[.pointer (some ⟨g, 0, none⟩)] #[]
  have q2 := fun w => guardFnR w f #[.pointer (some ⟨g, 0, none⟩)] #[] (.tmp 7)
  have HS := Lib.hid HS
  clear hr h1 h2 h3 h0
  cases d with
  | true =>
    go_enter Try.func38, Try.ntmps38
    go_wp2
    go_ret
    exact ⟨rfl, rfl⟩
  | false =>
    by_cases hz : z = 0
    · subst hz
      go_enter Try.func38, Try.ntmps38
      go_wp2_with (refine HS.out.mono ?_; rintro e w1 ⟨rfl, rfl⟩)
      go_ret
      exact ⟨rfl, rfl⟩
    · have HZ := Lib.hid (show refK false false k z = 7 by unfold refK; simp [hz])
      have hz1 : (z == 0) = false := by simpa using hz
      rw [HZ.out]
      clear hz HZ
      go_enter Try.func38, Try.ntmps38
      go_wp2_with (refine HS.out.mono ?_; rintro e w1 ⟨rfl, rfl⟩)
      go_ret
      exact ⟨rfl, rfl⟩
end Go.Proofs.Ytaabdmlmemmnaaa
/- A snapshot anew. -/
namespace Go.Proofs.Ytaabdmlmemmnaaa
open Go.RowKit
set_option linter.unusedVariables false
attribute [local go_sem] Oper.semAt_some
/-- The cells of a snapshot of which nothing is done. -/
def zeroS (p : Option Addr) (F : Value) (a : Int) : List Value := .pointer p :: F :: .bool false :: .int .i64 0 :: .int .u64 a :: (List.replicate 48 (.int .u64 0) ++ (.int .i64 0 :: .int .i64 0 :: .int .u64 0 :: zeroNd.cl))
theorem zeroS_is (p : Option Addr) (F : Value) (a : Int) : IsS (zeroS p F a).toArray p F false 0 a (fun _ => 0) 0 0 0 zeroNd := by
  refine ⟨by rw [List.size_toArray]; rfl, rfl, rfl, rfl, rfl, rfl, fun j hj => ?_, rfl, rfl, rfl, fun j u hu => ?_⟩
  · rw [List.getElem?_toArray, show 5 + j = j + 1 + 1 + 1 + 1 + 1 by omega]
    simp only [zeroS, List.getElem?_cons_succ]
    rw [List.getElem?_append_left (by simpa using hj), List.getElem?_replicate, if_pos hj]
  · rw [List.getElem?_toArray, show 56 + j = j + 51 + 1 + 1 + 1 + 1 + 1 by omega]
    simp only [zeroS, List.getElem?_cons_succ]
    rw [List.getElem?_append_right (by simp only [List.length_replicate]; omega), List.length_replicate, show j + 51 - 48 = j + 1 + 1 + 1 by omega]
    simp only [List.getElem?_cons_succ]
    exact hu
set_option maxRecDepth 100000 in
set_option maxHeartbeats 3200000 in
theorem snNew_any (p : Option Addr) (a : Int) (w : World) : Calls Try.prog 10 #[.pointer p, .int .u64 a] w fun e w' => e = .returned (.pointer (some ⟨w.heap.size, 0, none⟩)) ∧ w.alloc (.cells (zeroS p (nextV 35 w.heap.size) a).toArray 81) = w' := by
  go_enter Try.func10, Try.ntmps10
  go_wp2
  go_ret
  exact ⟨rfl, rfl⟩
end Go.Proofs.Ytaabdmlmemmnaaa
/- What a snapshot tells: its node, its high bound; without conditions. -/
namespace Go.Proofs.Ytaabdmlmemmnaaa
open Go.RowKit
set_option linter.unusedVariables false
attribute [local go_sem] Oper.semAt_some
set_option maxRecDepth 100000 in
set_option maxHeartbeats 3200000 in
theorem snNode_nil (w : World) : Calls Try.prog 13 #[.pointer none] w fun e w' => e = .returned (.tuple #[zeroNd.V, .int .i64 1]) ∧ Below w.heap.size w w' := by
  have R0 := Lib.hid (show NdAt (w.alloc (.cells zeroNd.cl.toArray 27)) w.heap.size zeroNd from Row.new w 27 zeroNd.cl.toArray)
  go_enter Try.func13, Try.ntmps13
  go_wp2_with (refine wpList_store_row rfl _ _ _ rfl w.heap.size zeroNd.cl rfl rfl R0.out rfl ndI (cl_one zeroNd) ?_)
  refine bodyPost_ret (results_node_tmp rfl _ _ w.heap.size zeroNd rfl (row_setCells R0.out rfl)) rfl ⟨rfl, setCells_low _ (Nat.le_refl _) (alloc_below _ _)⟩
set_option maxRecDepth 100000 in
set_option maxHeartbeats 3200000 in
theorem snNode_any {w : World} {g : Nat} {cs : Array Value} {p : Option Addr} {F : Value} {d : Bool} {k a wh wd lo kk : Int} {r : Nat → Int} {n : Nd} (hr : Row w g 81 cs) (hs : IsS cs p F d k a r wh wd lo n)
    (HR : ∀ W, Below w.heap.size w W → Calls Try.prog 38 #[.pointer (some ⟨g, 0, none⟩)] W fun e w' => e = .returned (.int .i64 kk) ∧ W = w') :
    Calls Try.prog 13 #[.pointer (some ⟨g, 0, none⟩)] w fun e w' => e = .returned (.tuple #[n.V, .int .i64 kk]) ∧ Below w.heap.size w w' := by
  have mixed : Try.prog.follows .mixedOrders = true := by kernel_rfl
  obtain ⟨W1, hW1⟩ : ∃ W1, W1 = w.alloc (.cells #[.int .i64 0, .int .u64 0, .int .u64 0, .int .u64 0, .int .u64 0, .int .u64 0, .int .u64 0, .int .u64 0, .int .u64 0, .int .u64 0, .int .u64 0, .int .u64 0, .int .u64 0, .int .u64 0, .int .u64 0, .int .u64 0, .int .u64 0, .int .u64 0, .int .u64 0, .int .u64 0, .int .u64 0] 27) := ⟨_, rfl⟩
  have hb1 : Below w.heap.size w W1 := by rw [hW1]; exact alloc_below _ _
  have r1 : NdAt W1 w.heap.size zeroNd := by rw [hW1]; exact Row.new w 27 zeroNd.cl.toArray
  have HRn := Lib.hid (fun (w' : World) (h : ∃ q : LowBy W1, w' = q.W) => (show w'.rangeAt g 56 n.cl by
    obtain ⟨q, rfl⟩ := h
    intro j v hv
    rw [((hr.below hb1 hr.lt).below q.low (hr.below hb1 hr.lt).lt).cell]
    exact hs.cn j v hv))
  have HC := Lib.hid (fun (q : LowBy W1) => Calls.low_of_same (HR q.W (Below.and hb1 q.low)))
  have HR1 := Lib.hid (fun q : LowBy W1 => (show NdAt q.W w.heap.size zeroNd from r1.below q.low r1.lt))
  have HB := Lib.hid (fun q : LowBy W1 => Below.and hb1 q.low)
  have HW1 := Lib.hid hW1
  clear hr hs HR hb1 r1 hW1
  go_enter Try.func13, Try.ntmps13
  go_wp2_with (rw [← HW1.out])
  refine wp_region_low_tail 8 (by assumption) (by kernel_rfl) ?_
  simp only [List.take_succ_cons, List.take_zero, List.drop_succ_cons, List.drop_zero]
  repeat (first | go_big_quiet_skip | (go_big_quiet_want; first | (refine quiet_load_mid 27 _ rfl g 56 rfl n.cl _ HRn.out Try.underlying27 rfl ndI ?_; simp only [Act.put, List.setIfInBounds_toArray, List.set_cons_succ, List.set_cons_zero]; go_big_quiet_on) | (go_big_quiet_op; first | go_big_quiet_on | go_big_quiet_call ((go_at_call 38; with_reducible exact HC.out _)))))
  refine wpQuiet_nil ?_
  intro _ hw'
  obtain ⟨q, hw''⟩ := hw'
  subst hw''
  have H1 := Lib.hid (HR1.out q)
  have HBq := Lib.hid (HB.out q)
  clear HR1 HB HC HRn
  go_wp2_with (refine wpList_store_row rfl _ _ _ rfl w.heap.size n.cl rfl rfl H1.out rfl ndI (cl_one n) ?_)
  refine bodyPost_ret (results_node_tmp rfl _ _ w.heap.size n rfl (row_setCells H1.out rfl)) rfl ⟨rfl, setCells_low _ (Nat.le_refl _) HBq.out⟩
end Go.Proofs.Ytaabdmlmemmnaaa
/- What a snapshot tells: its high bound; without conditions. -/
namespace Go.Proofs.Ytaabdmlmemmnaaa
open Go.RowKit
set_option linter.unusedVariables false
attribute [local go_sem] Oper.semAt_some
theorem store_gen11 (w1 : World) (n : Nd) : ∃ W2, W2 = (w1.alloc (.cells #[.int .i64 0, .int .u64 0, .int .u64 0, .int .u64 0, .int .u64 0, .int .u64 0, .int .u64 0, .int .u64 0, .int .u64 0, .int .u64 0, .int .u64 0, .int .u64 0, .int .u64 0, .int .u64 0, .int .u64 0, .int .u64 0, .int .u64 0, .int .u64 0, .int .u64 0, .int .u64 0, .int .u64 0] 27)).setCells w1.heap.size 0 n.cl ∧ NdAt W2 w1.heap.size n ∧ Below w1.heap.size w1 W2 :=
  ⟨_, rfl, row_setCells (Row.new w1 27 zeroNd.cl.toArray) rfl, setCells_low _ (Nat.le_refl _) (alloc_below _ _)⟩
def hiV (kk lo : Int) (n : Nd) : Int := if kk = 0 ∧ n.nx ≠ 0 then lo else 0
def hiB (kk : Int) (n : Nd) : Bool := if kk = 0 ∧ n.nx ≠ 0 then true else false
set_option maxRecDepth 100000 in
set_option maxHeartbeats 3200000 in
theorem snHigh_of {w : World} {p : Option Addr} {n : Nd} {kk lo : Int} (HN : Calls Try.prog 13 #[.pointer p] w fun e w' => e = .returned (.tuple #[n.V, .int .i64 kk]) ∧ Below w.heap.size w w')
    (hlo : kk = 0 → ∃ g, p = some ⟨g, 0, none⟩ ∧ w.cell? ⟨g, 55, none⟩ = some (.int .u64 lo)) :
    Calls Try.prog 14 #[.pointer p] w fun e w' => e = .returned (.tuple #[.int .u64 (hiV kk lo n), .bool (hiB kk n)]) ∧ Below w.heap.size w w' := by
  have HN := Lib.hid HN
  have HLo := Lib.hid hlo
  clear hlo
  by_cases hk : kk = 0
  · by_cases hx : n.nx = 0
    · have HR := Lib.hid (show hiV kk lo n = 0 ∧ hiB kk n = false by unfold hiV hiB; simp [hx])
      rw [HR.out.1, HR.out.2]
      subst hk
      have hx1 : (n.nx == 0) = true := by simpa using hx
      clear HR HLo
      have HX := Lib.hid hx
      clear hx
      go_enter Try.func14, Try.ntmps14
      go_wp2_with (first
        | ((with_reducible refine HN.out.mono ?_); rintro e w1 ⟨rfl, h1⟩)
        | (refine wpList_store_row rfl _ _ _ rfl w1.heap.size n.cl rfl rfl (Row.new w1 27 zeroNd.cl.toArray) rfl ndI (cl_one n) ?_; obtain ⟨W2, hW2, hn2, hb2⟩ := store_gen11 w1 n; rw [← hW2]; have c2 : W2.cell? ⟨w1.heap.size, 2, none⟩ = some (.int .u64 n.nx) := ndAt_at hn2 2; have H1 := Lib.hid h1; have HB2 := Lib.hid hb2; clear hW2 hn2 h1 hb2))
      go_ret2
      exact ⟨rfl, Below.and H1.out HB2.out⟩
    · have HR := Lib.hid (show hiV kk lo n = lo ∧ hiB kk n = true by unfold hiV hiB; simp [hx, hk])
      rw [HR.out.1, HR.out.2]
      obtain ⟨g, rfl, hg⟩ := HLo.out hk
      subst hk
      have hx1 : (n.nx == 0) = false := by simpa using hx
      clear HR HLo
      have HX := Lib.hid hx
      have HG := Lib.hid fun W (hb : Below w.heap.size w W) => (hb.cell (p := ⟨g, 55, none⟩) (block_lt_of_cell hg)).trans hg
      clear hx hg
      go_enter Try.func14, Try.ntmps14
      go_wp2_with (first
        | ((with_reducible refine HN.out.mono ?_); rintro e w1 ⟨rfl, h1⟩)
        | (refine wpList_store_row rfl _ _ _ rfl w1.heap.size n.cl rfl rfl (Row.new w1 27 zeroNd.cl.toArray) rfl ndI (cl_one n) ?_; obtain ⟨W2, hW2, hn2, hb2⟩ := store_gen11 w1 n; rw [← hW2]; have c2 : W2.cell? ⟨w1.heap.size, 2, none⟩ = some (.int .u64 n.nx) := ndAt_at hn2 2; have c55 := HG.out W2 (Below.and h1 hb2); have H1 := Lib.hid h1; have HB2 := Lib.hid hb2; clear hW2 hn2 h1 hb2))
      go_ret2
      exact ⟨rfl, Below.and H1.out HB2.out⟩
  · have HR := Lib.hid (show hiV kk lo n = 0 ∧ hiB kk n = false by unfold hiV hiB; simp [hk])
    rw [HR.out.1, HR.out.2]
    have hk1 : (kk != 0) = true := by simpa using hk
    clear HR HLo hk
    go_enter Try.func14, Try.ntmps14
    go_wp2_with (first
      | ((with_reducible refine HN.out.mono ?_); rintro e w1 ⟨rfl, h1⟩)
      | (refine wpList_store_row rfl _ _ _ rfl w1.heap.size n.cl rfl rfl (Row.new w1 27 zeroNd.cl.toArray) rfl ndI (cl_one n) ?_; obtain ⟨W2, hW2, hn2, hb2⟩ := store_gen11 w1 n; rw [← hW2]; have H1 := Lib.hid h1; have HB2 := Lib.hid hb2; clear hW2 hn2 h1 hb2))
    go_ret2
    exact ⟨rfl, Below.and H1.out HB2.out⟩
end Go.Proofs.Ytaabdmlmemmnaaa
/- A snapshot in a memory that lies: what a step makes of it; for any address. -/
namespace Go.Proofs.Ytaabdmlmemmnaaa
open Go.RowKit
set_option linter.unusedVariables false
/-- What a snapshot does next. -/
inductive Sp where
  | bg
  | rd
  | lw
  | en
deriving DecidableEq
def Sp.no : Sp → Nat
  | .bg => 35
  | .rd => 55
  | .lw => 71
  | .en => 72
/-- A snapshot's state. -/
structure SS where
  ph : Sp
  d : Bool
  k : Int
  a : Nat
  r : Nat → Int
  wh : Nat
  wd : Nat
  lo : Int
  n : Nd
def SS.new (a : Nat) : SS := ⟨.bg, false, 0, a, fun _ => 0, 0, 0, 0, zeroNd⟩
def SnapAt (w : World) (g : Nat) (p : Option Addr) (s : SS) : Prop := ∃ cs, Row w g 81 cs ∧ IsS cs p (nextV s.ph.no g) s.d s.k s.a s.r s.wh s.wd s.lo s.n
/-- Where it looks next. -/
def SS.ask (s : SS) : Nat := match s.ph with
  | .bg => wordAt s.a 3
  | .rd => wordAt s.a s.wd
  | .lw => wordAt (s.r 26).toNat 1
  | .en => wordAt s.a 3
def rdP (s : SS) (v : Int) : Sp := if (bh s.wd v).2 = true then .rd else if s.wh = 0 then .rd else if rput s.r (24 * s.wh + s.wd) v 26 = 0 then .en else .lw
/-- The snapshot behind a step that loaded v, with that error. -/
def SS.next (s : SS) (v kk : Int) : SS := match s.ph with
  | .bg => { s with ph := .rd, d := kk != 0, k := kk, r := rBeg v, wh := 0, wd := 0 }
  | .rd => { s with ph := rdP s v, d := kk != 0, k := kk, r := rput s.r (24 * s.wh + s.wd) v, wh := rdWh s.wh s.wd v, wd := (bh s.wd v).1 }
  | .lw => { s with ph := .en, d := kk != 0, k := kk, lo := v }
  | .en => { s with ph := if kk = 0 ∧ sameR (rput s.r 27 v) = true then .en else .bg, d := enD false (rput s.r 27 v) kk || enK (rput s.r 27 v) kk != 0, k := enK (rput s.r 27 v) kk, r := rput s.r 27 v, n := enN s.n (rput s.r 27 v) kk }
structure SS.Good (s : SS) : Prop where
  d : s.d = false
  a : s.a < 18446744073709551616
  wh : s.wh = 0 ∨ s.wh = 1
  wd : s.wd < 24
  r : ∀ j, 0 ≤ s.r j ∧ s.r j < 18446744073709551616
theorem new_SGood {a : Nat} (ha : a < 18446744073709551616) : (SS.new a).Good := ⟨rfl, ha, .inl rfl, by show 0 < 24; omega, fun j => ⟨Int.le_refl 0, by show (0 : Int) < _; omega⟩⟩
theorem rput_in {r : Nat → Int} (h : ∀ j, 0 ≤ r j ∧ r j < 18446744073709551616) {i : Nat} {v : Int} (hv : 0 ≤ v ∧ v < 18446744073709551616) (j : Nat) : 0 ≤ rput r i v j ∧ rput r i v j < 18446744073709551616 := by
  unfold rput
  split
  · exact hv
  · exact h j
theorem bh_lt {k : Nat} (hk : k < 24) (v : Int) : (bh k v).1 < 24 := by
  unfold bh
  split
  · show 4 < 24; omega
  · split
    · show 8 < 24; omega
    · split
      · show 0 < 24; omega
      · rename_i h
        show k + 1 < 24
        have : k ≠ 23 := fun e => h (.inl e)
        omega
theorem SS.next_good {s : SS} (G : s.Good) {v kk : Int} (hv : 0 ≤ v ∧ v < 18446744073709551616) (hd : (s.next v kk).d = false) : (s.next v kk).Good := by
  obtain ⟨ph, d, k, a, r, wh, wd, lo, n⟩ := s
  obtain ⟨g1, g2, g3, g4, g5⟩ := G
  cases ph with
  | bg => exact ⟨hd, g2, .inl rfl, by show 0 < 24; omega, fun j => by
      show 0 ≤ rBeg v j ∧ rBeg v j < _
      unfold rBeg
      split
      · exact hv
      · omega⟩
  | rd => exact ⟨hd, g2, by
      show rdWh wh wd v = 0 ∨ rdWh wh wd v = 1
      unfold rdWh
      split
      · exact g3
      · exact .inr rfl, bh_lt g4 v, fun j => rput_in g5 hv j⟩
  | lw => exact ⟨hd, g2, g3, g4, g5⟩
  | en => exact ⟨hd, g2, g3, g4, fun j => rput_in g5 hv j⟩
/-- What a load answers, of a memory's state. -/
def ldV (s : St) (A : Nat) : Int := if A % 8 = 0 ∧ A < 64 * s.nl then ((s.view.getD (A / 8) 0 : Nat) : Int) else 0
def ldK (s : St) (A : Nat) : Int := if A % 8 = 0 ∧ A < 64 * s.nl then 0 else 3
def ldS (s : St) (A : Nat) : St := if A % 8 = 0 ∧ A < 64 * s.nl then { s with ld := s.ld + 1 } else s
theorem load_any {w : World} {y : Lay} {s : St} (h : MemAt w y s) (ok : s.Ok) (A : Nat) :
    Calls Try.prog 24 #[.pointer (some ⟨y.g, 0, none⟩), .int .u64 (A : Int)] w (AnsPost w y (ldS s A) (.tuple #[.int .u64 (ldV s A), .int .i64 (ldK s A)])) := by
  unfold ldS ldV ldK
  by_cases hA : A % 8 = 0 ∧ A < 64 * s.nl
  · simp only [if_pos hA]
    exact load_ok h ok A hA.1 hA.2
  · simp only [if_neg hA]
    exact (load_range h A (by omega)).mono fun e w' ⟨he, hw⟩ => ⟨he, y, by rw [← hw]; exact h, by rw [← hw]; exact Turn.refl _ _⟩
/-- What a snapshot's step leaves of a memory and the snapshot. -/
def SnPost (w : World) (y : Lay) (g : Nat) (S' : SS) (s' : St) (w' : World) : Prop := ∃ y', MemAt w' y' s' ∧ SnapAt w' g (some ⟨y.g, 0, none⟩) S' ∧ RT w w' y y' g
/-- What its function leaves. -/
def SnP (w : World) (y : Lay) (g : Nat) (s' : St) (w' : World) : Prop := ∃ y', MemAt w' y' s' ∧ RT w w' y y' g
theorem sn_fin {w w1 w' : World} {y : Lay} {g : Nat} {s' : St} {cs' : Array Value} (hg : g < w.heap.size) (sep : ¬ y.fp g) (h1 : SnP w y g s' w1) (h2 : Sw w1 w' g cs') : ∃ y', MemAt w' y' s' ∧ RT w w' y y' g := by
  obtain ⟨y', hm, T⟩ := h1
  have sep' : ¬ y'.fp g := fun hf => by
    rcases T.fp g hf with h | h
    · exact sep h
    · omega
  exact ⟨y', hm.same fun k hk => h2.but.block k (hm.lt k hk) (fun e => sep' (by rw [← e]; exact hk)), T.trans ⟨rfl, h2.but.mono fun k h => .inr h, fun _ h => .inl h⟩⟩
theorem sn_load {w : World} {y : Lay} {s : St} {g : Nat} {cs : Array Value} (h : MemAt w y s) (ok : s.Ok) (hr : Row w g 81 cs) (sep : ¬ y.fp g) (A : Nat) : ∀ W, Below w.heap.size w W →
    Calls Try.prog 24 #[.pointer (some ⟨y.g, 0, none⟩), .int .u64 (A : Int)] W fun e' w' => e' = .returned (.tuple #[.int .u64 (ldV s A), .int .i64 (ldK s A)]) ∧ LQ g cs (SnP w y g (ldS s A)) w' := by
  intro W hb
  refine (load_any (h.below hb) ok A).mono ?_
  rintro e w' ⟨he, y', hm, ht⟩
  exact ⟨he, ht.but.row (hr.below hb hr.lt) sep, y', hm, (RT.of_below y g hb).trans (RT.of_turn g ht)⟩
theorem sstep_any {w : World} {y : Lay} {s : St} {g : Nat} {S : SS} (h : MemAt w y s) (ok : s.Ok) (hS : SnapAt w g (some ⟨y.g, 0, none⟩) S) (sep : ¬ y.fp g) (G : S.Good) :
    Calls Try.prog 12 #[.pointer (some ⟨g, 0, none⟩)] w fun e w' => e = .returned (.tuple #[.bool (S.next (ldV s S.ask) (ldK s S.ask)).d, .int .i64 (S.next (ldV s S.ask) (ldK s S.ask)).k]) ∧ SnPost w y g (S.next (ldV s S.ask) (ldK s S.ask)) (ldS s S.ask) w' := by
  obtain ⟨cs, hr, hs⟩ := hS
  have hlt := hr.lt
  obtain ⟨ph, d, k, a, r, wh, wd, lo, n⟩ := S
  obtain ⟨g1, g2, g3, g4, g5⟩ := G
  dsimp only at g1 g2 g3 g4 g5 hs
  subst g1
  refine snStep_of ?_
  cases ph with
  | bg =>
    refine (mstep_of (fun w v => Try.call35 _ _) hr hs.c1 hs.c2 (by simp; rfl) (snBegin_any hr hs g2 (sn_load h ok hr sep _))).mono ?_
    rintro e w' ⟨he, w1, cs', h1, hi, hsw⟩
    obtain ⟨y', hm', T'⟩ := sn_fin hlt sep h1 hsw
    exact ⟨he, y', hm', ⟨cs', hsw.row, hi⟩, T'⟩
  | rd =>
    have hF : rdF (nextV 55 g) g r wh wd (ldV s (wordAt a wd)) = nextV (rdP ⟨.rd, false, k, a, r, wh, wd, lo, n⟩ (ldV s (wordAt a wd))).no g := by
      unfold rdF rdP
      dsimp only
      split
      · rfl
      · split
        · rfl
        · split <;> rfl
    refine (mstep_of (fun w v => Try.call55 _ _) hr hs.c1 hs.c2 (by simp; rfl) (read_any hr hs g2 g3 g4 (sn_load h ok hr sep _))).mono ?_
    rintro e w' ⟨he, w1, cs', h1, hi, hsw⟩
    obtain ⟨y', hm', T'⟩ := sn_fin hlt sep h1 hsw
    have hi' := hi
    rw [show (Sp.rd).no = 55 from rfl, hF] at hi'
    exact ⟨he, y', hm', ⟨cs', hsw.row, hi'⟩, T'⟩
  | lw =>
    refine (mstep_of (fun w v => Try.call71 _ _) hr hs.c1 hs.c2 (by simp; rfl) (readLow_any (a := (r 26).toNat) hr hs (by have := g5 26; omega) (by have := g5 26; omega) (sn_load h ok hr sep _))).mono ?_
    rintro e w' ⟨he, w1, cs', h1, hi, hsw⟩
    obtain ⟨y', hm', T'⟩ := sn_fin hlt sep h1 hsw
    exact ⟨he, y', hm', ⟨cs', hsw.row, hi⟩, T'⟩
  | en =>
    have hF : ∀ rr kk, enF (nextV 72 g) g rr kk = nextV (if kk = 0 ∧ sameR rr = true then Sp.en else Sp.bg).no g := fun rr kk => by
      unfold enF
      split <;> rfl
    refine (mstep_of (fun w v => Try.call72 _ _) hr hs.c1 hs.c2 rfl (end_any hr hs g2 (g5 24) (sn_load h ok hr sep _))).mono ?_
    rintro e w' ⟨he, w1, cs', h1, hi, hsw⟩
    obtain ⟨y', hm', T'⟩ := sn_fin hlt sep h1 hsw
    have hi' := hi
    rw [show (Sp.en).no = 72 from rfl, hF] at hi'
    exact ⟨he, y', hm', ⟨cs', hsw.row, hi'⟩, T'⟩
end Go.Proofs.Ytaabdmlmemmnaaa
/- What a snapshot comes to where nobody stores: plain facts, without conditions. -/
namespace Go.Proofs.Ytaabdmlmemmnaaa
open Go.RowKit
set_option linter.unusedVariables false
/-- A step, by what loads answer. -/
def SS.go (V K : Nat → Int) (S : SS) : SS := S.next (V S.ask) (K S.ask)
def SS.it (V K : Nat → Int) : Nat → SS → SS
  | 0, S => S
  | n + 1, S => (SS.it V K n S).go V K
theorem SS.it_add (V K : Nat → Int) (S : SS) (n : Nat) : ∀ m, SS.it V K (n + m) S = SS.it V K m (SS.it V K n S)
  | 0 => rfl
  | m + 1 => by rw [← Nat.add_assoc, SS.it, SS.it, SS.it_add V K S n m]
/-- So many steps lead there, and none ahead of it was the last one. -/
structure Goes (V K : Nat → Int) (S : SS) (n : Nat) (S' : SS) : Prop where
  it : SS.it V K n S = S'
  on : ∀ t, t < n → (SS.it V K t S).d = false
theorem Goes.zero (V K : Nat → Int) (S : SS) : Goes V K S 0 S := ⟨rfl, fun t h => absurd h (Nat.not_lt_zero _)⟩
theorem Goes.one {V K : Nat → Int} {S : SS} (h : S.d = false) : Goes V K S 1 (S.go V K) := ⟨rfl, fun t ht => by
  obtain rfl : t = 0 := by omega
  exact h⟩
theorem Goes.add {V K : Nat → Int} {S S' S'' : SS} {n m : Nat} (h : Goes V K S n S') (h' : Goes V K S' m S'') : Goes V K S (n + m) S'' := by
  refine ⟨by rw [SS.it_add, h.it, h'.it], fun t ht => ?_⟩
  by_cases hl : t < n
  · exact h.on t hl
  · obtain ⟨u, rfl⟩ : ∃ u, t = n + u := ⟨t - n, by omega⟩
    rw [SS.it_add, h.it]
    exact h'.on u (by omega)
/-- The words that are read ahead of one. -/
def prt (W : Nat → Int) (k j : Nat) : Int := if j < k ∧ j ≠ 3 ∧ (j < 5 ∨ 7 < j) then W j else 0
/-- No pointer ahead of one is 0. -/
def fullTo (W : Nat → Int) (j : Nat) : Prop := ∀ i, i < j → 9 ≤ i → i % 2 = 1 → W i ≠ 0
instance (W : Nat → Int) (j : Nat) : Decidable (fullTo W j) := by unfold fullTo; infer_instance
/-- All words that are read. -/
def full (W : Nat → Int) (j : Nat) : Int := if (j ≠ 3 ∧ (j < 5 ∨ 7 < j)) ∧ fullTo W j then W j else 0
/-- A load was refused. -/
def Erred (S : SS) : Prop := S.d = true ∧ S.k = 3 ∧ S.n = zeroNd
/-- Which loads may be refused. -/
def Bad (V K : Nat → Int) (a : Nat) : Prop := (∃ k, k < 24 ∧ K (wordAt a k) = 3) ∨ (V (wordAt a 2) ≠ 0 ∧ K (wordAt (V (wordAt a 2)).toNat 1) = 3)
def ordW (k : Nat) : Prop := k = 0 ∨ k = 1 ∨ k = 2 ∨ k = 4 ∨ (8 ≤ k ∧ k < 24)
theorem prt_put {W : Nat → Int} {r : Nat → Int} {wh k k' : Nat} (hk : ordW k) (hb : k' = if k = 2 then 4 else if k = 4 then 8 else k + 1) {c : Int}
    (hr : ∀ j, j < 24 → r (24 * wh + j) = if j = 3 then c else prt W k j) : ∀ j, j < 24 → rput r (24 * wh + k) (W k) (24 * wh + j) = if j = 3 then c else prt W k' j := by
  intro j hj
  unfold rput
  by_cases e : j = k
  · subst e
    rw [if_pos rfl]
    have h3 : j ≠ 3 := by rcases hk with h | h | h | h | h <;> omega
    rw [if_neg h3]
    unfold prt
    have : j < k' := by
      rw [hb]
      split
      · omega
      · split <;> omega
    rw [if_pos ⟨this, h3, by rcases hk with h | h | h | h | h <;> omega⟩]
  · rw [if_neg (by omega), hr j hj]
    by_cases h3 : j = 3
    · rw [if_pos h3, if_pos h3]
    · rw [if_neg h3, if_neg h3]
      unfold prt
      by_cases hc : j ≠ 3 ∧ (j < 5 ∨ 7 < j)
      · have : j < k ↔ j < k' := by
          rw [hb]
          rcases hk with h | h | h | h | h
          · subst h; simp only [show (0:Nat) ≠ 2 by omega, show (0:Nat) ≠ 4 by omega, if_false]; omega
          · subst h; simp only [show (1:Nat) ≠ 2 by omega, show (1:Nat) ≠ 4 by omega, if_false]; omega
          · subst h; simp only [if_true]; omega
          · subst h; simp only [show (4:Nat) ≠ 2 by omega, if_false, if_true]; omega
          · simp only [show k ≠ 2 by omega, show k ≠ 4 by omega, if_false]; omega
        simp only [hc, this]
      · rw [if_neg (fun h => hc h.2), if_neg (fun h => hc h.2)]
theorem full_put {W : Nat → Int} {r : Nat → Int} {wh k : Nat} (hk : ordW k) (hs : k = 23 ∨ (8 < k ∧ k % 2 = 1 ∧ W k = 0)) (hn : fullTo W k) {c : Int}
    (hr : ∀ j, j < 24 → r (24 * wh + j) = if j = 3 then c else prt W k j) : ∀ j, j < 24 → rput r (24 * wh + k) (W k) (24 * wh + j) = if j = 3 then c else full W j := by
  intro j hj
  unfold rput
  by_cases e : j = k
  · subst e
    rw [if_pos rfl]
    have h8 : 8 < j := by rcases hs with h | h <;> omega
    rw [if_neg (by omega)]
    unfold full
    rw [if_pos ⟨⟨by omega, by omega⟩, hn⟩]
  · rw [if_neg (by omega), hr j hj]
    by_cases h3 : j = 3
    · rw [if_pos h3, if_pos h3]
    · rw [if_neg h3, if_neg h3]
      unfold prt full
      by_cases hl : j < k
      · have hf : fullTo W j := fun i hi => hn i (by omega)
        simp only [hl, hf, true_and, and_true]
      · rw [if_neg (fun h => hl h.1), if_neg]
        rintro ⟨_, hf⟩
        rcases hs with h | ⟨h, h', h0⟩
        · omega
        · exact hf k (by omega) (by omega) h' h0
theorem bh_on {k : Nat} {w : Int} (h : (bh k w).2 = true) (hk : ordW k) : (bh k w).1 = (if k = 2 then 4 else if k = 4 then 8 else k + 1) ∧ ¬ (k = 23 ∨ (8 < k ∧ k % 2 = 1 ∧ w = 0)) := by
  unfold bh at h ⊢
  by_cases h2 : k = 2
  · subst h2; simp
  · by_cases h4 : k = 4
    · subst h4; simp
    · rw [if_neg h2, if_neg h4] at h ⊢
      by_cases hs : k = 23 ∨ (8 < k ∧ k % 2 = 1 ∧ w = 0)
      · rw [if_pos hs] at h; cases h
      · rw [if_neg hs, if_neg h2, if_neg h4]; exact ⟨rfl, hs⟩
theorem bh_off {k : Nat} {w : Int} (h : ¬ (bh k w).2 = true) : (bh k w).1 = 0 ∧ (k = 23 ∨ (8 < k ∧ k % 2 = 1 ∧ w = 0)) := by
  unfold bh at h ⊢
  by_cases h2 : k = 2
  · subst h2; simp at h
  · by_cases h4 : k = 4
    · subst h4; simp at h
    · rw [if_neg h2, if_neg h4] at h ⊢
      by_cases hs : k = 23 ∨ (8 < k ∧ k % 2 = 1 ∧ w = 0)
      · rw [if_pos hs]; exact ⟨rfl, hs⟩
      · rw [if_neg hs] at h; exact absurd rfl h
theorem ne_zero_true {k : Int} (h : k = 3) : (k != 0) = true := by subst h; rfl
/-- A reading. -/
theorem rd_goes {V K : Nat → Int} (hK : ∀ A, K A = 0 ∨ K A = 3) {a wh : Nat} (hwh : wh = 0 ∨ wh = 1) {c : Int} {lo : Int} : ∀ m k, 24 - k ≤ m → ordW k → ∀ (r : Nat → Int) (kk : Int),
    (∀ j, j < 24 → r (24 * wh + j) = if j = 3 then c else prt (fun i => V (wordAt a i)) k j) → fullTo (fun i => V (wordAt a i)) k →
    ∃ n S', 1 ≤ n ∧ n ≤ m ∧ Goes V K ⟨.rd, false, kk, a, r, wh, k, lo, zeroNd⟩ n S' ∧
      ((Erred S' ∧ ∃ i, i < 24 ∧ K (wordAt a i) = 3) ∨
       ∃ r' : Nat → Int, S' = ⟨if wh = 0 then .rd else if r' 26 = 0 then .en else .lw, false, 0, a, r', 1, 0, lo, zeroNd⟩ ∧
         (∀ j, j < 24 → r' (24 * wh + j) = if j = 3 then c else full (fun i => V (wordAt a i)) j) ∧ (∀ j, j / 24 ≠ wh → r' j = r j)) := by
  intro m
  induction m with
  | zero => intro k hm hk; exfalso; rcases hk with h | h | h | h | h <;> omega
  | succ m ih =>
    intro k hm hk r kk hr hf
    have hk24 : k < 24 := by rcases hk with h | h | h | h | h <;> omega
    have hgo : SS.go V K ⟨.rd, false, kk, a, r, wh, k, lo, zeroNd⟩ = ⟨rdP ⟨.rd, false, kk, a, r, wh, k, lo, zeroNd⟩ (V (wordAt a k)), K (wordAt a k) != 0, K (wordAt a k), a, rput r (24 * wh + k) (V (wordAt a k)), rdWh wh k (V (wordAt a k)), (bh k (V (wordAt a k))).1, lo, zeroNd⟩ := rfl
    rcases hK (wordAt a k) with h0 | h3
    · rw [h0, show ((0 : Int) != 0) = false from rfl] at hgo
      by_cases hb : (bh k (V (wordAt a k))).2 = true
      · obtain ⟨e1, hns⟩ := bh_on hb hk
        have hk' : ordW (bh k (V (wordAt a k))).1 := by
          rw [e1]
          unfold ordW
          rcases hk with h | h | h | h | h
          · subst h; simp
          · subst h; simp
          · subst h; simp
          · subst h; simp
          · rw [if_neg (by omega), if_neg (by omega)]
            have : k ≠ 23 := fun e => hns (.inl e)
            omega
        have hlt : k < (bh k (V (wordAt a k))).1 := by
          rw [e1]
          split
          · omega
          · split <;> omega
        have hf' : fullTo (fun i => V (wordAt a i)) (bh k (V (wordAt a k))).1 := by
          intro i hi h9 ho
          by_cases hik : i < k
          · exact hf i hik h9 ho
          · rw [e1] at hi
            have : i = k := by
              rcases hk with h | h | h | h | h
              · subst h; simp at hi; omega
              · subst h; simp at hi; omega
              · subst h; simp at hi; omega
              · subst h; simp at hi; omega
              · rw [if_neg (by omega), if_neg (by omega)] at hi; omega
            subst this
            exact fun hz => hns (.inr ⟨by omega, ho, hz⟩)
        have hp : rdP ⟨.rd, false, kk, a, r, wh, k, lo, zeroNd⟩ (V (wordAt a k)) = .rd := by unfold rdP; rw [if_pos hb]
        have hw : rdWh wh k (V (wordAt a k)) = wh := by unfold rdWh; rw [if_pos hb]
        rw [hp, hw] at hgo
        obtain ⟨k', hk'e⟩ : ∃ k', k' = (bh k (V (wordAt a k))).1 := ⟨_, rfl⟩
        rw [← hk'e] at hk' hlt hf' hgo e1
        have hle : 24 - k' ≤ m := by omega
        obtain ⟨n, S', h1, h2, h3, h4⟩ := ih k' hle hk' (rput r (24 * wh + k) (V (wordAt a k))) 0 (prt_put (W := fun i => V (wordAt a i)) hk e1 hr) hf'
        refine ⟨1 + n, S', by omega, by omega, (Goes.one rfl).add (by rw [hgo]; exact h3), ?_⟩
        rcases h4 with h4 | ⟨r', e, ha, hb'⟩
        · exact .inl h4
        · refine .inr ⟨r', e, ha, fun j hj => ?_⟩
          rw [hb' j hj]
          unfold rput
          rw [if_neg (fun e => hj (by omega))]
      · obtain ⟨e1, hst⟩ := bh_off hb
        have hp : rdP ⟨.rd, false, kk, a, r, wh, k, lo, zeroNd⟩ (V (wordAt a k)) = if wh = 0 then .rd else if rput r (24 * wh + k) (V (wordAt a k)) 26 = 0 then .en else .lw := by unfold rdP; rw [if_neg hb]
        have hw : rdWh wh k (V (wordAt a k)) = 1 := by unfold rdWh; rw [if_neg hb]
        rw [hp, hw, e1] at hgo
        refine ⟨1, _, by omega, by omega, Goes.one rfl, .inr ⟨_, hgo, full_put hk hst hf hr, fun j hj => ?_⟩⟩
        unfold rput
        rw [if_neg (fun e => hj (by omega))]
    · refine ⟨1, _, by omega, by omega, Goes.one rfl, .inl ⟨?_, k, hk24, h3⟩⟩
      rw [hgo]
      exact ⟨ne_zero_true h3, h3, rfl⟩
/-- The words of the node that is read. -/
def fullC (W : Nat → Int) (c : Int) (j : Nat) : Int := if j = 3 then c else full W j
theorem full2 (W : Nat → Int) : full W 2 = W 2 := by
  unfold full
  rw [if_pos ⟨by omega, fun i hi h9 => by omega⟩]
/-- Where nobody stores a snapshot is done within 64 steps. -/
theorem sn_alone {V K : Nat → Int} (hK : ∀ A, K A = 0 ∨ K A = 3) (a : Nat) : ∃ T S', 1 ≤ T ∧ T ≤ 60 ∧ Goes V K (SS.new a) T S' ∧ S'.d = true ∧
    ((S'.k = 3 ∧ S'.n = zeroNd ∧ Bad V K a) ∨
     (S'.k = (ofR ((List.range 24).map (fullC (fun i => V (wordAt a i)) (V (wordAt a 3))))).2 ∧ S'.n = (ofR ((List.range 24).map (fullC (fun i => V (wordAt a i)) (V (wordAt a 3))))).1 ∧
      (V (wordAt a 2) ≠ 0 → S'.lo = V (wordAt (V (wordAt a 2)).toNat 1)) ∧ K (wordAt a 3) = 0)) := by
  have hg0 : SS.go V K (SS.new a) = ⟨.rd, K (wordAt a 3) != 0, K (wordAt a 3), a, rBeg (V (wordAt a 3)), 0, 0, 0, zeroNd⟩ := rfl
  rcases hK (wordAt a 3) with h0 | h3
  · obtain ⟨c, hc⟩ : ∃ c, c = V (wordAt a 3) := ⟨_, rfl⟩
    rw [h0, ← hc, show ((0 : Int) != 0) = false from rfl] at hg0
    rw [← hc]
    obtain ⟨n1, S1, hn1, hm1, G1, h1⟩ := rd_goes (V := V) (K := K) hK (a := a) (wh := 0) (.inl rfl) (c := c) (lo := 0) 24 0 (by omega) (.inl rfl) (rBeg c) 0 (fun j hj => by
      unfold rBeg prt
      rw [Nat.mul_zero, Nat.zero_add]
      split
      · rfl
      · rw [if_neg (by omega)]) (fun i hi => by omega)
    have G01 := (Goes.one (V := V) (K := K) (S := SS.new a) rfl).add (by rw [hg0]; exact G1)
    rcases h1 with ⟨⟨e1, e2, e3⟩, i, hi, hbad⟩ | ⟨r1, rfl, hr1, hr1'⟩
    · exact ⟨1 + n1, S1, by omega, by omega, G01, e1, .inl ⟨e2, e3, .inl ⟨i, hi, hbad⟩⟩⟩
    · rw [if_pos rfl] at G01
      simp only [Nat.mul_zero, Nat.zero_add] at hr1
      obtain ⟨n2, S2, hn2, hm2, G2, h2⟩ := rd_goes (V := V) (K := K) hK (a := a) (wh := 1) (.inr rfl) (c := 0) (lo := 0) 24 0 (by omega) (.inl rfl) r1 0 (fun j hj => by
        rw [hr1' _ (by omega)]
        unfold rBeg prt
        rw [if_neg (by omega)]
        split
        · rfl
        · rw [if_neg (by omega)]) (fun i hi => by omega)
      have G02 := G01.add G2
      rcases h2 with ⟨⟨e1, e2, e3⟩, i, hi, hbad⟩ | ⟨r2, rfl, hr2, hr2'⟩
      · exact ⟨1 + n1 + n2, S2, by omega, by omega, G02, e1, .inl ⟨e2, e3, .inl ⟨i, hi, hbad⟩⟩⟩
      · rw [if_neg (by omega)] at G02
        simp only [Nat.mul_one] at hr2
        have h26 : r2 26 = V (wordAt a 2) := by
          have := hr2 2 (by omega)
          rw [if_neg (by omega), full2] at this
          exact this
        have EN : ∀ lo, (SS.go V K ⟨.en, false, 0, a, r2, 1, 0, lo, zeroNd⟩) = ⟨.en, true, (ofR ((List.range 24).map (fullC (fun i => V (wordAt a i)) c))).2, a, rput r2 27 c, 1, 0, lo, (ofR ((List.range 24).map (fullC (fun i => V (wordAt a i)) c))).1⟩ := by
          intro lo
          have hq : ∀ j, j < 24 → rput r2 27 c (24 + j) = fullC (fun i => V (wordAt a i)) c j := by
            intro j hj
            unfold rput fullC
            by_cases e : j = 3
            · subst e; rw [if_pos rfl, if_pos rfl]
            · rw [if_neg (by omega), if_neg e, hr2 j hj, if_neg e]
          have hp : ∀ j, j < 24 → rput r2 27 c j = fullC (fun i => V (wordAt a i)) c j := by
            intro j hj
            unfold rput
            rw [if_neg (by omega), hr2' j (by omega), hr1 j hj]
            rfl
          have hsm : sameR (rput r2 27 c) = true := by
            unfold sameR
            rw [List.all_eq_true]
            intro j hj
            have hj := List.mem_range.1 hj
            rw [hp j hj, hq j hj]
            exact beq_self_eq_true _
          have hl : rdL (rput r2 27 c) 24 = (List.range 24).map (fullC (fun i => V (wordAt a i)) c) := by
            unfold rdL
            exact List.map_congr_left fun j hj => hq j (List.mem_range.1 hj)
          have hgo : (SS.go V K ⟨.en, false, 0, a, r2, 1, 0, lo, zeroNd⟩) = ⟨if K (wordAt a 3) = 0 ∧ sameR (rput r2 27 (V (wordAt a 3))) = true then .en else .bg, enD false (rput r2 27 (V (wordAt a 3))) (K (wordAt a 3)) || enK (rput r2 27 (V (wordAt a 3))) (K (wordAt a 3)) != 0, enK (rput r2 27 (V (wordAt a 3))) (K (wordAt a 3)), a, rput r2 27 (V (wordAt a 3)), 1, 0, lo, enN zeroNd (rput r2 27 (V (wordAt a 3))) (K (wordAt a 3))⟩ := rfl
          rw [hgo, h0, ← hc]
          unfold enD enK enN
          simp only [hsm, hl, and_self, if_true, Bool.true_or]
        by_cases hz : r2 26 = 0
        · rw [if_pos hz] at G02
          have G03 := G02.add (Goes.one rfl)
          rw [EN 0] at G03
          exact ⟨_, _, by omega, by omega, G03, rfl, .inr ⟨rfl, rfl, fun h => absurd (h26.symm.trans hz) h, h0⟩⟩
        · rw [if_neg hz] at G02
          have hlw : SS.go V K ⟨.lw, false, 0, a, r2, 1, 0, 0, zeroNd⟩ = ⟨.en, K (wordAt (r2 26).toNat 1) != 0, K (wordAt (r2 26).toNat 1), a, r2, 1, 0, V (wordAt (r2 26).toNat 1), zeroNd⟩ := rfl
          have G03 := G02.add (Goes.one rfl)
          rw [hlw] at G03
          rcases hK (wordAt (r2 26).toNat 1) with hk0 | hk3
          · rw [hk0, show ((0 : Int) != 0) = false from rfl] at G03
            have G04 := G03.add (Goes.one rfl)
            rw [EN _] at G04
            exact ⟨_, _, by omega, by omega, G04, rfl, .inr ⟨rfl, rfl, fun _ => by rw [h26], h0⟩⟩
          · exact ⟨_, _, by omega, by omega, G03, ne_zero_true hk3, .inl ⟨hk3, rfl, .inr ⟨by rw [← h26]; exact hz, by rw [← h26]; exact hk3⟩⟩⟩
  · exact ⟨1, _, by omega, by omega, Goes.one rfl, by rw [hg0]; exact ne_zero_true h3, .inl ⟨by rw [hg0]; exact h3, rfl, .inl ⟨3, by omega, h3⟩⟩⟩
end Go.Proofs.Ytaabdmlmemmnaaa
