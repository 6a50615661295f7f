/- Texts of this claim, packed: SnT, SnN, SnO, SnH, RnF, RnG. -/
import Derived.Test.YteojhhfcfdkmdaaPm28
import Derived.Test.YteojhhfcfdkmdaaPm24
set_option linter.unusedSimpArgs false
set_option linter.unusedVariables false
/- A snapshot's Step, of whatever its function leaves; of none, a zero one, one that is done; its refusal; without conditions. -/
namespace Go.Proofs.Yteojhhfcfdkmdaa
open Go.RowKit
set_option linter.unusedVariables false
attribute [local go_sem] Oper.semAt_some
/-- What a step leaves. -/
def SnSPost (g : Nat) (P : World → Prop) (D : Bool) (k : Int) (R : Array Value → Prop) (e : Ending) (w' : World) : Prop := e = .returned (.tuple #[.bool D, .int .i64 k]) ∧ ∃ w1 cs', P w1 ∧ R cs' ∧ SnSw w1 w' g cs'
theorem mstep_nil {w : World} {g : Nat} {t : TypeId} {cs : Array Value} (hr : Row w g t cs) (h1 : cs[1]? = some .nilFunc) : Calls Try.prog 32 #[.pointer (some ⟨g, 0, none⟩)] w fun e w' => e = .returned (.tuple #[.bool true, .int .i64 1]) ∧ w = w' := by
  have c1 := hr.cell 1
  rw [h1] at c1
  have q1 := fun w => eqNilR w
  have q2 := fun w => guardNilR w (.tmp 8)
  clear hr h1
  go_enter Try.func32, Try.ntmps32
  go_wp2
  go_ret2
  exact ⟨rfl, rfl⟩
set_option maxRecDepth 100000 in
set_option maxHeartbeats 1600000 in
theorem mstep_done {w : World} {g f : Nat} {t : TypeId} {cs : Array Value} {k : Int} (hr : Row w g t cs) (h1 : cs[1]? = some (nextV f g)) (h2 : cs[2]? = some (.bool true)) (h3 : cs[3]? = some (.int .i64 k)) :
    Calls Try.prog 32 #[.pointer (some ⟨g, 0, none⟩)] w fun e w' => e = .returned (.tuple #[.bool true, .int .i64 k]) ∧ Below w.heap.size w w' := by
  have mixed : Try.prog.follows .mixedOrders = true := by kernel_rfl
  have c1 := hr.cell 1
  have c2 := hr.cell 2
  have c3 := hr.cell 3
  rw [h1] at c1
  rw [h2] at c2
  rw [h3] at c3
  unfold nextV at c1
  have q1 := fun w => eqFnR w f #[.pointer (some ⟨g, 0, none⟩)] #[]
  have q2 := fun w => guardFnR w f #[.pointer (some ⟨g, 0, none⟩)] #[] (.tmp 8)
  have ca := fun p : LowBy w => p.cell c3
  clear hr h1 h2 h3
  go_enter Try.func32, Try.ntmps32
  go_wp2_with fail
  refine wp_region_quiet_low (by assumption) (by kernel_rfl) ?_
  repeat (go_big_quiet_step (fail))
  refine wpQuiet_nil ?_
  intro _ hw'
  obtain ⟨p, hw''⟩ := hw'
  subst hw''
  have hp := Lib.hid p.low
  clear ca
  go_wp2
  go_ret2
  exact ⟨rfl, hp.out⟩
set_option maxRecDepth 100000 in
set_option maxHeartbeats 3200000 in
theorem mstep_of {w : World} {g f : Nat} {cs : Array Value} {p : Option Addr} {F' : Value} {d' D : Bool} {k kk a wh wd lo : Int} {r : Nat → Int} {n : Nd} {P : World → Prop}
    (hcall : ∀ (w : World) (v : Value), (callFunc f #[v]).run Try.prog w = .ok (.enter f #[v]) w)
    (hr : Row w g 80 cs) (h1 : cs[1]? = some (nextV f g)) (h2 : cs[2]? = some (.bool false)) (hD : (d' || kk != 0) = D)
    (H : Calls Try.prog f #[.pointer (some ⟨g, 0, none⟩)] w (FPost g P kk (fun cs' => IsS cs' p F' d' k a r wh wd lo n))) :
    Calls Try.prog 32 #[.pointer (some ⟨g, 0, none⟩)] w (SnSPost g P D kk (fun cs' => IsS cs' p F' D kk a r wh wd lo n)) := by
  have mixed : Try.prog.follows .mixedOrders = true := by kernel_rfl
  have c1 := hr.cell 1
  have c2 := hr.cell 2
  rw [h1] at c1
  rw [h2] at c2
  unfold nextV at c1
  have q1 := fun w => eqFnR w f #[.pointer (some ⟨g, 0, none⟩)] #[]
  have q2 := fun w => guardFnR w f #[.pointer (some ⟨g, 0, none⟩)] #[] (.tmp 8)
  have H := Lib.hid H
  clear hr h1 h2
  go_enter Try.func32, Try.ntmps32
  go_wp2_with fail
  refine H.out.mono ?_
  rintro e w1 ⟨rfl, w0, cs1, hp, hi, hsw⟩
  have e2 := (hsw.row.cell 2).trans hi.c2
  have e3 := (hsw.row.cell 3).trans hi.c3
  have g2 := hsw.row.free 2
  have g3 := hsw.row.free 3
  have HP := Lib.hid hp
  have HI := Lib.hid hi
  have HSW := Lib.hid hsw
  clear hp hi hsw c1 c2 q1 q2 H hcall
  have HFIN := Lib.hid (show ∀ W, Below (((w1.setCell ⟨g, 3, none⟩ (.int .i64 kk)).setCell ⟨g, 2, none⟩ (.bool D))).heap.size ((w1.setCell ⟨g, 3, none⟩ (.int .i64 kk)).setCell ⟨g, 2, none⟩ (.bool D)) W → ∃ w1 cs', P w1 ∧ IsS cs' p F' D kk a r wh wd lo n ∧ SnSw w1 W g cs' from
    fun W hb => ⟨w0, _, HP.out, (HI.out.code kk).done D, ((HSW.out.set 3 _).set 2 _).below hb⟩)
  have HC := Lib.hid (show ∀ q : LowBy ((w1.setCell ⟨g, 3, none⟩ (.int .i64 kk)).setCell ⟨g, 2, none⟩ (.bool D)), q.W.cell? ⟨g, 2, none⟩ = some (.bool D) ∧ q.W.cell? ⟨g, 3, none⟩ = some (.int .i64 kk) from fun q => by
    have hs := (HSW.out.set 3 (.int .i64 kk)).set 2 (.bool D)
    have hrw := hs.row.below q.low hs.row.lt
    have hi := (HI.out.code kk).done D
    exact ⟨(hrw.cell 2).trans hi.c2, (hrw.cell 3).trans hi.c3⟩)
  obtain ⟨W2, hW2⟩ : ∃ W2, W2 = (w1.setCell ⟨g, 3, none⟩ (.int .i64 kk)).setCell ⟨g, 2, none⟩ (.bool D) := ⟨_, rfl⟩
  rw [← hW2] at HFIN HC
  cases d' with
  | true =>
    obtain rfl : true = D := by simpa using hD
    clear hD HI HSW HP
    go_wp2_with fail
    rw [← hW2]
    clear hW2 e2 e3 g2 g3
    have ca := fun q : LowBy W2 => (HC.out q).1
    have cb := fun q : LowBy W2 => (HC.out q).2
    refine wp_region_quiet_low (by assumption) (by kernel_rfl) ?_
    repeat (go_big_quiet_step (fail))
    refine wpQuiet_nil ?_
    intro _ hw'
    obtain ⟨q, hw''⟩ := hw'
    subst hw''
    have HE := Lib.hid (HFIN.out q.W q.low)
    clear ca cb HC HFIN
    go_wp2
    go_ret2
    exact ⟨rfl, HE.out⟩
  | false =>
    by_cases hk : kk = 0
    · subst hk
      obtain rfl : false = D := by simpa using hD
      clear hD HI HSW HP
      go_wp2_with fail
      rw [← hW2]
      clear hW2 e2 e3 g2 g3
      have ca := fun q : LowBy W2 => (HC.out q).1
      have cb := fun q : LowBy W2 => (HC.out q).2
      refine wp_region_quiet_low (by assumption) (by kernel_rfl) ?_
      repeat (go_big_quiet_step (fail))
      refine wpQuiet_nil ?_
      intro _ hw'
      obtain ⟨q, hw''⟩ := hw'
      subst hw''
      have HE := Lib.hid (HFIN.out q.W q.low)
      clear ca cb HC HFIN
      go_wp2
      go_ret2
      exact ⟨rfl, HE.out⟩
    · have hk1 : (kk != 0) = true := by simpa using hk
      obtain rfl : true = D := by rw [← hD, hk1]; rfl
      have hk2 : (kk == 0) = false := by simpa using hk
      clear hD HI HSW HP hk
      go_wp2_with fail
      rw [← hW2]
      clear hW2 e2 e3 g2 g3
      have ca := fun q : LowBy W2 => (HC.out q).1
      have cb := fun q : LowBy W2 => (HC.out q).2
      refine wp_region_quiet_low (by assumption) (by kernel_rfl) ?_
      repeat (go_big_quiet_step (fail))
      refine wpQuiet_nil ?_
      intro _ hw'
      obtain ⟨q, hw''⟩ := hw'
      subst hw''
      have HE := Lib.hid (HFIN.out q.W q.low)
      clear ca cb HC HFIN
      go_wp2
      go_ret2
      exact ⟨rfl, HE.out⟩
theorem snStep_nil (w : World) : Calls Try.prog 12 #[.pointer none] w fun e w' => e = .returned (.tuple #[.bool true, .int .i64 1]) ∧ w = w' := by
  go_enter Try.func12, Try.ntmps12
  go_wp2
  go_ret2
  exact ⟨rfl, rfl⟩
theorem snStep_of {w : World} {g : Nat} {D : Bool} {k : Int} {Q : World → Prop} (H : Calls Try.prog 32 #[.pointer (some ⟨g, 0, none⟩)] w fun e w' => e = .returned (.tuple #[.bool D, .int .i64 k]) ∧ Q w') :
    Calls Try.prog 12 #[.pointer (some ⟨g, 0, none⟩)] w fun e w' => e = .returned (.tuple #[.bool D, .int .i64 k]) ∧ Q w' := by
  have H := Lib.hid H
  go_enter Try.func12, Try.ntmps12
  go_wp2_with fail
  refine H.out.mono ?_
  rintro e w1 ⟨rfl, hq⟩
  have HQ := Lib.hid hq
  clear hq
  go_wp2
  go_ret2
  exact ⟨rfl, HQ.out⟩
/-- Why nothing is told. -/
def refK (F : Bool) (d : Bool) (k z : Int) : Int := if F = true then 1 else if d = true then k else if z = 0 then 1 else 7
theorem snRefusal_nil {w : World} {g : Nat} {t : TypeId} {cs : Array Value} (hr : Row w g t cs) (h1 : cs[1]? = some .nilFunc) : Calls Try.prog 33 #[.pointer (some ⟨g, 0, none⟩)] w fun e w' => e = .returned (.int .i64 1) ∧ w = w' := by
  have c1 := hr.cell 1
  rw [h1] at c1
  have q1 := fun w => eqNilR w
  have q2 := fun w => guardNilR w (.tmp 7)
  clear hr h1
  go_enter Try.func33, Try.ntmps33
  go_wp2
  go_ret
  exact ⟨rfl, rfl⟩
theorem snRefusal_any {w : World} {g f : Nat} {t : TypeId} {cs : Array Value} {p : Option Addr} {d : Bool} {k z : Int} (hr : Row w g t cs) (h0 : cs[0]? = some (.pointer p)) (h1 : cs[1]? = some (nextV f g)) (h2 : cs[2]? = some (.bool d)) (h3 : cs[3]? = some (.int .i64 k))
    (HS : Calls Try.prog 52 #[.pointer p] w fun e w' => e = .returned (.int .i64 z) ∧ w = w') :
    Calls Try.prog 33 #[.pointer (some ⟨g, 0, none⟩)] w fun e w' => e = .returned (.int .i64 (refK false d k z)) ∧ w = w' := by
  have c0 := hr.cell 0
  have c1 := hr.cell 1
  have c2 := hr.cell 2
  have c3 := hr.cell 3
  rw [h0] at c0
  rw [h1] at c1
  rw [h2] at c2
  rw [h3] at c3
  unfold nextV at c1
  have q1 := fun w => eqFnR w f #[.pointer (some ⟨g, 0, none⟩)] #[]
  have q2 := fun w => guardFnR w f #[.pointer (some ⟨g, 0, none⟩)] #[] (.tmp 7)
  have HS := Lib.hid HS
  clear hr h1 h2 h3 h0
  cases d with
  | true =>
    go_enter Try.func33, Try.ntmps33
    go_wp2
    go_ret
    exact ⟨rfl, rfl⟩
  | false =>
    by_cases hz : z = 0
    · subst hz
      go_enter Try.func33, Try.ntmps33
      go_wp2_with (refine HS.out.mono ?_; rintro e w1 ⟨rfl, rfl⟩)
      go_ret
      exact ⟨rfl, rfl⟩
    · have HZ := Lib.hid (show refK false false k z = 7 by unfold refK; simp [hz])
      have hz1 : (z == 0) = false := by simpa using hz
      rw [HZ.out]
      clear hz HZ
      go_enter Try.func33, Try.ntmps33
      go_wp2_with (refine HS.out.mono ?_; rintro e w1 ⟨rfl, rfl⟩)
      go_ret
      exact ⟨rfl, rfl⟩
end Go.Proofs.Yteojhhfcfdkmdaa
/- A snapshot anew. -/
namespace Go.Proofs.Yteojhhfcfdkmdaa
open Go.RowKit
set_option linter.unusedVariables false
attribute [local go_sem] Oper.semAt_some
/-- The cells of a snapshot of which nothing is done. -/
def zeroS (p : Option Addr) (F : Value) (a : Int) : List Value := .pointer p :: F :: .bool false :: .int .i64 0 :: .int .u64 a :: (List.replicate 48 (.int .u64 0) ++ (.int .i64 0 :: .int .i64 0 :: .int .u64 0 :: zeroNd.cl))
theorem zeroS_is (p : Option Addr) (F : Value) (a : Int) : IsS (zeroS p F a).toArray p F false 0 a (fun _ => 0) 0 0 0 zeroNd := by
  refine ⟨by rw [List.size_toArray]; rfl, rfl, rfl, rfl, rfl, rfl, fun j hj => ?_, rfl, rfl, rfl, fun j u hu => ?_⟩
  · rw [List.getElem?_toArray, show 5 + j = j + 1 + 1 + 1 + 1 + 1 by omega]
    simp only [zeroS, List.getElem?_cons_succ]
    rw [List.getElem?_append_left (by simpa using hj), List.getElem?_replicate, if_pos hj]
  · rw [List.getElem?_toArray, show 56 + j = j + 51 + 1 + 1 + 1 + 1 + 1 by omega]
    simp only [zeroS, List.getElem?_cons_succ]
    rw [List.getElem?_append_right (by simp only [List.length_replicate]; omega), List.length_replicate, show j + 51 - 48 = j + 1 + 1 + 1 by omega]
    simp only [List.getElem?_cons_succ]
    exact hu
set_option maxRecDepth 100000 in
set_option maxHeartbeats 3200000 in
theorem snNew_any (p : Option Addr) (a : Int) (w : World) : Calls Try.prog 9 #[.pointer p, .int .u64 a] w fun e w' => e = .returned (.pointer (some ⟨w.heap.size, 0, none⟩)) ∧ w.alloc (.cells (zeroS p (nextV 28 w.heap.size) a).toArray 80) = w' := by
  go_enter Try.func9, Try.ntmps9
  go_wp2
  go_ret
  exact ⟨rfl, rfl⟩
end Go.Proofs.Yteojhhfcfdkmdaa
/- What a snapshot tells: its node, its high bound; without conditions. -/
namespace Go.Proofs.Yteojhhfcfdkmdaa
open Go.RowKit
set_option linter.unusedVariables false
attribute [local go_sem] Oper.semAt_some
set_option maxRecDepth 100000 in
set_option maxHeartbeats 3200000 in
theorem snNode_nil (w : World) : Calls Try.prog 13 #[.pointer none] w fun e w' => e = .returned (.tuple #[zeroNd.V, .int .i64 1]) ∧ Below w.heap.size w w' := by
  have R0 := Lib.hid (show NdAt (w.alloc (.cells zeroNd.cl.toArray 27)) w.heap.size zeroNd from Row.new w 27 zeroNd.cl.toArray)
  go_enter Try.func13, Try.ntmps13
  go_wp2_with (refine wpList_store_row rfl _ _ _ rfl w.heap.size zeroNd.cl rfl rfl R0.out rfl ndI (cl_one zeroNd) ?_)
  refine bodyPost_ret (results_node_tmp rfl _ _ w.heap.size zeroNd rfl (row_setCells R0.out rfl)) rfl ⟨rfl, setCells_low _ (Nat.le_refl _) (alloc_below _ _)⟩
set_option maxRecDepth 100000 in
set_option maxHeartbeats 3200000 in
theorem snNode_any {w : World} {g : Nat} {cs : Array Value} {p : Option Addr} {F : Value} {d : Bool} {k a wh wd lo kk : Int} {r : Nat → Int} {n : Nd} (hr : Row w g 80 cs) (hs : IsS cs p F d k a r wh wd lo n)
    (HR : ∀ W, Below w.heap.size w W → Calls Try.prog 33 #[.pointer (some ⟨g, 0, none⟩)] W fun e w' => e = .returned (.int .i64 kk) ∧ W = w') :
    Calls Try.prog 13 #[.pointer (some ⟨g, 0, none⟩)] w fun e w' => e = .returned (.tuple #[n.V, .int .i64 kk]) ∧ Below w.heap.size w w' := by
  have mixed : Try.prog.follows .mixedOrders = true := by kernel_rfl
  obtain ⟨W1, hW1⟩ : ∃ W1, W1 = w.alloc (.cells #[.int .i64 0, .int .u64 0, .int .u64 0, .int .u64 0, .int .u64 0, .int .u64 0, .int .u64 0, .int .u64 0, .int .u64 0, .int .u64 0, .int .u64 0, .int .u64 0, .int .u64 0, .int .u64 0, .int .u64 0, .int .u64 0, .int .u64 0, .int .u64 0, .int .u64 0, .int .u64 0, .int .u64 0] 27) := ⟨_, rfl⟩
  have hb1 : Below w.heap.size w W1 := by rw [hW1]; exact alloc_below _ _
  have r1 : NdAt W1 w.heap.size zeroNd := by rw [hW1]; exact Row.new w 27 zeroNd.cl.toArray
  have HRn := Lib.hid (fun (w' : World) (h : ∃ q : LowBy W1, w' = q.W) => (show w'.rangeAt g 56 n.cl by
    obtain ⟨q, rfl⟩ := h
    intro j v hv
    rw [((hr.below hb1 hr.lt).below q.low (hr.below hb1 hr.lt).lt).cell]
    exact hs.cn j v hv))
  have HC := Lib.hid (fun (q : LowBy W1) => Calls.low_of_same (HR q.W (Below.and hb1 q.low)))
  have HR1 := Lib.hid (fun q : LowBy W1 => (show NdAt q.W w.heap.size zeroNd from r1.below q.low r1.lt))
  have HB := Lib.hid (fun q : LowBy W1 => Below.and hb1 q.low)
  have HW1 := Lib.hid hW1
  clear hr hs HR hb1 r1 hW1
  go_enter Try.func13, Try.ntmps13
  go_wp2_with (rw [← HW1.out])
  refine wp_region_low_tail 8 (by assumption) (by kernel_rfl) ?_
  simp only [List.take_succ_cons, List.take_zero, List.drop_succ_cons, List.drop_zero]
  repeat (first | go_big_quiet_skip | (go_big_quiet_want; first | (refine quiet_load_mid 27 _ rfl g 56 rfl n.cl _ HRn.out Try.underlying27 rfl ndI ?_; simp only [Act.put, List.setIfInBounds_toArray, List.set_cons_succ, List.set_cons_zero]; go_big_quiet_on) | (go_big_quiet_op; first | go_big_quiet_on | go_big_quiet_call ((go_at_call 33; with_reducible exact HC.out _)))))
  refine wpQuiet_nil ?_
  intro _ hw'
  obtain ⟨q, hw''⟩ := hw'
  subst hw''
  have H1 := Lib.hid (HR1.out q)
  have HBq := Lib.hid (HB.out q)
  clear HR1 HB HC HRn
  go_wp2_with (refine wpList_store_row rfl _ _ _ rfl w.heap.size n.cl rfl rfl H1.out rfl ndI (cl_one n) ?_)
  refine bodyPost_ret (results_node_tmp rfl _ _ w.heap.size n rfl (row_setCells H1.out rfl)) rfl ⟨rfl, setCells_low _ (Nat.le_refl _) HBq.out⟩
end Go.Proofs.Yteojhhfcfdkmdaa
/- What a snapshot tells: its high bound; without conditions. -/
namespace Go.Proofs.Yteojhhfcfdkmdaa
open Go.RowKit
set_option linter.unusedVariables false
attribute [local go_sem] Oper.semAt_some
theorem store_gen11 (w1 : World) (n : Nd) : ∃ W2, W2 = (w1.alloc (.cells #[.int .i64 0, .int .u64 0, .int .u64 0, .int .u64 0, .int .u64 0, .int .u64 0, .int .u64 0, .int .u64 0, .int .u64 0, .int .u64 0, .int .u64 0, .int .u64 0, .int .u64 0, .int .u64 0, .int .u64 0, .int .u64 0, .int .u64 0, .int .u64 0, .int .u64 0, .int .u64 0, .int .u64 0] 27)).setCells w1.heap.size 0 n.cl ∧ NdAt W2 w1.heap.size n ∧ Below w1.heap.size w1 W2 :=
  ⟨_, rfl, row_setCells (Row.new w1 27 zeroNd.cl.toArray) rfl, setCells_low _ (Nat.le_refl _) (alloc_below _ _)⟩
def hiV (kk lo : Int) (n : Nd) : Int := if kk = 0 ∧ n.nx ≠ 0 then lo else 0
def hiB (kk : Int) (n : Nd) : Bool := if kk = 0 ∧ n.nx ≠ 0 then true else false
set_option maxRecDepth 100000 in
set_option maxHeartbeats 3200000 in
theorem snHigh_of {w : World} {p : Option Addr} {n : Nd} {kk lo : Int} (HN : Calls Try.prog 13 #[.pointer p] w fun e w' => e = .returned (.tuple #[n.V, .int .i64 kk]) ∧ Below w.heap.size w w')
    (hlo : kk = 0 → ∃ g, p = some ⟨g, 0, none⟩ ∧ w.cell? ⟨g, 55, none⟩ = some (.int .u64 lo)) :
    Calls Try.prog 14 #[.pointer p] w fun e w' => e = .returned (.tuple #[.int .u64 (hiV kk lo n), .bool (hiB kk n)]) ∧ Below w.heap.size w w' := by
  have HN := Lib.hid HN
  have HLo := Lib.hid hlo
  clear hlo
  by_cases hk : kk = 0
  · by_cases hx : n.nx = 0
    · have HR := Lib.hid (show hiV kk lo n = 0 ∧ hiB kk n = false by unfold hiV hiB; simp [hx])
      rw [HR.out.1, HR.out.2]
      subst hk
      have hx1 : (n.nx == 0) = true := by simpa using hx
      clear HR HLo
      have HX := Lib.hid hx
      clear hx
      go_enter Try.func14, Try.ntmps14
      go_wp2_with (first
        | ((with_reducible refine HN.out.mono ?_); rintro e w1 ⟨rfl, h1⟩)
        | (refine wpList_store_row rfl _ _ _ rfl w1.heap.size n.cl rfl rfl (Row.new w1 27 zeroNd.cl.toArray) rfl ndI (cl_one n) ?_; obtain ⟨W2, hW2, hn2, hb2⟩ := store_gen11 w1 n; rw [← hW2]; have c2 : W2.cell? ⟨w1.heap.size, 2, none⟩ = some (.int .u64 n.nx) := ndAt_at hn2 2; have H1 := Lib.hid h1; have HB2 := Lib.hid hb2; clear hW2 hn2 h1 hb2))
      go_ret2
      exact ⟨rfl, Below.and H1.out HB2.out⟩
    · have HR := Lib.hid (show hiV kk lo n = lo ∧ hiB kk n = true by unfold hiV hiB; simp [hx, hk])
      rw [HR.out.1, HR.out.2]
      obtain ⟨g, rfl, hg⟩ := HLo.out hk
      subst hk
      have hx1 : (n.nx == 0) = false := by simpa using hx
      clear HR HLo
      have HX := Lib.hid hx
      have HG := Lib.hid fun W (hb : Below w.heap.size w W) => (hb.cell (p := ⟨g, 55, none⟩) (block_lt_of_cell hg)).trans hg
      clear hx hg
      go_enter Try.func14, Try.ntmps14
      go_wp2_with (first
        | ((with_reducible refine HN.out.mono ?_); rintro e w1 ⟨rfl, h1⟩)
        | (refine wpList_store_row rfl _ _ _ rfl w1.heap.size n.cl rfl rfl (Row.new w1 27 zeroNd.cl.toArray) rfl ndI (cl_one n) ?_; obtain ⟨W2, hW2, hn2, hb2⟩ := store_gen11 w1 n; rw [← hW2]; have c2 : W2.cell? ⟨w1.heap.size, 2, none⟩ = some (.int .u64 n.nx) := ndAt_at hn2 2; have c55 := HG.out W2 (Below.and h1 hb2); have H1 := Lib.hid h1; have HB2 := Lib.hid hb2; clear hW2 hn2 h1 hb2))
      go_ret2
      exact ⟨rfl, Below.and H1.out HB2.out⟩
  · have HR := Lib.hid (show hiV kk lo n = 0 ∧ hiB kk n = false by unfold hiV hiB; simp [hk])
    rw [HR.out.1, HR.out.2]
    have hk1 : (kk != 0) = true := by simpa using hk
    clear HR HLo hk
    go_enter Try.func14, Try.ntmps14
    go_wp2_with (first
      | ((with_reducible refine HN.out.mono ?_); rintro e w1 ⟨rfl, h1⟩)
      | (refine wpList_store_row rfl _ _ _ rfl w1.heap.size n.cl rfl rfl (Row.new w1 27 zeroNd.cl.toArray) rfl ndI (cl_one n) ?_; obtain ⟨W2, hW2, hn2, hb2⟩ := store_gen11 w1 n; rw [← hW2]; have H1 := Lib.hid h1; have HB2 := Lib.hid hb2; clear hW2 hn2 h1 hb2))
    go_ret2
    exact ⟨rfl, Below.and H1.out HB2.out⟩
end Go.Proofs.Yteojhhfcfdkmdaa
/- A run's flush, its fence, its end, and its store where that may not be. -/
namespace Go.Proofs.Yteojhhfcfdkmdaa
open Go.RowKit Go.Shelf
set_option linter.unusedVariables false
attribute [local go_sem] Oper.semAt_some

/-- What a step leaves that turns no stores. -/
def RflPost (w : World) (y : Lay) (s' : St) (rg : Nat) (cs : Array Value) (w' : World) : Prop := ∃ y', MemAt w' y' s' ∧ Row w' rg 113 cs ∧ RT w w' y y' rg
set_option maxRecDepth 100000 in
set_option maxHeartbeats 1600000 in
theorem rflush_any {w : World} {y : Lay} {s : St} (h : MemAt w y s) (ok : s.Ok) {rg c line : Nat} {V : Value} {d : Bool} {k : Int}
    (hr : Row w rg 113 (rcells (some ⟨y.g, 0, none⟩) c V line (nextV 72 rg) d k)) (sep : ¬ y.fp rg) (hc : c ≤ 64) (h8 : line % 8 = 0) (h64 : line < 64 * s.nl) :
    Calls Try.prog 72 #[.pointer (some ⟨rg, 0, none⟩)] w fun e w' => e = .returned (.int .i64 0) ∧ RflPost w y (s.flush c line) rg (rcells (some ⟨y.g, 0, none⟩) c V line (nextV 84 rg) d k) w' := by
  have mixed : Try.prog.follows .mixedOrders = true := by kernel_rfl
  have c4 := hr.cell 4
  have f4 := hr.free 4
  simp only [rcells, List.getElem?_toArray, List.getElem?_cons_succ, List.getElem?_cons_zero] at c4
  unfold nextV at c4
  obtain ⟨W1, hW1⟩ : ∃ W1, W1 = w.setCell ⟨rg, 4, none⟩ (.func (.func 84) #[.pointer (some ⟨rg, 0, none⟩)] #[]) := ⟨_, rfl⟩
  have hm1 : MemAt W1 y s := by rw [hW1]; exact h.rset sep 4 _
  have hr1 : Row W1 rg 113 (rcells (some ⟨y.g, 0, none⟩) c V line (nextV 84 rg) d k) := by rw [hW1]; exact hr.set 4 _
  have T1 : RT w W1 y y rg := by rw [hW1]; exact RT.set y rg 4 _
  have k0 := hr1.cell 0
  have k1 := hr1.cell 1
  have k3 := hr1.cell 3
  simp only [rcells, List.getElem?_toArray, List.getElem?_cons_succ, List.getElem?_cons_zero] at k0 k1 k3
  have ca := fun p : LowBy W1 => p.cell k0
  have cb := fun p : LowBy W1 => p.cell k1
  have cc := fun p : LowBy W1 => p.cell k3
  have HS := Lib.hid fun (p : LowBy W1) => flush_ok (hm1.below p.low) ok c line hc h8 h64
  have HE := Lib.hid (show ∀ (p : LowBy W1) (w' : World), (∃ y', MemAt w' y' (s.flush c line) ∧ Turn p.W w' y y') → RflPost w y (s.flush c line) rg (rcells (some ⟨y.g, 0, none⟩) c V line (nextV 84 rg) d k) w' from fun p w' ⟨y', hm', ht'⟩ =>
    ⟨y', hm', ht'.but.row (hr1.below p.low hr1.lt) sep, (T1.trans (RT.of_below y rg p.low)).trans (RT.of_turn rg ht')⟩)
  clear h hr hm1 hr1 T1 k0 k1 k3 ok hc h8 h64
  go_enter Try.func72, Try.ntmps72
  go_wp2_with fail
  rw [← hW1]
  refine wp_region_low_tail 12 (by assumption) (by kernel_rfl) ?_
  simp only [List.take_succ_cons, List.take_zero, List.drop_succ_cons, List.drop_zero]
  repeat (go_big_quiet_step (fail))
  refine wpQuiet_nil ?_
  intro _ hw'
  obtain ⟨p, hw''⟩ := hw'
  subst hw''
  clear ca cb cc hW1 c4 f4
  go_wp2_with fail
  refine (HS.out p).mono ?_
  rintro e w2 ⟨rfl, hpost⟩
  have HF := Lib.hid (HE.out p w2 hpost)
  clear HE HS hpost
  go_wp2
  go_ret
  exact ⟨rfl, HF.out⟩

set_option maxRecDepth 100000 in
set_option maxHeartbeats 1600000 in
theorem rfence_any {w : World} {y : Lay} {s : St} (h : MemAt w y s) (ok : s.Ok) {rg c n cap : Nat} {line : Int} {A : Option Addr} {d : Bool} {k : Int}
    (hr : Row w rg 113 (rcells (some ⟨y.g, 0, none⟩) c (.slice A n cap) line (nextV 84 rg) d k)) (sep : ¬ y.fp rg) (hc : c ≤ 64) (hfe : s.fe + 1 < 9223372036854775808) (D : Bool) (hD : D = ((n : Int) == 0)) :
    Calls Try.prog 84 #[.pointer (some ⟨rg, 0, none⟩)] w fun e w' => e = .returned (.int .i64 0) ∧ RflPost w y (s.fence c) rg (rcells (some ⟨y.g, 0, none⟩) c (.slice A n cap) line (nextV 50 rg) D k) w' := by
  have mixed : Try.prog.follows .mixedOrders = true := by kernel_rfl
  have c2 := hr.cell 2
  have c4 := hr.cell 4
  have c5 := hr.cell 5
  have f4 := hr.free 4
  have f5 := hr.free 5
  simp only [rcells, List.getElem?_toArray, List.getElem?_cons_succ, List.getElem?_cons_zero] at c2 c4 c5
  unfold nextV at c4
  obtain ⟨W1, hW1⟩ : ∃ W1, W1 = (w.setCell ⟨rg, 4, none⟩ (.func (.func 50) #[.pointer (some ⟨rg, 0, none⟩)] #[])).setCell ⟨rg, 5, none⟩ (.bool D) := ⟨_, rfl⟩
  have hm1 : MemAt W1 y s := by rw [hW1]; exact (h.rset sep 4 _).rset sep 5 _
  have hr1 : Row W1 rg 113 (rcells (some ⟨y.g, 0, none⟩) c (.slice A n cap) line (nextV 50 rg) D k) := by rw [hW1]; exact (hr.set 4 _).set 5 _
  have T1 : RT w W1 y y rg := by rw [hW1]; exact (RT.set y rg 4 _).trans (RT.set y rg 5 _)
  have k0 := hr1.cell 0
  have k1 := hr1.cell 1
  simp only [rcells, List.getElem?_toArray, List.getElem?_cons_succ, List.getElem?_cons_zero] at k0 k1
  have ca := fun p : LowBy W1 => p.cell k0
  have cb := fun p : LowBy W1 => p.cell k1
  have HS := Lib.hid fun (p : LowBy W1) => fence_ok (hm1.below p.low) ok c hc hfe
  have HE := Lib.hid (show ∀ (p : LowBy W1) (w' : World), (∃ y', MemAt w' y' (s.fence c) ∧ Turn p.W w' y y') → RflPost w y (s.fence c) rg (rcells (some ⟨y.g, 0, none⟩) c (.slice A n cap) line (nextV 50 rg) D k) w' from fun p w' ⟨y', hm', ht'⟩ =>
    ⟨y', hm', ht'.but.row (hr1.below p.low hr1.lt) sep, (T1.trans (RT.of_below y rg p.low)).trans (RT.of_turn rg ht')⟩)
  clear h hr hm1 hr1 T1 k0 k1 ok hc hfe
  have hD2 := hD.symm
  clear hD
  go_enter Try.func84, Try.ntmps84
  go_wp2_with fail
  rw [← hW1]
  refine wp_region_low_tail 8 (by assumption) (by kernel_rfl) ?_
  simp only [List.take_succ_cons, List.take_zero, List.drop_succ_cons, List.drop_zero]
  repeat (go_big_quiet_step (fail))
  refine wpQuiet_nil ?_
  intro _ hw'
  obtain ⟨p, hw''⟩ := hw'
  subst hw''
  clear ca cb hW1 c4 f4 c2 c5 f5
  go_wp2_with fail
  refine (HS.out p).mono ?_
  rintro e w2 ⟨rfl, hpost⟩
  have HF := Lib.hid (HE.out p w2 hpost)
  clear HE HS hpost
  go_wp2
  go_ret
  exact ⟨rfl, HF.out⟩

set_option maxRecDepth 100000 in
set_option maxHeartbeats 1600000 in
theorem rend_any {w : World} {rg : Nat} {c line : Int} {V : Value} {d : Bool} {k : Int} {p : Option Addr}
    (hr : Row w rg 113 (rcells p c V line (nextV 51 rg) d k)) :
    Calls Try.prog 51 #[.pointer (some ⟨rg, 0, none⟩)] w fun e w' => e = .returned (.int .i64 0) ∧ w.setCell ⟨rg, 5, none⟩ (.bool true) = w' := by
  have c5 := hr.cell 5
  have f5 := hr.free 5
  simp only [rcells, List.getElem?_toArray, List.getElem?_cons_succ, List.getElem?_cons_zero] at c5
  clear hr
  go_enter Try.func51, Try.ntmps51
  go_wp2
  go_ret
  exact ⟨rfl, rfl⟩

set_option maxRecDepth 100000 in
set_option maxHeartbeats 1600000 in
theorem rstore_bad {w : World} {y : Lay} {s : St} (h : MemAt w y s) {rg a v : Nat} {c line : Int} {t : List (Nat × Nat)} {V : Value} {d : Bool} {k : Int}
    (hr : Row w rg 113 (rcells (some ⟨y.g, 0, none⟩) c V line (nextV 50 rg) d k)) (ha : Ahead w V ((a, v) :: t))
    (hbad : a % 8 ≠ 0 ∨ 64 * s.nl ≤ a) :
    Calls Try.prog 50 #[.pointer (some ⟨rg, 0, none⟩)] w fun e w' => e = .returned (.int .i64 3) ∧ Below w.heap.size w w' := by
  rcases ha with ⟨e, _⟩ | ⟨_, g, off, cap, rfl, hlc, hcm, hcell⟩
  · cases e
  have c2 := hr.cell 2
  simp only [rcells, List.getElem?_toArray, List.getElem?_cons_succ, List.getElem?_cons_zero] at c2
  have p0 := hcell 0 (wv a) rfl
  have p1 := hcell 1 (wv v) rfl
  simp only [Nat.add_zero] at p0
  unfold wv at p0 p1
  simp only [List.length_cons] at c2 hlc
  obtain ⟨W1, hW1⟩ : ∃ W1, W1 = w.alloc (.cells #[.int .u64 (a : Int), .int .u64 (v : Int)] 64) := ⟨_, rfl⟩
  have hb1 : Below w.heap.size w W1 := by rw [hW1]; exact alloc_below _ _
  have hp1 : Row W1 w.heap.size 64 #[.int .u64 (a : Int), .int .u64 (v : Int)] := by rw [hW1]; exact Row.new _ _ _
  have hr1 := hr.below hb1 hr.lt
  have k0 := hr1.cell 0
  have k1 := hp1.cell 0
  have k2 := hp1.cell 1
  simp only [rcells, List.getElem?_toArray, List.getElem?_cons_succ, List.getElem?_cons_zero] at k0 k1 k2
  have ca := fun p : LowBy W1 => p.cell k0
  have cb := fun p : LowBy W1 => p.cell k1
  have cc := fun p : LowBy W1 => p.cell k2
  have mixed : Try.prog.follows .mixedOrders = true := by kernel_rfl
  have HST := Lib.hid fun (p : LowBy W1) => store_range (h.below (hb1.trans (p.low.mono hb1.size))) a (v : Int) hbad
  have HB1 := Lib.hid hb1
  clear h hr hr1 hp1 k0 k1 k2 hcell hb1 hbad
  go_enter Try.func50, Try.ntmps50
  go_wp2_with fail
  rw [← hW1]
  refine wp_region_low_tail 8 (by assumption) (by kernel_rfl) ?_
  simp only [List.take_succ_cons, List.take_zero, List.drop_succ_cons, List.drop_zero]
  repeat (go_big_quiet_step (fail))
  refine wpQuiet_nil ?_
  intro _ hw'
  obtain ⟨p, hw''⟩ := hw'
  subst hw''
  clear ca cb cc
  go_wp2_with fail
  refine (HST.out p).mono ?_
  rintro e w2 ⟨rfl, rfl⟩
  have HF := Lib.hid (Below.and HB1.out p.low)
  clear HST HB1 hW1 c2 p0 p1
  go_wp2
  go_ret
  exact ⟨rfl, HF.out⟩
end Go.Proofs.Yteojhhfcfdkmdaa
/- A run's step, on what it is: the run behind it, the memory behind it; for runs of stores that may be. -/
namespace Go.Proofs.Yteojhhfcfdkmdaa
open Go.RowKit Go.Shelf
set_option linter.unusedVariables false

/-- The run behind a step. -/
def RnRS.next (r : RnRS) : RnRS := match r.ph with
  | .st => match r.left with
    | [] => r
    | (a, _) :: t => { r with left := t, line := a / 64 * 64, ph := if ends a t then .fl else .st }
  | .fl => { r with ph := .fe }
  | .fe => { r with ph := .st, done := r.left.isEmpty }
  | .en => { r with done := true }
/-- The memory behind it. -/
def RnRS.mem (r : RnRS) (s : St) : St := match r.ph with
  | .st => match r.left with
    | [] => s
    | (a, v) :: _ => s.store a v
  | .fl => s.flush r.c.toNat r.line
  | .fe => s.fence r.c.toNat
  | .en => s
/-- A run that may go on in a memory of so many lines. -/
structure RnRS.Good (r : RnRS) (nl : Nat) : Prop where
  c0 : 0 ≤ r.c
  c1 : r.c ≤ 64
  dn : r.done = false
  cd : r.code = 0
  lf : r.ph = .st → r.left ≠ []
  pu : ∀ p ∈ r.left, p.1 % 8 = 0 ∧ p.1 < 64 * nl ∧ p.2 < 18446744073709551616
  l8 : r.line % 8 = 0
  l64 : r.line < 64 * nl
/-- A memory of which at most i things were done. -/
structure Small (s : St) (i : Nat) : Prop where
  st : s.st ≤ i
  fl : s.fl ≤ i
  fe : s.fe ≤ i
  pe : ∀ l ∈ s.pend, l.length ≤ i
/-- A run in a memory that lies. -/
structure RunOn (w : World) (y : Lay) (rg : Nat) (r : RnRS) (V : Value) : Prop where
  run : RunAt w rg (some ⟨y.g, 0, none⟩) r V
  sep : ¬ y.fp rg
  vsep : ∀ b, V.ownBlock = some b → r.left ≠ [] → ¬ y.fp b ∧ b ≠ rg
theorem RunOn.lt {w : World} {y : Lay} {rg : Nat} {r : RnRS} {V : Value} (h : RunOn w y rg r V) : rg < w.heap.size := h.run.row.lt
/-- What a step leaves. -/
def StepPost (w : World) (y : Lay) (rg : Nat) (r' : RnRS) (s' : St) (w' : World) : Prop := ∃ y' V', MemAt w' y' s' ∧ RunOn w' y' rg r' V' ∧ RT w w' y y' rg
theorem rcells_set (p : Option Addr) (c line : Int) (V F : Value) (d : Bool) (k : Int) (D : Bool) (K : Int) : ((rcells p c V line F d k).setIfInBounds 6 (.int .i64 K)).setIfInBounds 5 (.bool D) = rcells p c V line F D K := rfl
theorem Ahead.keep {w w' : World} {V : Value} {t : List (Nat × Nat)} {y y' : Lay} {rg : Nat} (hA : Ahead w V t) (T : RT w w' y y' rg) (hAs : ∀ b, V.ownBlock = some b → t ≠ [] → ¬ y.fp b ∧ b ≠ rg) : Ahead w' V t := by
  by_cases h0 : t = []
  · rcases hA with h1 | ⟨h1, _⟩
    · exact .inl h1
    · exact absurd h0 h1
  · exact hA.same fun b hb' => T.but.block b (hA.lt h0 hb') (by
      rintro (h1 | h1)
      · exact (hAs b hb' h0).1 h1
      · exact (hAs b hb' h0).2 h1)
theorem RT.nfp {w w' : World} {y y' : Lay} {rg k : Nat} (T : RT w w' y y' rg) (hk : k < w.heap.size) (h : ¬ y.fp k) : ¬ y'.fp k := fun hf => by
  rcases T.fp k hf with h1 | h1
  · exact h h1
  · omega
/-- Behind rstep_of: what was called, then the two cells that Step itself writes. -/
theorem step_fin {w w1 w' : World} {y y' : Lay} {s' : St} {rg : Nat} {V : Value} {r' : RnRS} {D : Bool}
    (hm : MemAt w1 y' s') (hrow : Row w1 rg 113 (rcells (some ⟨y.g, 0, none⟩) r'.c V r'.line (nextV r'.ph.no rg) D 0)) (hA : Ahead w1 V r'.left) (hAs : ∀ b, V.ownBlock = some b → r'.left ≠ [] → ¬ y'.fp b ∧ b ≠ rg) (T : RT w w1 y y' rg) (sep : ¬ y.fp rg) (hlt : rg < w.heap.size)
    (hD : r'.done = D) (hk : r'.code = 0) (hb : Below (rstepW w1 rg D 0).heap.size (rstepW w1 rg D 0) w') : StepPost w y rg r' s' w' := by
  have sep' := T.nfp hlt sep
  have hm2 : MemAt (rstepW w1 rg D 0) y' s' := (hm.rset sep' 6 _).rset sep' 5 _
  have T1 : RT w1 (rstepW w1 rg D 0) y' y' rg := (RT.set y' rg 6 _).trans (RT.set y' rg 5 _)
  have hr2 : Row (rstepW w1 rg D 0) rg 113 (rcells (some ⟨y.g, 0, none⟩) r'.c V r'.line (nextV r'.ph.no rg) D 0) := by
    have := (hrow.set 6 (.int .i64 0)).set 5 (.bool D)
    rw [rcells_set] at this
    exact this
  have hA2 := hA.keep T1 hAs
  refine ⟨y', V, hm2.below hb, ⟨⟨?_, hA2.below hb⟩, sep', hAs⟩, (T.trans T1).trans (RT.of_below y' rg hb)⟩
  have := hr2.below hb hr2.lt
  rw [Ph.fn_no, hD, hk, T.g]
  exact this

theorem rstep_any {w : World} {y : Lay} {s : St} {rg : Nat} {r : RnRS} {V : Value} {i : Nat} (h : MemAt w y s) (ok : s.Ok) (hs : Small s i) (hi : i ≤ 1000) (hr : RunOn w y rg r V) (g : r.Good s.nl) :
    Calls Try.prog 27 #[.pointer (some ⟨rg, 0, none⟩)] w fun e w' => e = .returned (.tuple #[.bool r.next.done, .int .i64 0]) ∧ StepPost w y rg r.next (r.mem s) w' := by
  have hpos := h.pos
  have hrow := hr.run.cells
  have hcn : r.c = ((r.c.toNat : Nat) : Int) := by have := g.c0; omega
  have hc64 : r.c.toNat ≤ 64 := by have := g.c1; omega
  obtain ⟨c, left, line, ph, done, code⟩ := r
  obtain ⟨gc0, gc1, gdn, gcd, glf, gpu, gl8, gl64⟩ := g
  dsimp only at *
  subst gdn gcd
  cases ph with
  | st =>
    cases left with
    | nil => exact absurd rfl (glf rfl)
    | cons av t =>
      obtain ⟨a, v⟩ := av
      obtain ⟨h8, h64, hv⟩ := gpu (a, v) List.mem_cons_self
      have H := rstore_any h hrow hr.run.ah hr.sep (fun b hb => hr.vsep b hb (by simp)) h8 h64 hv (by have := hs.st; omega) (fun l hl => by have := hs.pe l hl; omega) (fun p hp => by have := (gpu p (List.mem_cons_of_mem _ hp)).2.1; have := h.most; omega)
      refine (rstep_of (k := 0) (D := false) (P := fun w1 => RstPost w y (s.store a v) rg (some ⟨y.g, 0, none⟩) c ((a / 64 * 64 : Nat) : Int) (stNext a t) false 0 t V.ownBlock w1) (d := false) (fun w v => Try.call50 _ _) hrow gc0 gc1 (by omega) (fun h => rfl) rfl (size_yes h) (H.mono fun e w' ⟨he, hp⟩ => ⟨he, ?_, hp⟩)).mono ?_
      · obtain ⟨y', V', _, h2, _⟩ := hp
        exact ⟨_, _, _, h2⟩
      · rintro e w' ⟨he, w1, ⟨y', V', hm', hr', hA', ho', T'⟩, hb⟩
        refine ⟨he, step_fin (r' := RnRS.next ⟨c, (a, v) :: t, line, .st, false, 0⟩) (D := false) hm' ?_ hA' ?_ T' hr.sep hr.lt rfl rfl hb⟩
        · have : stNext a t = (RnRS.next ⟨c, (a, v) :: t, line, .st, false, 0⟩).ph.no := by
            unfold stNext RnRS.next
            dsimp only
            cases ends a t <;> rfl
          rw [← this]
          exact hr'
        · intro b hb' h0
          have := ho' h0
          rw [this] at hb'
          obtain ⟨v1, v2⟩ := hr.vsep b hb' (by simp)
          exact ⟨T'.nfp (hr.run.ah.lt (by simp) hb') v1, v2⟩
  | fl =>
    have H := rflush_any h ok (c := c.toNat) (by rw [← hcn]; exact hrow) hr.sep hc64 gl8 gl64
    rw [← hcn] at H
    refine (rstep_of (k := 0) (D := false) (P := fun w1 => RflPost w y (s.flush c.toNat line) rg (rcells (some ⟨y.g, 0, none⟩) c V line (nextV 84 rg) false 0) w1) (d := false) (fun w v => Try.call72 _ _) hrow gc0 gc1 (by omega) (fun h => rfl) rfl (size_yes h) (H.mono fun e w' ⟨he, hp⟩ => ⟨he, ?_, hp⟩)).mono ?_
    · obtain ⟨y', _, h2, _⟩ := hp
      exact ⟨_, _, _, h2⟩
    · rintro e w' ⟨he, w1, ⟨y', hm', hr', T'⟩, hb⟩
      exact ⟨he, step_fin (r' := RnRS.next ⟨c, left, line, .fl, false, 0⟩) (D := false) hm' hr' (hr.run.ah.keep T' hr.vsep) (fun b hb' h0 => ⟨T'.nfp (hr.run.ah.lt h0 hb') (hr.vsep b hb' h0).1, (hr.vsep b hb' h0).2⟩) T' hr.sep hr.lt rfl rfl hb⟩
  | fe =>
    obtain ⟨A, cap, rfl, _, _⟩ := hr.run.ah.len
    have hD : left.isEmpty = ((left.length : Int) == 0) := by
      cases left with
      | nil => rfl
      | cons a t =>
        have : ((((a :: t).length : Nat) : Int) == 0) = false := by simp only [List.length_cons]; rw [beq_eq_false_iff_ne]; omega
        rw [this]
        rfl
    have H := rfence_any h ok (c := c.toNat) (by rw [← hcn]; exact hrow) hr.sep hc64 (by have := hs.fe; omega) left.isEmpty hD
    rw [← hcn] at H
    refine (rstep_of (k := 0) (D := left.isEmpty) (P := fun w1 => RflPost w y (s.fence c.toNat) rg (rcells (some ⟨y.g, 0, none⟩) c (.slice A left.length cap) line (nextV 50 rg) left.isEmpty 0) w1) (d := left.isEmpty) (fun w v => Try.call84 _ _) hrow gc0 gc1 (by omega) (fun h => rfl) (by simp) (size_yes h) (H.mono fun e w' ⟨he, hp⟩ => ⟨he, ?_, hp⟩)).mono ?_
    · obtain ⟨y', _, h2, _⟩ := hp
      exact ⟨_, _, _, h2⟩
    · rintro e w' ⟨he, w1, ⟨y', hm', hr', T'⟩, hb⟩
      exact ⟨he, step_fin (r' := RnRS.next ⟨c, left, line, .fe, false, 0⟩) (D := left.isEmpty) hm' hr' (hr.run.ah.keep T' hr.vsep) (fun b hb' h0 => ⟨T'.nfp (hr.run.ah.lt h0 hb') (hr.vsep b hb' h0).1, (hr.vsep b hb' h0).2⟩) T' hr.sep hr.lt rfl rfl hb⟩
  | en =>
    have H := rend_any hrow
    refine (rstep_of (k := 0) (D := true) (P := fun w1 => w.setCell ⟨rg, 5, none⟩ (.bool true) = w1) (d := true) (fun w v => Try.call51 _ _) hrow gc0 gc1 (by omega) (fun h => rfl) rfl (size_yes h) (H.mono fun e w' ⟨he, hp⟩ => ⟨he, ?_, hp⟩)).mono ?_
    · subst hp
      exact ⟨_, _, _, hrow.set 5 _⟩
    · rintro e w' ⟨he, w1, rfl, hb⟩
      exact ⟨he, step_fin (r' := RnRS.next ⟨c, left, line, .en, false, 0⟩) (D := true) (h.rset hr.sep 5 _) (hrow.set 5 _) (hr.run.ah.keep (RT.set y rg 5 _) hr.vsep) hr.vsep (RT.set y rg 5 _) hr.sep hr.lt rfl rfl hb⟩
end Go.Proofs.Yteojhhfcfdkmdaa
