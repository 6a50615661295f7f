/- Texts of this claim, packed: SnT, SnN, SnO, SnH, SnG, SnP, SnL, SnQ, SnLd, SnU, SnX, SnK. -/
import Derived.Test.YtiefgmibgdidpaaGreatDoorPh25
import Derived.Test.YtiefgmibgdidpaaGreatDoorPh18
import Derived.Test.YtiefgmibgdidpaaGreatDoorPh23
import Derived.Test.YtiefgmibgdidpaaGreatDoorPh27
import Derived.Test.YtiefgmibgdidpaaGreatDoorPh28
/- A snapshot's Step, of whatever its function leaves; of none, a zero one, one that is done; its refusal; without conditions. -/
namespace Go.Proofs.YtiefgmibgdidpaaGreatDoor
open Go.RowKit
set_option linter.unusedVariables false
attribute [local go_sem] Oper.semAt_some
/-- What a step leaves. -/
def SnSPost (g : Nat) (P : World → Prop) (D : Bool) (k : Int) (R : Array Value → Prop) (e : Ending) (w' : World) : Prop := e = .returned (.tuple #[.bool D, .int .i64 k]) ∧ ∃ w1 cs', P w1 ∧ R cs' ∧ SnSw w1 w' g cs'
set_option maxRecDepth 100000 in
set_option maxHeartbeats 3200000 in
theorem mstep_of {w : World} {g f : Nat} {cs : Array Value} {p : Option Addr} {F' : Value} {d' D : Bool} {k kk a wh wd lo : Int} {r : Nat → Int} {n : Nd} {P : World → Prop}
    (hcall : ∀ (w : World) (v : Value), (callFunc f #[v]).run Tryz.prog w = .ok (.enter f #[v]) w)
    (hr : Row w g 123 cs) (h1 : cs[1]? = some (nextV f g)) (h2 : cs[2]? = some (.bool false)) (hD : (d' || kk != 0) = D)
    (H : Calls Tryz.prog f #[.pointer (some ⟨g, 0, none⟩)] w (FPost g P kk (fun cs' => IsS cs' p F' d' k a r wh wd lo n))) :
    Calls Tryz.prog 74 #[.pointer (some ⟨g, 0, none⟩)] w (SnSPost g P D kk (fun cs' => IsS cs' p F' D kk a r wh wd lo n)) := by
  have mixed : Tryz.prog.follows .mixedOrders = true := by kernel_rfl
  have c1 := hr.cell 1
  have c2 := hr.cell 2
  rw [h1] at c1
  rw [h2] at c2
  unfold nextV at c1
  have q1 := fun w => eqFnR w f #[.pointer (some ⟨g, 0, none⟩)] #[]
  have q2 := fun w => guardFnR w f #[.pointer (some ⟨g, 0, none⟩)] #[] (.tmp 8)
  have H := Lib.hid H
  clear hr h1 h2
  go_enter Tryz.func74, Tryz.ntmps74
  go_wp2_with fail
  refine H.out.mono ?_
  rintro e w1 ⟨rfl, w0, cs1, hp, hi, hsw⟩
  have e2 := (hsw.row.cell 2).trans hi.c2
  have e3 := (hsw.row.cell 3).trans hi.c3
  have g2 := hsw.row.free 2
  have g3 := hsw.row.free 3
  have HP := Lib.hid hp
  have HI := Lib.hid hi
  have HSW := Lib.hid hsw
  clear hp hi hsw c1 c2 q1 q2 H hcall
  have HFIN := Lib.hid (show ∀ W, Below (((w1.setCell ⟨g, 3, none⟩ (.int .i64 kk)).setCell ⟨g, 2, none⟩ (.bool D))).heap.size ((w1.setCell ⟨g, 3, none⟩ (.int .i64 kk)).setCell ⟨g, 2, none⟩ (.bool D)) W → ∃ w1 cs', P w1 ∧ IsS cs' p F' D kk a r wh wd lo n ∧ SnSw w1 W g cs' from
    fun W hb => ⟨w0, _, HP.out, (HI.out.code kk).done D, ((HSW.out.set 3 _).set 2 _).below hb⟩)
  have HC := Lib.hid (show ∀ q : LowBy ((w1.setCell ⟨g, 3, none⟩ (.int .i64 kk)).setCell ⟨g, 2, none⟩ (.bool D)), q.W.cell? ⟨g, 2, none⟩ = some (.bool D) ∧ q.W.cell? ⟨g, 3, none⟩ = some (.int .i64 kk) from fun q => by
    have hs := (HSW.out.set 3 (.int .i64 kk)).set 2 (.bool D)
    have hrw := hs.row.below q.low hs.row.lt
    have hi := (HI.out.code kk).done D
    exact ⟨(hrw.cell 2).trans hi.c2, (hrw.cell 3).trans hi.c3⟩)
  obtain ⟨W2, hW2⟩ : ∃ W2, W2 = (w1.setCell ⟨g, 3, none⟩ (.int .i64 kk)).setCell ⟨g, 2, none⟩ (.bool D) := ⟨_, rfl⟩
  rw [← hW2] at HFIN HC
  cases d' with
  | true =>
    obtain rfl : true = D := by simpa using hD
    clear hD HI HSW HP
    go_wp2_with fail
    rw [← hW2]
    clear hW2 e2 e3 g2 g3
    have ca := fun q : LowBy W2 => (HC.out q).1
    have cb := fun q : LowBy W2 => (HC.out q).2
    refine wp_region_quiet_low (by assumption) (by kernel_rfl) ?_
    repeat (go_big_quiet_step (fail))
    refine wpQuiet_nil ?_
    intro _ hw'
    obtain ⟨q, hw''⟩ := hw'
    subst hw''
    have HE := Lib.hid (HFIN.out q.W q.low)
    clear ca cb HC HFIN
    go_wp2
    go_ret2
    exact ⟨rfl, HE.out⟩
  | false =>
    by_cases hk : kk = 0
    · subst hk
      obtain rfl : false = D := by simpa using hD
      clear hD HI HSW HP
      go_wp2_with fail
      rw [← hW2]
      clear hW2 e2 e3 g2 g3
      have ca := fun q : LowBy W2 => (HC.out q).1
      have cb := fun q : LowBy W2 => (HC.out q).2
      refine wp_region_quiet_low (by assumption) (by kernel_rfl) ?_
      repeat (go_big_quiet_step (fail))
      refine wpQuiet_nil ?_
      intro _ hw'
      obtain ⟨q, hw''⟩ := hw'
      subst hw''
      have HE := Lib.hid (HFIN.out q.W q.low)
      clear ca cb HC HFIN
      go_wp2
      go_ret2
      exact ⟨rfl, HE.out⟩
    · have hk1 : (kk != 0) = true := by simpa using hk
      obtain rfl : true = D := by rw [← hD, hk1]; rfl
      have hk2 : (kk == 0) = false := by simpa using hk
      clear hD HI HSW HP hk
      go_wp2_with fail
      rw [← hW2]
      clear hW2 e2 e3 g2 g3
      have ca := fun q : LowBy W2 => (HC.out q).1
      have cb := fun q : LowBy W2 => (HC.out q).2
      refine wp_region_quiet_low (by assumption) (by kernel_rfl) ?_
      repeat (go_big_quiet_step (fail))
      refine wpQuiet_nil ?_
      intro _ hw'
      obtain ⟨q, hw''⟩ := hw'
      subst hw''
      have HE := Lib.hid (HFIN.out q.W q.low)
      clear ca cb HC HFIN
      go_wp2
      go_ret2
      exact ⟨rfl, HE.out⟩
theorem snStep_of {w : World} {g : Nat} {D : Bool} {k : Int} {Q : World → Prop} (H : Calls Tryz.prog 74 #[.pointer (some ⟨g, 0, none⟩)] w fun e w' => e = .returned (.tuple #[.bool D, .int .i64 k]) ∧ Q w') :
    Calls Tryz.prog 90 #[.pointer (some ⟨g, 0, none⟩)] w fun e w' => e = .returned (.tuple #[.bool D, .int .i64 k]) ∧ Q w' := by
  have H := Lib.hid H
  go_enter Tryz.func90, Tryz.ntmps90
  go_wp2_with fail
  refine H.out.mono ?_
  rintro e w1 ⟨rfl, hq⟩
  have HQ := Lib.hid hq
  clear hq
  go_wp2
  go_ret2
  exact ⟨rfl, HQ.out⟩
/-- Why nothing is told. -/
def refK (F : Bool) (d : Bool) (k z : Int) : Int := if F = true then 1 else if d = true then k else if z = 0 then 1 else 7
theorem snRefusal_any {w : World} {g f : Nat} {t : TypeId} {cs : Array Value} {p : Option Addr} {d : Bool} {k z : Int} (hr : Row w g t cs) (h0 : cs[0]? = some (.pointer p)) (h1 : cs[1]? = some (nextV f g)) (h2 : cs[2]? = some (.bool d)) (h3 : cs[3]? = some (.int .i64 k))
    (HS : Calls Tryz.prog 28 #[.pointer p] w fun e w' => e = .returned (.int .i64 z) ∧ w = w') :
    Calls Tryz.prog 72 #[.pointer (some ⟨g, 0, none⟩)] w fun e w' => e = .returned (.int .i64 (refK false d k z)) ∧ w = w' := by
  have c0 := hr.cell 0
  have c1 := hr.cell 1
  have c2 := hr.cell 2
  have c3 := hr.cell 3
  rw [h0] at c0
  rw [h1] at c1
  rw [h2] at c2
  rw [h3] at c3
  unfold nextV at c1
  have q1 := fun w => eqFnR w f #[.pointer (some ⟨g, 0, none⟩)] #[]
  have q2 := fun w => guardFnR w f #[.pointer (some ⟨g, 0, none⟩)] #[] (.tmp 7)
  have HS := Lib.hid HS
  clear hr h1 h2 h3 h0
  cases d with
  | true =>
    go_enter Tryz.func72, Tryz.ntmps72
    go_wp2
    go_ret
    exact ⟨rfl, rfl⟩
  | false =>
    by_cases hz : z = 0
    · subst hz
      go_enter Tryz.func72, Tryz.ntmps72
      go_wp2_with (refine HS.out.mono ?_; rintro e w1 ⟨rfl, rfl⟩)
      go_ret
      exact ⟨rfl, rfl⟩
    · have HZ := Lib.hid (show refK false false k z = 7 by unfold refK; simp [hz])
      have hz1 : (z == 0) = false := by simpa using hz
      rw [HZ.out]
      clear hz HZ
      go_enter Tryz.func72, Tryz.ntmps72
      go_wp2_with (refine HS.out.mono ?_; rintro e w1 ⟨rfl, rfl⟩)
      go_ret
      exact ⟨rfl, rfl⟩
end Go.Proofs.YtiefgmibgdidpaaGreatDoor
/- A snapshot anew. -/
namespace Go.Proofs.YtiefgmibgdidpaaGreatDoor
open Go.RowKit
set_option linter.unusedVariables false
attribute [local go_sem] Oper.semAt_some
/-- The cells of a snapshot of which nothing is done. -/
def zeroS (p : Option Addr) (F : Value) (a : Int) : List Value := .pointer p :: F :: .bool false :: .int .i64 0 :: .int .u64 a :: (List.replicate 48 (.int .u64 0) ++ (.int .i64 0 :: .int .i64 0 :: .int .u64 0 :: zeroNd.cl))
theorem zeroS_is (p : Option Addr) (F : Value) (a : Int) : IsS (zeroS p F a).toArray p F false 0 a (fun _ => 0) 0 0 0 zeroNd := by
  refine ⟨by rw [List.size_toArray]; rfl, rfl, rfl, rfl, rfl, rfl, fun j hj => ?_, rfl, rfl, rfl, fun j u hu => ?_⟩
  · rw [List.getElem?_toArray, show 5 + j = j + 1 + 1 + 1 + 1 + 1 by omega]
    simp only [zeroS, List.getElem?_cons_succ]
    rw [List.getElem?_append_left (by simpa using hj), List.getElem?_replicate, if_pos hj]
  · rw [List.getElem?_toArray, show 56 + j = j + 51 + 1 + 1 + 1 + 1 + 1 by omega]
    simp only [zeroS, List.getElem?_cons_succ]
    rw [List.getElem?_append_right (by simp only [List.length_replicate]; omega), List.length_replicate, show j + 51 - 48 = j + 1 + 1 + 1 by omega]
    simp only [List.getElem?_cons_succ]
    exact hu
set_option maxRecDepth 100000 in
set_option maxHeartbeats 3200000 in
theorem snNew_any (p : Option Addr) (a : Int) (w : World) : Calls Tryz.prog 75 #[.pointer p, .int .u64 a] w fun e w' => e = .returned (.pointer (some ⟨w.heap.size, 0, none⟩)) ∧ w.alloc (.cells (zeroS p (nextV 89 w.heap.size) a).toArray 123) = w' := by
  go_enter Tryz.func75, Tryz.ntmps75
  go_wp2
  go_ret
  exact ⟨rfl, rfl⟩
end Go.Proofs.YtiefgmibgdidpaaGreatDoor
/- What a snapshot tells: its node, its high bound; without conditions. -/
namespace Go.Proofs.YtiefgmibgdidpaaGreatDoor
open Go.RowKit
set_option linter.unusedVariables false
attribute [local go_sem] Oper.semAt_some
set_option maxRecDepth 100000 in
set_option maxHeartbeats 3200000 in
theorem snNode_any {w : World} {g : Nat} {cs : Array Value} {p : Option Addr} {F : Value} {d : Bool} {k a wh wd lo kk : Int} {r : Nat → Int} {n : Nd} (hr : Row w g 123 cs) (hs : IsS cs p F d k a r wh wd lo n)
    (HR : ∀ W, Below w.heap.size w W → Calls Tryz.prog 72 #[.pointer (some ⟨g, 0, none⟩)] W fun e w' => e = .returned (.int .i64 kk) ∧ W = w') :
    Calls Tryz.prog 45 #[.pointer (some ⟨g, 0, none⟩)] w fun e w' => e = .returned (.tuple #[n.V, .int .i64 kk]) ∧ Below w.heap.size w w' := by
  have mixed : Tryz.prog.follows .mixedOrders = true := by kernel_rfl
  obtain ⟨W1, hW1⟩ : ∃ W1, W1 = w.alloc (.cells #[.int .i64 0, .int .u64 0, .int .u64 0, .int .u64 0, .int .u64 0, .int .u64 0, .int .u64 0, .int .u64 0, .int .u64 0, .int .u64 0, .int .u64 0, .int .u64 0, .int .u64 0, .int .u64 0, .int .u64 0, .int .u64 0, .int .u64 0, .int .u64 0, .int .u64 0, .int .u64 0, .int .u64 0] 35) := ⟨_, rfl⟩
  have hb1 : Below w.heap.size w W1 := by rw [hW1]; exact alloc_below _ _
  have r1 : NdAt W1 w.heap.size zeroNd := by rw [hW1]; exact Row.new w 35 zeroNd.cl.toArray
  have HRn := Lib.hid (fun (w' : World) (h : ∃ q : LowBy W1, w' = q.W) => (show w'.rangeAt g 56 n.cl by
    obtain ⟨q, rfl⟩ := h
    intro j v hv
    rw [((hr.below hb1 hr.lt).below q.low (hr.below hb1 hr.lt).lt).cell]
    exact hs.cn j v hv))
  have HC := Lib.hid (fun (q : LowBy W1) => Calls.low_of_same (HR q.W (Below.and hb1 q.low)))
  have HR1 := Lib.hid (fun q : LowBy W1 => (show NdAt q.W w.heap.size zeroNd from r1.below q.low r1.lt))
  have HB := Lib.hid (fun q : LowBy W1 => Below.and hb1 q.low)
  have HW1 := Lib.hid hW1
  clear hr hs HR hb1 r1 hW1
  go_enter Tryz.func45, Tryz.ntmps45
  go_wp2_with (rw [← HW1.out])
  refine wp_region_low_tail 8 (by assumption) (by kernel_rfl) ?_
  simp only [List.take_succ_cons, List.take_zero, List.drop_succ_cons, List.drop_zero]
  repeat (first | go_big_quiet_skip | (go_big_quiet_want; first | (refine quiet_load_mid 35 _ rfl g 56 rfl n.cl _ HRn.out Tryz.underlying35 rfl ndI ?_; simp only [Act.put, List.setIfInBounds_toArray, List.set_cons_succ, List.set_cons_zero]; go_big_quiet_on) | (go_big_quiet_op; first | go_big_quiet_on | go_big_quiet_call ((go_at_call 72; with_reducible exact HC.out _)))))
  refine wpQuiet_nil ?_
  intro _ hw'
  obtain ⟨q, hw''⟩ := hw'
  subst hw''
  have H1 := Lib.hid (HR1.out q)
  have HBq := Lib.hid (HB.out q)
  clear HR1 HB HC HRn
  go_wp2_with (refine wpList_store_row rfl _ _ _ rfl w.heap.size n.cl rfl rfl H1.out rfl ndI (cl_one n) ?_)
  refine bodyPost_ret (results_node_tmp rfl _ _ w.heap.size n rfl (row_setCells H1.out rfl)) rfl ⟨rfl, setCells_low _ (Nat.le_refl _) HBq.out⟩
end Go.Proofs.YtiefgmibgdidpaaGreatDoor
/- What a snapshot tells: its high bound; without conditions. -/
namespace Go.Proofs.YtiefgmibgdidpaaGreatDoor
open Go.RowKit
set_option linter.unusedVariables false
attribute [local go_sem] Oper.semAt_some
theorem store_gen11 (w1 : World) (n : Nd) : ∃ W2, W2 = (w1.alloc (.cells #[.int .i64 0, .int .u64 0, .int .u64 0, .int .u64 0, .int .u64 0, .int .u64 0, .int .u64 0, .int .u64 0, .int .u64 0, .int .u64 0, .int .u64 0, .int .u64 0, .int .u64 0, .int .u64 0, .int .u64 0, .int .u64 0, .int .u64 0, .int .u64 0, .int .u64 0, .int .u64 0, .int .u64 0] 35)).setCells w1.heap.size 0 n.cl ∧ NdAt W2 w1.heap.size n ∧ Below w1.heap.size w1 W2 :=
  ⟨_, rfl, row_setCells (Row.new w1 35 zeroNd.cl.toArray) rfl, setCells_low _ (Nat.le_refl _) (alloc_below _ _)⟩
def hiV (kk lo : Int) (n : Nd) : Int := if kk = 0 ∧ n.nx ≠ 0 then lo else 0
def hiB (kk : Int) (n : Nd) : Bool := if kk = 0 ∧ n.nx ≠ 0 then true else false
set_option maxRecDepth 100000 in
set_option maxHeartbeats 3200000 in
theorem snHigh_of {w : World} {p : Option Addr} {n : Nd} {kk lo : Int} (HN : Calls Tryz.prog 45 #[.pointer p] w fun e w' => e = .returned (.tuple #[n.V, .int .i64 kk]) ∧ Below w.heap.size w w')
    (hlo : kk = 0 → ∃ g, p = some ⟨g, 0, none⟩ ∧ w.cell? ⟨g, 55, none⟩ = some (.int .u64 lo)) :
    Calls Tryz.prog 22 #[.pointer p] w fun e w' => e = .returned (.tuple #[.int .u64 (hiV kk lo n), .bool (hiB kk n)]) ∧ Below w.heap.size w w' := by
  have HN := Lib.hid HN
  have HLo := Lib.hid hlo
  clear hlo
  by_cases hk : kk = 0
  · by_cases hx : n.nx = 0
    · have HR := Lib.hid (show hiV kk lo n = 0 ∧ hiB kk n = false by unfold hiV hiB; simp [hx])
      rw [HR.out.1, HR.out.2]
      subst hk
      have hx1 : (n.nx == 0) = true := by simpa using hx
      clear HR HLo
      have HX := Lib.hid hx
      clear hx
      go_enter Tryz.func22, Tryz.ntmps22
      go_wp2_with (first
        | ((with_reducible refine HN.out.mono ?_); rintro e w1 ⟨rfl, h1⟩)
        | (refine wpList_store_row rfl _ _ _ rfl w1.heap.size n.cl rfl rfl (Row.new w1 35 zeroNd.cl.toArray) rfl ndI (cl_one n) ?_; obtain ⟨W2, hW2, hn2, hb2⟩ := store_gen11 w1 n; rw [← hW2]; have c2 : W2.cell? ⟨w1.heap.size, 2, none⟩ = some (.int .u64 n.nx) := ndAt_at hn2 2; have H1 := Lib.hid h1; have HB2 := Lib.hid hb2; clear hW2 hn2 h1 hb2))
      go_ret2
      exact ⟨rfl, Below.and H1.out HB2.out⟩
    · have HR := Lib.hid (show hiV kk lo n = lo ∧ hiB kk n = true by unfold hiV hiB; simp [hx, hk])
      rw [HR.out.1, HR.out.2]
      obtain ⟨g, rfl, hg⟩ := HLo.out hk
      subst hk
      have hx1 : (n.nx == 0) = false := by simpa using hx
      clear HR HLo
      have HX := Lib.hid hx
      have HG := Lib.hid fun W (hb : Below w.heap.size w W) => (hb.cell (p := ⟨g, 55, none⟩) (block_lt_of_cell hg)).trans hg
      clear hx hg
      go_enter Tryz.func22, Tryz.ntmps22
      go_wp2_with (first
        | ((with_reducible refine HN.out.mono ?_); rintro e w1 ⟨rfl, h1⟩)
        | (refine wpList_store_row rfl _ _ _ rfl w1.heap.size n.cl rfl rfl (Row.new w1 35 zeroNd.cl.toArray) rfl ndI (cl_one n) ?_; obtain ⟨W2, hW2, hn2, hb2⟩ := store_gen11 w1 n; rw [← hW2]; have c2 : W2.cell? ⟨w1.heap.size, 2, none⟩ = some (.int .u64 n.nx) := ndAt_at hn2 2; have c55 := HG.out W2 (Below.and h1 hb2); have H1 := Lib.hid h1; have HB2 := Lib.hid hb2; clear hW2 hn2 h1 hb2))
      go_ret2
      exact ⟨rfl, Below.and H1.out HB2.out⟩
  · have HR := Lib.hid (show hiV kk lo n = 0 ∧ hiB kk n = false by unfold hiV hiB; simp [hk])
    rw [HR.out.1, HR.out.2]
    have hk1 : (kk != 0) = true := by simpa using hk
    clear HR HLo hk
    go_enter Tryz.func22, Tryz.ntmps22
    go_wp2_with (first
      | ((with_reducible refine HN.out.mono ?_); rintro e w1 ⟨rfl, h1⟩)
      | (refine wpList_store_row rfl _ _ _ rfl w1.heap.size n.cl rfl rfl (Row.new w1 35 zeroNd.cl.toArray) rfl ndI (cl_one n) ?_; obtain ⟨W2, hW2, hn2, hb2⟩ := store_gen11 w1 n; rw [← hW2]; have H1 := Lib.hid h1; have HB2 := Lib.hid hb2; clear hW2 hn2 h1 hb2))
    go_ret2
    exact ⟨rfl, Below.and H1.out HB2.out⟩
end Go.Proofs.YtiefgmibgdidpaaGreatDoor
/- A snapshot in a memory that lies: what a step makes of it; for any address. -/
namespace Go.Proofs.YtiefgmibgdidpaaGreatDoor
open Go.RowKit
set_option linter.unusedVariables false
/-- What a snapshot does next. -/
inductive Sp where
  | bg
  | rd
  | lw
  | en
deriving DecidableEq
def Sp.no : Sp → Nat
  | .bg => 89
  | .rd => 109
  | .lw => 129
  | .en => 130
/-- A snapshot's state. -/
structure SS where
  ph : Sp
  d : Bool
  k : Int
  a : Nat
  r : Nat → Int
  wh : Nat
  wd : Nat
  lo : Int
  n : Nd
def SS.new (a : Nat) : SS := ⟨.bg, false, 0, a, fun _ => 0, 0, 0, 0, zeroNd⟩
def SnapAt (w : World) (g : Nat) (p : Option Addr) (s : SS) : Prop := ∃ cs, Row w g 123 cs ∧ IsS cs p (nextV s.ph.no g) s.d s.k s.a s.r s.wh s.wd s.lo s.n
/-- Where it looks next. -/
def SS.ask (s : SS) : Nat := match s.ph with
  | .bg => snWordAt s.a 3
  | .rd => snWordAt s.a s.wd
  | .lw => snWordAt (s.r 26).toNat 1
  | .en => snWordAt s.a 3
def rdP (s : SS) (v : Int) : Sp := if (bh s.wd v).2 = true then .rd else if s.wh = 0 then .rd else if rput s.r (24 * s.wh + s.wd) v 26 = 0 then .en else .lw
/-- The snapshot behind a step that loaded v, with that error. -/
def SS.next (s : SS) (v kk : Int) : SS := match s.ph with
  | .bg => { s with ph := .rd, d := kk != 0, k := kk, r := rBeg v, wh := 0, wd := 0 }
  | .rd => { s with ph := rdP s v, d := kk != 0, k := kk, r := rput s.r (24 * s.wh + s.wd) v, wh := rdWh s.wh s.wd v, wd := (bh s.wd v).1 }
  | .lw => { s with ph := .en, d := kk != 0, k := kk, lo := v }
  | .en => { s with ph := if kk = 0 ∧ sameR (rput s.r 27 v) = true then .en else .bg, d := enD false (rput s.r 27 v) kk || enK (rput s.r 27 v) kk != 0, k := enK (rput s.r 27 v) kk, r := rput s.r 27 v, n := enN s.n (rput s.r 27 v) kk }
structure SS.Good (s : SS) : Prop where
  d : s.d = false
  a : s.a < 18446744073709551616
  wh : s.wh = 0 ∨ s.wh = 1
  wd : s.wd < 24
  r : ∀ j, 0 ≤ s.r j ∧ s.r j < 18446744073709551616
theorem new_SGood {a : Nat} (ha : a < 18446744073709551616) : (SS.new a).Good := ⟨rfl, ha, .inl rfl, by show 0 < 24; omega, fun j => ⟨Int.le_refl 0, by show (0 : Int) < _; omega⟩⟩
theorem rput_in {r : Nat → Int} (h : ∀ j, 0 ≤ r j ∧ r j < 18446744073709551616) {i : Nat} {v : Int} (hv : 0 ≤ v ∧ v < 18446744073709551616) (j : Nat) : 0 ≤ rput r i v j ∧ rput r i v j < 18446744073709551616 := by
  unfold rput
  split
  · exact hv
  · exact h j
theorem bh_lt {k : Nat} (hk : k < 24) (v : Int) : (bh k v).1 < 24 := by
  unfold bh
  split
  · show 4 < 24; omega
  · split
    · show 8 < 24; omega
    · split
      · show 0 < 24; omega
      · rename_i h
        show k + 1 < 24
        have : k ≠ 23 := fun e => h (.inl e)
        omega
theorem SS.next_good {s : SS} (G : s.Good) {v kk : Int} (hv : 0 ≤ v ∧ v < 18446744073709551616) (hd : (s.next v kk).d = false) : (s.next v kk).Good := by
  obtain ⟨ph, d, k, a, r, wh, wd, lo, n⟩ := s
  obtain ⟨g1, g2, g3, g4, g5⟩ := G
  cases ph with
  | bg => exact ⟨hd, g2, .inl rfl, by show 0 < 24; omega, fun j => by
      show 0 ≤ rBeg v j ∧ rBeg v j < _
      unfold rBeg
      split
      · exact hv
      · omega⟩
  | rd => exact ⟨hd, g2, by
      show rdWh wh wd v = 0 ∨ rdWh wh wd v = 1
      unfold rdWh
      split
      · exact g3
      · exact .inr rfl, bh_lt g4 v, fun j => rput_in g5 hv j⟩
  | lw => exact ⟨hd, g2, g3, g4, g5⟩
  | en => exact ⟨hd, g2, g3, g4, fun j => rput_in g5 hv j⟩
/-- What a load answers, of a memory's state. -/
def ldV (s : St) (A : Nat) : Int := if A % 8 = 0 ∧ A < 64 * s.nl then ((s.view.getD (A / 8) 0 : Nat) : Int) else 0
def ldK (s : St) (A : Nat) : Int := if A % 8 = 0 ∧ A < 64 * s.nl then 0 else 3
def ldS (s : St) (A : Nat) : St := if A % 8 = 0 ∧ A < 64 * s.nl then { s with ld := s.ld + 1 } else s
theorem load_any {w : World} {y : Lay} {s : St} (h : MemAt w y s) (ok : s.Ok) (A : Nat) :
    Calls Tryz.prog 65 #[.pointer (some ⟨y.g, 0, none⟩), .int .u64 (A : Int)] w (AnsPost w y (ldS s A) (.tuple #[.int .u64 (ldV s A), .int .i64 (ldK s A)])) := by
  unfold ldS ldV ldK
  by_cases hA : A % 8 = 0 ∧ A < 64 * s.nl
  · simp only [if_pos hA]
    exact load_ok h ok A hA.1 hA.2
  · simp only [if_neg hA]
    exact (load_range h A (by omega)).mono fun e w' ⟨he, hw⟩ => ⟨he, y, by rw [← hw]; exact h, by rw [← hw]; exact Turn.refl _ _⟩
/-- What a snapshot's step leaves of a memory and the snapshot. -/
def SnPost (w : World) (y : Lay) (g : Nat) (S' : SS) (s' : St) (w' : World) : Prop := ∃ y', MemAt w' y' s' ∧ SnapAt w' g (some ⟨y.g, 0, none⟩) S' ∧ RT w w' y y' g
/-- What its function leaves. -/
def SnP (w : World) (y : Lay) (g : Nat) (s' : St) (w' : World) : Prop := ∃ y', MemAt w' y' s' ∧ RT w w' y y' g
theorem sn_fin {w w1 w' : World} {y : Lay} {g : Nat} {s' : St} {cs' : Array Value} (hg : g < w.heap.size) (sep : ¬ y.fp g) (h1 : SnP w y g s' w1) (h2 : SnSw w1 w' g cs') : ∃ y', MemAt w' y' s' ∧ RT w w' y y' g := by
  obtain ⟨y', hm, T⟩ := h1
  have sep' : ¬ y'.fp g := fun hf => by
    rcases T.fp g hf with h | h
    · exact sep h
    · omega
  exact ⟨y', hm.same fun k hk => h2.but.block k (hm.lt k hk) (fun e => sep' (by rw [← e]; exact hk)), T.trans ⟨rfl, h2.but.mono fun k h => .inr h, fun _ h => .inl h⟩⟩
theorem sn_load {w : World} {y : Lay} {s : St} {g : Nat} {cs : Array Value} (h : MemAt w y s) (ok : s.Ok) (hr : Row w g 123 cs) (sep : ¬ y.fp g) (A : Nat) : ∀ W, Below w.heap.size w W →
    Calls Tryz.prog 65 #[.pointer (some ⟨y.g, 0, none⟩), .int .u64 (A : Int)] W fun e' w' => e' = .returned (.tuple #[.int .u64 (ldV s A), .int .i64 (ldK s A)]) ∧ LQ g cs (SnP w y g (ldS s A)) w' := by
  intro W hb
  refine (load_any (h.below hb) ok A).mono ?_
  rintro e w' ⟨he, y', hm, ht⟩
  exact ⟨he, ht.but.row (hr.below hb hr.lt) sep, y', hm, (RT.of_below y g hb).trans (RT.of_turn g ht)⟩
theorem sstep_any {w : World} {y : Lay} {s : St} {g : Nat} {S : SS} (h : MemAt w y s) (ok : s.Ok) (hS : SnapAt w g (some ⟨y.g, 0, none⟩) S) (sep : ¬ y.fp g) (G : S.Good) :
    Calls Tryz.prog 90 #[.pointer (some ⟨g, 0, none⟩)] w fun e w' => e = .returned (.tuple #[.bool (S.next (ldV s S.ask) (ldK s S.ask)).d, .int .i64 (S.next (ldV s S.ask) (ldK s S.ask)).k]) ∧ SnPost w y g (S.next (ldV s S.ask) (ldK s S.ask)) (ldS s S.ask) w' := by
  obtain ⟨cs, hr, hs⟩ := hS
  have hlt := hr.lt
  obtain ⟨ph, d, k, a, r, wh, wd, lo, n⟩ := S
  obtain ⟨g1, g2, g3, g4, g5⟩ := G
  dsimp only at g1 g2 g3 g4 g5 hs
  subst g1
  refine snStep_of ?_
  cases ph with
  | bg =>
    refine (mstep_of (fun w v => Tryz.call89 _ _) hr hs.c1 hs.c2 (by simp; rfl) (snBegin_any hr hs g2 (sn_load h ok hr sep _))).mono ?_
    rintro e w' ⟨he, w1, cs', h1, hi, hsw⟩
    obtain ⟨y', hm', T'⟩ := sn_fin hlt sep h1 hsw
    exact ⟨he, y', hm', ⟨cs', hsw.row, hi⟩, T'⟩
  | rd =>
    have hF : rdF (nextV 109 g) g r wh wd (ldV s (snWordAt a wd)) = nextV (rdP ⟨.rd, false, k, a, r, wh, wd, lo, n⟩ (ldV s (snWordAt a wd))).no g := by
      unfold rdF rdP
      dsimp only
      split
      · rfl
      · split
        · rfl
        · split <;> rfl
    refine (mstep_of (fun w v => Tryz.call109 _ _) hr hs.c1 hs.c2 (by simp; rfl) (read_any hr hs g2 g3 g4 (sn_load h ok hr sep _))).mono ?_
    rintro e w' ⟨he, w1, cs', h1, hi, hsw⟩
    obtain ⟨y', hm', T'⟩ := sn_fin hlt sep h1 hsw
    have hi' := hi
    rw [show (Sp.rd).no = 109 from rfl, hF] at hi'
    exact ⟨he, y', hm', ⟨cs', hsw.row, hi'⟩, T'⟩
  | lw =>
    refine (mstep_of (fun w v => Tryz.call129 _ _) hr hs.c1 hs.c2 (by simp; rfl) (readLow_any (a := (r 26).toNat) hr hs (by have := g5 26; omega) (by have := g5 26; omega) (sn_load h ok hr sep _))).mono ?_
    rintro e w' ⟨he, w1, cs', h1, hi, hsw⟩
    obtain ⟨y', hm', T'⟩ := sn_fin hlt sep h1 hsw
    exact ⟨he, y', hm', ⟨cs', hsw.row, hi⟩, T'⟩
  | en =>
    have hF : ∀ rr kk, enF (nextV 130 g) g rr kk = nextV (if kk = 0 ∧ sameR rr = true then Sp.en else Sp.bg).no g := fun rr kk => by
      unfold enF
      split <;> rfl
    refine (mstep_of (fun w v => Tryz.call130 _ _) hr hs.c1 hs.c2 rfl (end_any hr hs g2 (g5 24) (sn_load h ok hr sep _))).mono ?_
    rintro e w' ⟨he, w1, cs', h1, hi, hsw⟩
    obtain ⟨y', hm', T'⟩ := sn_fin hlt sep h1 hsw
    have hi' := hi
    rw [show (Sp.en).no = 130 from rfl, hF] at hi'
    exact ⟨he, y', hm', ⟨cs', hsw.row, hi'⟩, T'⟩
end Go.Proofs.YtiefgmibgdidpaaGreatDoor
/- What a snapshot comes to where nobody stores: plain facts, without conditions. -/
namespace Go.Proofs.YtiefgmibgdidpaaGreatDoor
open Go.RowKit
set_option linter.unusedVariables false
/-- A step, by what loads answer. -/
def SS.go (V K : Nat → Int) (S : SS) : SS := S.next (V S.ask) (K S.ask)
def SS.it (V K : Nat → Int) : Nat → SS → SS
  | 0, S => S
  | n + 1, S => (SS.it V K n S).go V K
theorem SS.it_add (V K : Nat → Int) (S : SS) (n : Nat) : ∀ m, SS.it V K (n + m) S = SS.it V K m (SS.it V K n S)
  | 0 => rfl
  | m + 1 => by rw [← Nat.add_assoc, SS.it, SS.it, SS.it_add V K S n m]
/-- So many steps lead there, and none ahead of it was the last one. -/
structure Goes (V K : Nat → Int) (S : SS) (n : Nat) (S' : SS) : Prop where
  it : SS.it V K n S = S'
  on : ∀ t, t < n → (SS.it V K t S).d = false
theorem Goes.zero (V K : Nat → Int) (S : SS) : Goes V K S 0 S := ⟨rfl, fun t h => absurd h (Nat.not_lt_zero _)⟩
theorem Goes.one {V K : Nat → Int} {S : SS} (h : S.d = false) : Goes V K S 1 (S.go V K) := ⟨rfl, fun t ht => by
  obtain rfl : t = 0 := by omega
  exact h⟩
theorem Goes.add {V K : Nat → Int} {S S' S'' : SS} {n m : Nat} (h : Goes V K S n S') (h' : Goes V K S' m S'') : Goes V K S (n + m) S'' := by
  refine ⟨by rw [SS.it_add, h.it, h'.it], fun t ht => ?_⟩
  by_cases hl : t < n
  · exact h.on t hl
  · obtain ⟨u, rfl⟩ : ∃ u, t = n + u := ⟨t - n, by omega⟩
    rw [SS.it_add, h.it]
    exact h'.on u (by omega)
/-- The words that are read ahead of one. -/
def prt (W : Nat → Int) (k j : Nat) : Int := if j < k ∧ j ≠ 3 ∧ (j < 5 ∨ 7 < j) then W j else 0
/-- No pointer ahead of one is 0. -/
def fullTo (W : Nat → Int) (j : Nat) : Prop := ∀ i, i < j → 9 ≤ i → i % 2 = 1 → W i ≠ 0
instance (W : Nat → Int) (j : Nat) : Decidable (fullTo W j) := by unfold fullTo; infer_instance
/-- All words that are read. -/
def full (W : Nat → Int) (j : Nat) : Int := if (j ≠ 3 ∧ (j < 5 ∨ 7 < j)) ∧ fullTo W j then W j else 0
/-- A load was refused. -/
def Erred (S : SS) : Prop := S.d = true ∧ S.k = 3 ∧ S.n = zeroNd
/-- Which loads may be refused. -/
def Bad (V K : Nat → Int) (a : Nat) : Prop := (∃ k, k < 24 ∧ K (snWordAt a k) = 3) ∨ (V (snWordAt a 2) ≠ 0 ∧ K (snWordAt (V (snWordAt a 2)).toNat 1) = 3)
def ordW (k : Nat) : Prop := k = 0 ∨ k = 1 ∨ k = 2 ∨ k = 4 ∨ (8 ≤ k ∧ k < 24)
theorem prt_put {W : Nat → Int} {r : Nat → Int} {wh k k' : Nat} (hk : ordW k) (hb : k' = if k = 2 then 4 else if k = 4 then 8 else k + 1) {c : Int}
    (hr : ∀ j, j < 24 → r (24 * wh + j) = if j = 3 then c else prt W k j) : ∀ j, j < 24 → rput r (24 * wh + k) (W k) (24 * wh + j) = if j = 3 then c else prt W k' j := by
  intro j hj
  unfold rput
  by_cases e : j = k
  · subst e
    rw [if_pos rfl]
    have h3 : j ≠ 3 := by rcases hk with h | h | h | h | h <;> omega
    rw [if_neg h3]
    unfold prt
    have : j < k' := by
      rw [hb]
      split
      · omega
      · split <;> omega
    rw [if_pos ⟨this, h3, by rcases hk with h | h | h | h | h <;> omega⟩]
  · rw [if_neg (by omega), hr j hj]
    by_cases h3 : j = 3
    · rw [if_pos h3, if_pos h3]
    · rw [if_neg h3, if_neg h3]
      unfold prt
      by_cases hc : j ≠ 3 ∧ (j < 5 ∨ 7 < j)
      · have : j < k ↔ j < k' := by
          rw [hb]
          rcases hk with h | h | h | h | h
          · subst h; simp only [show (0:Nat) ≠ 2 by omega, show (0:Nat) ≠ 4 by omega, if_false]; omega
          · subst h; simp only [show (1:Nat) ≠ 2 by omega, show (1:Nat) ≠ 4 by omega, if_false]; omega
          · subst h; simp only [if_true]; omega
          · subst h; simp only [show (4:Nat) ≠ 2 by omega, if_false, if_true]; omega
          · simp only [show k ≠ 2 by omega, show k ≠ 4 by omega, if_false]; omega
        simp only [hc, this]
      · rw [if_neg (fun h => hc h.2), if_neg (fun h => hc h.2)]
theorem full_put {W : Nat → Int} {r : Nat → Int} {wh k : Nat} (hk : ordW k) (hs : k = 23 ∨ (8 < k ∧ k % 2 = 1 ∧ W k = 0)) (hn : fullTo W k) {c : Int}
    (hr : ∀ j, j < 24 → r (24 * wh + j) = if j = 3 then c else prt W k j) : ∀ j, j < 24 → rput r (24 * wh + k) (W k) (24 * wh + j) = if j = 3 then c else full W j := by
  intro j hj
  unfold rput
  by_cases e : j = k
  · subst e
    rw [if_pos rfl]
    have h8 : 8 < j := by rcases hs with h | h <;> omega
    rw [if_neg (by omega)]
    unfold full
    rw [if_pos ⟨⟨by omega, by omega⟩, hn⟩]
  · rw [if_neg (by omega), hr j hj]
    by_cases h3 : j = 3
    · rw [if_pos h3, if_pos h3]
    · rw [if_neg h3, if_neg h3]
      unfold prt full
      by_cases hl : j < k
      · have hf : fullTo W j := fun i hi => hn i (by omega)
        simp only [hl, hf, true_and, and_true]
      · rw [if_neg (fun h => hl h.1), if_neg]
        rintro ⟨_, hf⟩
        rcases hs with h | ⟨h, h', h0⟩
        · omega
        · exact hf k (by omega) (by omega) h' h0
theorem bh_on {k : Nat} {w : Int} (h : (bh k w).2 = true) (hk : ordW k) : (bh k w).1 = (if k = 2 then 4 else if k = 4 then 8 else k + 1) ∧ ¬ (k = 23 ∨ (8 < k ∧ k % 2 = 1 ∧ w = 0)) := by
  unfold bh at h ⊢
  by_cases h2 : k = 2
  · subst h2; simp
  · by_cases h4 : k = 4
    · subst h4; simp
    · rw [if_neg h2, if_neg h4] at h ⊢
      by_cases hs : k = 23 ∨ (8 < k ∧ k % 2 = 1 ∧ w = 0)
      · rw [if_pos hs] at h; cases h
      · rw [if_neg hs, if_neg h2, if_neg h4]; exact ⟨rfl, hs⟩
theorem bh_off {k : Nat} {w : Int} (h : ¬ (bh k w).2 = true) : (bh k w).1 = 0 ∧ (k = 23 ∨ (8 < k ∧ k % 2 = 1 ∧ w = 0)) := by
  unfold bh at h ⊢
  by_cases h2 : k = 2
  · subst h2; simp at h
  · by_cases h4 : k = 4
    · subst h4; simp at h
    · rw [if_neg h2, if_neg h4] at h ⊢
      by_cases hs : k = 23 ∨ (8 < k ∧ k % 2 = 1 ∧ w = 0)
      · rw [if_pos hs]; exact ⟨rfl, hs⟩
      · rw [if_neg hs] at h; exact absurd rfl h
theorem ne_zero_true {k : Int} (h : k = 3) : (k != 0) = true := by subst h; rfl
/-- A reading. -/
theorem rd_goes {V K : Nat → Int} (hK : ∀ A, K A = 0 ∨ K A = 3) {a wh : Nat} (hwh : wh = 0 ∨ wh = 1) {c : Int} {lo : Int} : ∀ m k, 24 - k ≤ m → ordW k → ∀ (r : Nat → Int) (kk : Int),
    (∀ j, j < 24 → r (24 * wh + j) = if j = 3 then c else prt (fun i => V (snWordAt a i)) k j) → fullTo (fun i => V (snWordAt a i)) k →
    ∃ n S', 1 ≤ n ∧ n ≤ m ∧ Goes V K ⟨.rd, false, kk, a, r, wh, k, lo, zeroNd⟩ n S' ∧
      ((Erred S' ∧ ∃ i, i < 24 ∧ K (snWordAt a i) = 3) ∨
       ∃ r' : Nat → Int, S' = ⟨if wh = 0 then .rd else if r' 26 = 0 then .en else .lw, false, 0, a, r', 1, 0, lo, zeroNd⟩ ∧
         (∀ j, j < 24 → r' (24 * wh + j) = if j = 3 then c else full (fun i => V (snWordAt a i)) j) ∧ (∀ j, j / 24 ≠ wh → r' j = r j)) := by
  intro m
  induction m with
  | zero => intro k hm hk; exfalso; rcases hk with h | h | h | h | h <;> omega
  | succ m ih =>
    intro k hm hk r kk hr hf
    have hk24 : k < 24 := by rcases hk with h | h | h | h | h <;> omega
    have hgo : SS.go V K ⟨.rd, false, kk, a, r, wh, k, lo, zeroNd⟩ = ⟨rdP ⟨.rd, false, kk, a, r, wh, k, lo, zeroNd⟩ (V (snWordAt a k)), K (snWordAt a k) != 0, K (snWordAt a k), a, rput r (24 * wh + k) (V (snWordAt a k)), rdWh wh k (V (snWordAt a k)), (bh k (V (snWordAt a k))).1, lo, zeroNd⟩ := rfl
    rcases hK (snWordAt a k) with h0 | h3
    · rw [h0, show ((0 : Int) != 0) = false from rfl] at hgo
      by_cases hb : (bh k (V (snWordAt a k))).2 = true
      · obtain ⟨e1, hns⟩ := bh_on hb hk
        have hk' : ordW (bh k (V (snWordAt a k))).1 := by
          rw [e1]
          unfold ordW
          rcases hk with h | h | h | h | h
          · subst h; simp
          · subst h; simp
          · subst h; simp
          · subst h; simp
          · rw [if_neg (by omega), if_neg (by omega)]
            have : k ≠ 23 := fun e => hns (.inl e)
            omega
        have hlt : k < (bh k (V (snWordAt a k))).1 := by
          rw [e1]
          split
          · omega
          · split <;> omega
        have hf' : fullTo (fun i => V (snWordAt a i)) (bh k (V (snWordAt a k))).1 := by
          intro i hi h9 ho
          by_cases hik : i < k
          · exact hf i hik h9 ho
          · rw [e1] at hi
            have : i = k := by
              rcases hk with h | h | h | h | h
              · subst h; simp at hi; omega
              · subst h; simp at hi; omega
              · subst h; simp at hi; omega
              · subst h; simp at hi; omega
              · rw [if_neg (by omega), if_neg (by omega)] at hi; omega
            subst this
            exact fun hz => hns (.inr ⟨by omega, ho, hz⟩)
        have hp : rdP ⟨.rd, false, kk, a, r, wh, k, lo, zeroNd⟩ (V (snWordAt a k)) = .rd := by unfold rdP; rw [if_pos hb]
        have hw : rdWh wh k (V (snWordAt a k)) = wh := by unfold rdWh; rw [if_pos hb]
        rw [hp, hw] at hgo
        obtain ⟨k', hk'e⟩ : ∃ k', k' = (bh k (V (snWordAt a k))).1 := ⟨_, rfl⟩
        rw [← hk'e] at hk' hlt hf' hgo e1
        have hle : 24 - k' ≤ m := by omega
        obtain ⟨n, S', h1, h2, h3, h4⟩ := ih k' hle hk' (rput r (24 * wh + k) (V (snWordAt a k))) 0 (prt_put (W := fun i => V (snWordAt a i)) hk e1 hr) hf'
        refine ⟨1 + n, S', by omega, by omega, (Goes.one rfl).add (by rw [hgo]; exact h3), ?_⟩
        rcases h4 with h4 | ⟨r', e, ha, hb'⟩
        · exact .inl h4
        · refine .inr ⟨r', e, ha, fun j hj => ?_⟩
          rw [hb' j hj]
          unfold rput
          rw [if_neg (fun e => hj (by omega))]
      · obtain ⟨e1, hst⟩ := bh_off hb
        have hp : rdP ⟨.rd, false, kk, a, r, wh, k, lo, zeroNd⟩ (V (snWordAt a k)) = if wh = 0 then .rd else if rput r (24 * wh + k) (V (snWordAt a k)) 26 = 0 then .en else .lw := by unfold rdP; rw [if_neg hb]
        have hw : rdWh wh k (V (snWordAt a k)) = 1 := by unfold rdWh; rw [if_neg hb]
        rw [hp, hw, e1] at hgo
        refine ⟨1, _, by omega, by omega, Goes.one rfl, .inr ⟨_, hgo, full_put hk hst hf hr, fun j hj => ?_⟩⟩
        unfold rput
        rw [if_neg (fun e => hj (by omega))]
    · refine ⟨1, _, by omega, by omega, Goes.one rfl, .inl ⟨?_, k, hk24, h3⟩⟩
      rw [hgo]
      exact ⟨ne_zero_true h3, h3, rfl⟩
/-- The words of the node that is read. -/
def fullC (W : Nat → Int) (c : Int) (j : Nat) : Int := if j = 3 then c else full W j
theorem full2 (W : Nat → Int) : full W 2 = W 2 := by
  unfold full
  rw [if_pos ⟨by omega, fun i hi h9 => by omega⟩]
/-- Where nobody stores a snapshot is done within 64 steps. -/
theorem sn_alone {V K : Nat → Int} (hK : ∀ A, K A = 0 ∨ K A = 3) (a : Nat) : ∃ T S', 1 ≤ T ∧ T ≤ 60 ∧ Goes V K (SS.new a) T S' ∧ S'.d = true ∧
    ((S'.k = 3 ∧ S'.n = zeroNd ∧ Bad V K a) ∨
     (S'.k = (ofR ((List.range 24).map (fullC (fun i => V (snWordAt a i)) (V (snWordAt a 3))))).2 ∧ S'.n = (ofR ((List.range 24).map (fullC (fun i => V (snWordAt a i)) (V (snWordAt a 3))))).1 ∧
      (V (snWordAt a 2) ≠ 0 → S'.lo = V (snWordAt (V (snWordAt a 2)).toNat 1)) ∧ K (snWordAt a 3) = 0)) := by
  have hg0 : SS.go V K (SS.new a) = ⟨.rd, K (snWordAt a 3) != 0, K (snWordAt a 3), a, rBeg (V (snWordAt a 3)), 0, 0, 0, zeroNd⟩ := rfl
  rcases hK (snWordAt a 3) with h0 | h3
  · obtain ⟨c, hc⟩ : ∃ c, c = V (snWordAt a 3) := ⟨_, rfl⟩
    rw [h0, ← hc, show ((0 : Int) != 0) = false from rfl] at hg0
    rw [← hc]
    obtain ⟨n1, S1, hn1, hm1, G1, h1⟩ := rd_goes (V := V) (K := K) hK (a := a) (wh := 0) (.inl rfl) (c := c) (lo := 0) 24 0 (by omega) (.inl rfl) (rBeg c) 0 (fun j hj => by
      unfold rBeg prt
      rw [Nat.mul_zero, Nat.zero_add]
      split
      · rfl
      · rw [if_neg (by omega)]) (fun i hi => by omega)
    have G01 := (Goes.one (V := V) (K := K) (S := SS.new a) rfl).add (by rw [hg0]; exact G1)
    rcases h1 with ⟨⟨e1, e2, e3⟩, i, hi, hbad⟩ | ⟨r1, rfl, hr1, hr1'⟩
    · exact ⟨1 + n1, S1, by omega, by omega, G01, e1, .inl ⟨e2, e3, .inl ⟨i, hi, hbad⟩⟩⟩
    · rw [if_pos rfl] at G01
      simp only [Nat.mul_zero, Nat.zero_add] at hr1
      obtain ⟨n2, S2, hn2, hm2, G2, h2⟩ := rd_goes (V := V) (K := K) hK (a := a) (wh := 1) (.inr rfl) (c := 0) (lo := 0) 24 0 (by omega) (.inl rfl) r1 0 (fun j hj => by
        rw [hr1' _ (by omega)]
        unfold rBeg prt
        rw [if_neg (by omega)]
        split
        · rfl
        · rw [if_neg (by omega)]) (fun i hi => by omega)
      have G02 := G01.add G2
      rcases h2 with ⟨⟨e1, e2, e3⟩, i, hi, hbad⟩ | ⟨r2, rfl, hr2, hr2'⟩
      · exact ⟨1 + n1 + n2, S2, by omega, by omega, G02, e1, .inl ⟨e2, e3, .inl ⟨i, hi, hbad⟩⟩⟩
      · rw [if_neg (by omega)] at G02
        simp only [Nat.mul_one] at hr2
        have h26 : r2 26 = V (snWordAt a 2) := by
          have := hr2 2 (by omega)
          rw [if_neg (by omega), full2] at this
          exact this
        have EN : ∀ lo, (SS.go V K ⟨.en, false, 0, a, r2, 1, 0, lo, zeroNd⟩) = ⟨.en, true, (ofR ((List.range 24).map (fullC (fun i => V (snWordAt a i)) c))).2, a, rput r2 27 c, 1, 0, lo, (ofR ((List.range 24).map (fullC (fun i => V (snWordAt a i)) c))).1⟩ := by
          intro lo
          have hq : ∀ j, j < 24 → rput r2 27 c (24 + j) = fullC (fun i => V (snWordAt a i)) c j := by
            intro j hj
            unfold rput fullC
            by_cases e : j = 3
            · subst e; rw [if_pos rfl, if_pos rfl]
            · rw [if_neg (by omega), if_neg e, hr2 j hj, if_neg e]
          have hp : ∀ j, j < 24 → rput r2 27 c j = fullC (fun i => V (snWordAt a i)) c j := by
            intro j hj
            unfold rput
            rw [if_neg (by omega), hr2' j (by omega), hr1 j hj]
            rfl
          have hsm : sameR (rput r2 27 c) = true := by
            unfold sameR
            rw [List.all_eq_true]
            intro j hj
            have hj := List.mem_range.1 hj
            rw [hp j hj, hq j hj]
            exact beq_self_eq_true _
          have hl : rdL (rput r2 27 c) 24 = (List.range 24).map (fullC (fun i => V (snWordAt a i)) c) := by
            unfold rdL
            exact List.map_congr_left fun j hj => hq j (List.mem_range.1 hj)
          have hgo : (SS.go V K ⟨.en, false, 0, a, r2, 1, 0, lo, zeroNd⟩) = ⟨if K (snWordAt a 3) = 0 ∧ sameR (rput r2 27 (V (snWordAt a 3))) = true then .en else .bg, enD false (rput r2 27 (V (snWordAt a 3))) (K (snWordAt a 3)) || enK (rput r2 27 (V (snWordAt a 3))) (K (snWordAt a 3)) != 0, enK (rput r2 27 (V (snWordAt a 3))) (K (snWordAt a 3)), a, rput r2 27 (V (snWordAt a 3)), 1, 0, lo, enN zeroNd (rput r2 27 (V (snWordAt a 3))) (K (snWordAt a 3))⟩ := rfl
          rw [hgo, h0, ← hc]
          unfold enD enK enN
          simp only [hsm, hl, and_self, if_true, Bool.true_or]
        by_cases hz : r2 26 = 0
        · rw [if_pos hz] at G02
          have G03 := G02.add (Goes.one rfl)
          rw [EN 0] at G03
          exact ⟨_, _, by omega, by omega, G03, rfl, .inr ⟨rfl, rfl, fun h => absurd (h26.symm.trans hz) h, h0⟩⟩
        · rw [if_neg hz] at G02
          have hlw : SS.go V K ⟨.lw, false, 0, a, r2, 1, 0, 0, zeroNd⟩ = ⟨.en, K (snWordAt (r2 26).toNat 1) != 0, K (snWordAt (r2 26).toNat 1), a, r2, 1, 0, V (snWordAt (r2 26).toNat 1), zeroNd⟩ := rfl
          have G03 := G02.add (Goes.one rfl)
          rw [hlw] at G03
          rcases hK (snWordAt (r2 26).toNat 1) with hk0 | hk3
          · rw [hk0, show ((0 : Int) != 0) = false from rfl] at G03
            have G04 := G03.add (Goes.one rfl)
            rw [EN _] at G04
            exact ⟨_, _, by omega, by omega, G04, rfl, .inr ⟨rfl, rfl, fun _ => by rw [h26], h0⟩⟩
          · exact ⟨_, _, by omega, by omega, G03, ne_zero_true hk3, .inl ⟨hk3, rfl, .inr ⟨by rw [← h26]; exact hz, by rw [← h26]; exact hk3⟩⟩⟩
  · exact ⟨1, _, by omega, by omega, Goes.one rfl, by rw [hg0]; exact ne_zero_true h3, .inl ⟨by rw [hg0]; exact h3, rfl, .inl ⟨3, by omega, h3⟩⟩⟩
end Go.Proofs.YtiefgmibgdidpaaGreatDoor
/- The document's stores that lay a node; conditions: the base is small. -/
namespace Go.Proofs.YtiefgmibgdidpaaGreatDoor
open Go.RowKit
set_option linter.unusedVariables false
end Go.Proofs.YtiefgmibgdidpaaGreatDoor
/- A memory's state behind a few stores, flushes, a fence: what is seen, and that its numbers stay small; plain facts. -/
namespace Go.Proofs.YtiefgmibgdidpaaGreatDoor
open Go.RowKit
set_option linter.unusedVariables false
section
variable {nl n : Nat} {s : St}
theorem Lds.load (h : Lds nl n s) (hn : n ≤ 1000000) (A : Nat) : Lds nl (n + 1) (ldS s A) := by
  unfold ldS
  split
  · exact ⟨h.nls, ⟨h.ok.las, h.ok.vie, h.ok.put, h.ok.few, h.ok.mks, by have := h.num; exact ⟨by show s.ld + 1 < _; omega, h.ok.num.2⟩⟩, h.pl, fun j => Nat.le_succ_of_le (h.few j), h.vl, by have := h.num; show s.ld + 1 ≤ _; omega, by have := h.num; show s.st ≤ _; omega, by have := h.num; show s.fl ≤ _; omega, by have := h.num; show s.fe ≤ _; omega⟩
  · exact h.mono (Nat.le_succ n)
end
end Go.Proofs.YtiefgmibgdidpaaGreatDoor
/- The law's laid: a memory with a node and one to its right; conditions: the numbers are such as Go's types hold. -/
namespace Go.Proofs.YtiefgmibgdidpaaGreatDoor
open Go.RowKit
set_option linter.unusedVariables false
attribute [local go_sem] Oper.semAt_some
end Go.Proofs.YtiefgmibgdidpaaGreatDoor
/- What a snapshot that is done has read, in the words of the node that lies there; what is seen of a node that was laid; plain facts. -/
namespace Go.Proofs.YtiefgmibgdidpaaGreatDoor
open Go.RowKit
set_option linter.unusedVariables false
theorem len_iff (n : Nd) {i : Nat} (hi : i ≤ 8) : i ≤ n.len ↔ ∀ j, j < i → n.ptr j ≠ 0 := by
  constructor
  · exact fun h j hj => n.len_before (by omega)
  · intro h
    by_cases hl : i ≤ n.len
    · exact hl
    · exact absurd (n.len_at (by omega)) (h _ (by omega))
theorem ofN_hd (l : Int) (x : List Int) : (ofN l x 8).hd = (l, wAt x 1, wAt x 2, wAt x 3, wAt x 4) := rfl
theorem ofN_key (l : Int) (x : List Int) {i : Nat} (hi : i < 8) : (ofN l x 8).key i = wAt x (8 + 2 * i) := by
  rcases lt8 hi with rfl | rfl | rfl | rfl | rfl | rfl | rfl | rfl <;> rfl
theorem ofN_ptr (l : Int) (x : List Int) {i : Nat} (hi : i < 8) : (ofN l x 8).ptr i = wAt x (9 + 2 * i) := by
  rcases lt8 hi with rfl | rfl | rfl | rfl | rfl | rfl | rfl | rfl <;> rfl
theorem wAt_map (f : Nat → Int) {i : Nat} (hi : i < 24) : wAt ((List.range 24).map f) i = f i := by
  unfold wAt
  rw [List.getD_eq_getElem?_getD, List.getElem?_map, List.getElem?_range hi]
  rfl
theorem zeroNd_tr (a b : Nat) : zeroNd.tr a b = zeroNd := by
  refine Nd.ext_of rfl (fun i hi => ?_) (fun i hi => ?_)
  · rw [Nd.tr_key _ _ _ hi]
    split
    · rfl
    · rcases lt8 hi with rfl | rfl | rfl | rfl | rfl | rfl | rfl | rfl <;> rfl
  · rw [Nd.tr_ptr _ _ _ hi]
    split
    · rfl
    · rcases lt8 hi with rfl | rfl | rfl | rfl | rfl | rfl | rfl | rfl <;> rfl
theorem full_low {W : Nat → Int} {j : Nat} (h3 : j ≠ 3) (h5 : j < 5) : full W j = W j := by
  unfold full
  rw [if_pos ⟨⟨h3, .inl h5⟩, fun i hi h9 => by omega⟩]
/-- A reading's words make the node without what stands behind its entries. -/
theorem ofR_full {x : List Int} {W : Nat → Int} (hW : ∀ i, i < 24 → W i = wAt x i) : ofR ((List.range 24).map (fullC W (W 3))) = ((ofR x).1.tr ((ofR x).1.len + 1) (ofR x).1.len, (ofR x).2) := by
  have h0 : wAt ((List.range 24).map (fullC W (W 3))) 0 = wAt x 0 := by
    rw [wAt_map _ (by omega), ← hW 0 (by omega)]
    unfold fullC
    rw [if_neg (by omega), full_low (by omega) (by omega)]
  unfold ofR
  rw [h0]
  by_cases hl : 5495893775785918464 ≤ wAt x 0 ∧ wAt x 0 ≤ 5495893775785918479
  · rw [if_pos hl, if_pos hl]
    dsimp only
    refine Prod.ext ?_ rfl
    dsimp only
    obtain ⟨l, hl'⟩ : ∃ l, l = wAt x 0 - 5495893775785918464 := ⟨_, rfl⟩
    rw [← hl']
    have hh := ofN_hd l x
    have hk := fun i (hi : i < 8) => ofN_key l x hi
    have hp := fun i (hi : i < 8) => ofN_ptr l x hi
    have hh' := ofN_hd l ((List.range 24).map (fullC W (W 3)))
    have hk' := fun i (hi : i < 8) => ofN_key l ((List.range 24).map (fullC W (W 3))) hi
    have hp' := fun i (hi : i < 8) => ofN_ptr l ((List.range 24).map (fullC W (W 3))) hi
    generalize ofN l x 8 = N at hh hk hp ⊢
    generalize ofN l ((List.range 24).map (fullC W (W 3))) 8 = M at hh' hk' hp' ⊢
    have hf : ∀ i, i ≤ 8 → ∀ b, b = 8 + 2 * i ∨ b = 9 + 2 * i → (fullTo W b ↔ i ≤ N.len) := by
      intro i hi b hb
      rw [len_iff _ hi]
      constructor
      · intro h j hj
        rw [hp _ (by omega), ← hW _ (by omega)]
        exact h (9 + 2 * j) (by omega) (by omega) (by omega)
      · intro h j hj h9 ho
        have := h ((j - 9) / 2) (by omega)
        rw [hp _ (by omega), ← hW _ (by omega), show 9 + 2 * ((j - 9) / 2) = j by omega] at this
        exact this
    refine Nd.ext_of ?_ (fun i hi => ?_) (fun i hi => ?_)
    · rw [show (N.tr (N.len + 1) N.len).hd = N.hd from rfl, hh, hh', wAt_map _ (by omega), wAt_map _ (by omega), wAt_map _ (by omega), wAt_map _ (by omega), ← hW 1 (by omega), ← hW 2 (by omega), ← hW 3 (by omega), ← hW 4 (by omega)]
      unfold fullC
      rw [if_neg (by omega), if_neg (by omega), if_pos rfl, if_neg (by omega), full_low (by omega) (by omega), full_low (by omega) (by omega), full_low (by omega) (by omega)]
    · rw [hk' _ hi, Nd.tr_key _ _ _ hi, hk _ hi, wAt_map _ (by omega), ← hW _ (by omega)]
      unfold fullC full
      rw [if_neg (by omega)]
      have := hf i (by omega) (8 + 2 * i) (.inl rfl)
      by_cases h : i ≤ N.len
      · rw [if_pos ⟨by omega, this.2 h⟩, if_pos (by omega)]
      · rw [if_neg (fun hh => h (this.1 hh.2)), if_neg (by omega)]
    · rw [hp' _ hi, Nd.tr_ptr _ _ _ hi, hp _ hi, wAt_map _ (by omega), ← hW _ (by omega)]
      unfold fullC full
      rw [if_neg (by omega)]
      have := hf i (by omega) (9 + 2 * i) (.inr rfl)
      by_cases h : i ≤ N.len
      · rw [if_pos ⟨by omega, this.2 h⟩]
        by_cases h' : i < N.len
        · rw [if_pos h']
        · rw [if_neg h', hW _ (by omega), ← hp i hi, show i = N.len by omega]
          exact N.len_at (by omega)
      · rw [if_neg (fun hh => h (this.1 hh.2)), if_neg (by omega)]
  · rw [if_neg hl, if_neg hl]
    dsimp only
    rw [zeroNd_tr]
end Go.Proofs.YtiefgmibgdidpaaGreatDoor
/- A snapshot in a memory in which nobody stores: its steps, its node, its high bound; conditions: its state is such as it can have. -/
namespace Go.Proofs.YtiefgmibgdidpaaGreatDoor
open Go.RowKit
set_option linter.unusedVariables false
structure SnAt (W0 wr : World) (y : Lay) (g : Nat) (s s' : St) (n : Nat) (S : SS) : Prop where
  ex : ∃ y', MemAt wr y' s' ∧ RT W0 wr y y' g
  sn : SnapAt wr g (some ⟨y.g, 0, none⟩) S
  nls : s'.nl = s.nl
  vw : s'.view = s.view
  lds : Lds s.nl n s'
  sep : ¬ y.fp g
  lt : g < W0.heap.size
theorem sn_sep {W0 wr : World} {y y' : Lay} {g : Nat} (h : RT W0 wr y y' g) (sep : ¬ y.fp g) (lt : g < W0.heap.size) : ¬ y'.fp g := fun hf => by
  rcases h.fp g hf with h1 | h1
  · exact sep h1
  · omega
section
variable {W0 wr : World} {y : Lay} {g n : Nat} {s s' : St} {S : SS}
theorem SnAt.below (h : SnAt W0 wr y g s s' n S) {W : World} (hb : Below wr.heap.size wr W) : SnAt W0 W y g s s' n S := by
  obtain ⟨⟨y', hm, ht⟩, ⟨cs, hr, hs⟩, h3, h4, h5, h6, h7⟩ := h
  exact ⟨⟨y', hm.below hb, ht.trans (RT.of_below y' g hb)⟩, ⟨cs, hr.below hb hr.lt, hs⟩, h3, h4, h5, h6, h7⟩
theorem SnAt.val (h : SnAt W0 wr y g s s' n S) (A : Nat) : ldV s' A = ldV s A ∧ ldK s' A = ldK s A := by
  unfold ldV ldK
  rw [h.nls, h.vw]
  exact ⟨rfl, rfl⟩
theorem SnAt.step (h : SnAt W0 wr y g s s' n S) (hn : n ≤ 1000000) (G : S.Good) :
    Calls Tryz.prog 90 #[.pointer (some ⟨g, 0, none⟩)] wr fun e w' => e = .returned (.tuple #[.bool (S.go (ldV s) (ldK s)).d, .int .i64 (S.go (ldV s) (ldK s)).k]) ∧ SnAt W0 w' y g s (ldS s' S.ask) (n + 1) (S.go (ldV s) (ldK s)) := by
  have hv := h.val S.ask
  obtain ⟨⟨y', hm, ht⟩, hsn, h3, h4, h5, h6, h7⟩ := h
  rw [← ht.g] at hsn
  refine (sstep_any hm h5.ok hsn (sn_sep ht h6 h7) G).mono ?_
  rintro e w' ⟨rfl, y2, hm2, hsn2, ht2⟩
  rw [hv.1, hv.2] at hsn2 ⊢
  rw [ht.g] at hsn2
  refine ⟨rfl, ⟨y2, hm2, ht.trans ht2⟩, hsn2, ?_, ?_, h5.load hn _, h6, h7⟩
  · unfold ldS
    split <;> exact h3
  · unfold ldS
    split <;> exact h4
theorem SnAt.refusal (h : SnAt W0 wr y g s s' n S) (h0 : 0 < s.nl) : ∀ W, Below wr.heap.size wr W → Calls Tryz.prog 72 #[.pointer (some ⟨g, 0, none⟩)] W fun e w' => e = .returned (.int .i64 (if S.d = true then S.k else 7)) ∧ W = w' := by
  intro W hb
  obtain ⟨⟨y', hm, ht⟩, ⟨cs, hr, hs⟩, h3, h4, h5, h6, h7⟩ := h.below hb
  have hz := size_yes hm
  rw [ht.g] at hz
  have := snRefusal_any hr hs.c0 hs.c1 hs.c2 hs.c3 hz
  have e : refK false S.d S.k ((64 * s'.nl : Nat) : Int) = if S.d = true then S.k else 7 := by
    unfold refK
    rw [if_neg (by simp)]
    split
    · rfl
    · rw [if_neg (by rw [h3]; omega)]
  rw [e] at this
  exact this
theorem SnAt.node (h : SnAt W0 wr y g s s' n S) (h0 : 0 < s.nl) : ∀ W, Below wr.heap.size wr W → Calls Tryz.prog 45 #[.pointer (some ⟨g, 0, none⟩)] W fun e w' => e = .returned (.tuple #[S.n.V, .int .i64 (if S.d = true then S.k else 7)]) ∧ Below W.heap.size W w' := by
  intro W hb
  have h' := h.below hb
  have hrf := h'.refusal h0
  obtain ⟨_, ⟨cs, hr, hs⟩, _, _, _, _, _⟩ := h'
  exact snNode_any hr hs hrf
theorem SnAt.high (h : SnAt W0 wr y g s s' n S) (h0 : 0 < s.nl) : ∀ W, Below wr.heap.size wr W → Calls Tryz.prog 22 #[.pointer (some ⟨g, 0, none⟩)] W fun e w' => e = .returned (.tuple #[.int .u64 (hiV (if S.d = true then S.k else 7) S.lo S.n), .bool (hiB (if S.d = true then S.k else 7) S.n)]) ∧ Below W.heap.size W w' := by
  intro W hb
  have h' := h.below hb
  obtain ⟨_, ⟨cs, hr, hs⟩, _, _, _, _, _⟩ := h'
  exact snHigh_of ((h.below hb).node h0 W (Below.refl _ _)) (fun _ => ⟨g, rfl, (hr.cell 55).trans hs.cl⟩)
theorem SnAt.nodeD (h : SnAt W0 wr y g s s' n S) (h0 : 0 < s.nl) {k : Int} {N : Nd} (hd : S.d = true) (hk : S.k = k) (hN : S.n = N) : ∀ W, Below wr.heap.size wr W → Calls Tryz.prog 45 #[.pointer (some ⟨g, 0, none⟩)] W fun e w' => e = .returned (.tuple #[N.V, .int .i64 k]) ∧ Below W.heap.size W w' := by
  intro W hb
  have := h.node h0 W hb
  rw [if_pos hd, hk, hN] at this
  exact this
theorem SnAt.high0 (h : SnAt W0 wr y g s s' n S) (h0 : 0 < s.nl) {k : Int} {N : Nd} (hd : S.d = true) (hk : S.k = k) (hN : S.n = N) (hx : k ≠ 0 ∨ N.nx = 0) : ∀ W, Below wr.heap.size wr W → Calls Tryz.prog 22 #[.pointer (some ⟨g, 0, none⟩)] W fun e w' => e = .returned (.tuple #[.int .u64 0, .bool false]) ∧ Below W.heap.size W w' := by
  intro W hb
  have := h.high h0 W hb
  have hn : ¬ (k = 0 ∧ N.nx ≠ 0) := fun ⟨a, b⟩ => hx.elim (fun h => h a) (fun h => b h)
  rw [if_pos hd, hk, hN] at this
  unfold hiV hiB at this
  rw [if_neg hn, if_neg hn] at this
  exact this
/-- What lies elsewhere stays. -/
theorem SnAt.keep (h : SnAt W0 wr y g s s' n S) {k : Nat} (hk : k < W0.heap.size) (h1 : ¬ y.fp k) (h2 : k ≠ g) : wr.heap[k]? = W0.heap[k]? := by
  obtain ⟨⟨y', hm, ht⟩, _, _, _, _, _, _⟩ := h
  exact ht.but.block k hk (fun e => e.elim h1 h2)
theorem SnAt.low (h : SnAt W0 wr y g s s' n S) {B : Nat} (hB : B ≤ W0.heap.size) (h1 : ∀ k, y.fp k → B ≤ k) (h2 : B ≤ g) : Below B W0 wr := by
  obtain ⟨⟨y', hm, ht⟩, _, _, _, _, _, _⟩ := h
  exact ht.but.below hB (fun k hk => hk.elim (h1 k) (fun e => by omega))
/-- Where the memory lies now. -/
theorem SnAt.now (h : SnAt W0 wr y g s s' n S) : ∃ y', MemAt wr y' s' ∧ y'.g = y.g ∧ ∀ k, y'.fp k → y.fp k ∨ W0.heap.size ≤ k := by
  obtain ⟨⟨y', hm, ht⟩, _, _, _, _, _, _⟩ := h
  exact ⟨y', hm, ht.g, ht.fp⟩
theorem ldV_in (ok : s.Ok) (A : Nat) : 0 ≤ ldV s A ∧ ldV s A < 18446744073709551616 := by
  unfold ldV
  split
  · rw [List.getD_eq_getElem?_getD]
    cases e : s.view[A / 8]? with
    | none => exact ⟨by simp, by simp⟩
    | some x =>
      have := ok.vie x (List.mem_of_getElem? e)
      simp only [Option.getD_some]
      omega
  · omega
theorem ldK_is (s : St) (A : Nat) : ldK s A = 0 ∨ ldK s A = 3 := by
  unfold ldK
  split <;> simp
end
/-- As long as it isn't done. -/
theorem it_good {V K : Nat → Int} (hV : ∀ A, 0 ≤ V A ∧ V A < 18446744073709551616) {S : SS} (G : S.Good) : ∀ t, (∀ u, u ≤ t → (SS.it V K u S).d = false) → (SS.it V K t S).Good
  | 0, _ => G
  | t + 1, h => by
    have := it_good hV G t (fun u hu => h u (by omega))
    exact SS.next_good this (hV _) (h (t + 1) (Nat.le_refl _))
theorem next_k {S : SS} {v kk : Int} (h : (S.next v kk).d = false) : (S.next v kk).k = 0 := by
  obtain ⟨ph, d, k, a, r, wh, wd, lo, n⟩ := S
  cases ph with
  | bg => simpa [SS.next] using h
  | rd => simpa [SS.next] using h
  | lw => simpa [SS.next] using h
  | en =>
    simp only [SS.next, Bool.or_eq_false_iff] at h ⊢
    simpa using h.2
/-- A new snapshot in a memory. -/
theorem SnAt.new {w : World} {y : Lay} {s : St} {n a : Nat} (hm : MemAt w y s) (hl : Lds s.nl n s) : 
    SnAt (w.alloc (.cells (zeroS (some ⟨y.g, 0, none⟩) (nextV 89 w.heap.size) a).toArray 123)) (w.alloc (.cells (zeroS (some ⟨y.g, 0, none⟩) (nextV 89 w.heap.size) a).toArray 123)) y w.heap.size s s n (SS.new a) :=
  ⟨⟨y, hm.below (alloc_below _ _), RT.of_below y _ (Below.refl _ _)⟩, ⟨_, Row.new _ _ _, zeroS_is _ _ _⟩, rfl, rfl, hl, fun hf => by have := hm.lt _ hf; omega, by simp⟩
end Go.Proofs.YtiefgmibgdidpaaGreatDoor
/- The chapter's row, of the law; no conditions. -/
namespace Go.Proofs.YtiefgmibgdidpaaGreatDoor
open Go.RowKit
set_option linter.unusedVariables false
attribute [local go_sem] Oper.semAt_some
theorem show_loadN {P : Program} {ops : Array Oper} {rest : List Oper} {Q : Exit → Act → World → Prop} {d : Option Nat} {t2 : TypeId} {x : Operand} {ps : String} {af : Array Edge} {g : Option (Nat × Bool)} {a : Act} {w : World} (h : wpList P ops Q (⟨d, .load 35 x, t2, ps, af, g⟩ :: rest) a w) : wpList P ops Q (⟨d, .load 35 x, t2, ps, af, g⟩ :: rest) a w := h
theorem show_storeN {P : Program} {ops : Array Oper} {rest : List Oper} {Q : Exit → Act → World → Prop} {d : Option Nat} {t2 : TypeId} {x y : Operand} {ps : String} {af : Array Edge} {a : Act} {w : World} (h : wpList P ops Q (⟨d, .store 35 x y, t2, ps, af, none⟩ :: rest) a w) : wpList P ops Q (⟨d, .store 35 x y, t2, ps, af, none⟩ :: rest) a w := h
end Go.Proofs.YtiefgmibgdidpaaGreatDoor
