/- Texts of this claim, packed: R6Of. -/
import Derived.Test.YtahojhaeebmpoaaGreatDoorPk34
import Derived.Test.YtahojhaeebmpoaaGreatDoorPk31
import Derived.Test.YtahojhaeebmpoaaGreatDoorPk04
import Derived.Test.YtahojhaeebmpoaaGreatDoorPk32
import Derived.Deep.RegionLaw
import Derived.Deep.AppendLies
/- The document's blocks of an arena's bytes: what Of answers, and what lies in memory then. -/
namespace Go.Proofs.YtahojhaeebmpoaaGreatDoor
open Go.RowKit Go.Sort
set_option linter.unusedVariables false
theorem own_block {w w' : World} {B n k : Nat} {e : TypeId} {v : Value} {xs : List Value} (h : w.ownsRow B e k v n xs) (hk : ∀ g, v.ownBlock = some g → w'.heap[g]? = w.heap[g]?) : w'.ownsRow B e k v n xs := by
  refine ⟨h.1, ?_⟩
  rcases h.2 with h0 | ⟨g, cap, cur, rfl, hg, hh, hr⟩
  · exact .inl h0
  · exact .inr ⟨g, cap, cur, rfl, hg, (hk g rfl).trans hh, hr⟩
theorem own_tag {w : World} {B n k : Nat} {e : TypeId} {v : Value} {xs : List Value} (h : w.ownsRow B e k v n xs) {g : Nat} (hg : v.ownBlock = some g) : Tag w g e := by
  rcases h.2 with ⟨rfl, _⟩ | ⟨g', cap, cur, rfl, _, hh, _⟩
  · cases hg
  · cases hg; exact ⟨_, _, hh⟩
theorem own_grown {w w' : World} {B n k : Nat} {e : TypeId} {v : Value} {xs : List Value} {row : Option Nat} (h : w.ownsRow B e k v n xs) (hb : w.grownBy w' row) (hn : ∀ g, v.ownBlock = some g → some g ≠ row) : w'.ownsRow B e k v n xs :=
  own_block h fun g hg => hb.block g (by obtain ⟨_, _, h⟩ := own_tag h hg; exact heap_lt h) (hn g hg)
theorem own_setc {w : World} {B n k : Nat} {e : TypeId} {v : Value} {xs : List Value} (h : w.ownsRow B e k v n xs) {p : Addr} (u : Value) (hn : ∀ g, v.ownBlock = some g → g ≠ p.block) : (w.setCell p u).ownsRow B e k v n xs :=
  own_block h fun g hg => heap_setCell_other _ _ _ _ (hn g hg)
theorem own_low {w w' : World} {B C n k : Nat} {e : TypeId} {v : Value} {xs : List Value} (h : w.ownsRow B e k v n xs) (hb : Below w.heap.size w w') : w'.ownsRow B e k v n xs :=
  own_block h fun g hg => hb.block g (by obtain ⟨_, _, h⟩ := own_tag h hg; exact heap_lt h)
theorem own_base {w : World} {B n k : Nat} {e : TypeId} {v : Value} {xs : List Value} (h : w.ownsRow B e k v n xs) {g : Nat} (hg : v.ownBlock = some g) : B ≤ g := by
  rcases h.2 with ⟨rfl, _⟩ | ⟨g', cap, cur, rfl, hb, _⟩
  · cases hg
  · cases hg; exact hb
/-- Blocks as cells. -/
def flatB (l : List (Nat × Nat)) : List Value := l.flatMap fun p => [wv p.1, jv p.2]
theorem flatB_len (l : List (Nat × Nat)) : (flatB l).length = 2 * l.length := by
  unfold flatB
  induction l with
  | nil => rfl
  | cons a t ih => simp [List.flatMap_cons, ih]; omega
theorem flatB_snoc (l : List (Nat × Nat)) (p : Nat × Nat) : flatB (l ++ [p]) = flatB l ++ [wv p.1, jv p.2] := by simp [flatB]
/-- The document's world, as it lies: its size, the slabs' classes, the blocks that are not free. -/
structure W6At (w : World) (B gw size : Nat) (cls : List Nat) (L : List (Nat × Nat)) (vc vl : Value) : Prop where
  row : Row w gw 69 #[jv size, vc, vl]
  cls : w.ownsRow B 3 1 vc cls.length (cls.map jv)
  bl : w.ownsRow B 99 2 vl L.length (flatB L)
  low : B ≤ gw
theorem W6At.below {w w' : World} {B gw size : Nat} {cls : List Nat} {L : List (Nat × Nat)} {vc vl : Value} (h : W6At w B gw size cls L vc vl) (hb : Below w.heap.size w w') : W6At w' B gw size cls L vc vl :=
  ⟨h.row.below hb h.row.lt, own_low (C := 0) h.cls hb, own_low (C := 0) h.bl hb, h.low⟩
def clsK (l : List Nat) (q : Nat) : List Nat := (List.range q).map (hcW l)
def blsK (l : List Nat) (p : Nat) (ks : List Nat) : List (Nat × Nat) := ks.map fun k => (adr (p + 1) (hcW l p) k, 2)
def LK (l : List Nat) (q : Nat) : List (Nat × Nat) := (List.range q).flatMap fun p => blsK l p (upB (hbW l p) 64)
theorem clsK_succ (l : List Nat) (q : Nat) : clsK l (q + 1) = clsK l q ++ [hcW l q] := by unfold clsK; rw [List.range_succ, List.map_append]; rfl
theorem LK_succ (l : List Nat) (q : Nat) : LK l (q + 1) = LK l q ++ blsK l q (upB (hbW l q) 64) := by unfold LK; rw [List.range_succ, List.flatMap_append]; simp
theorem clsK_len (l : List Nat) (q : Nat) : (clsK l q).length = q := by simp [clsK]
theorem LK_len (l : List Nat) (q : Nat) : (LK l q).length ≤ 64 * q := by
  induction q with
  | zero => exact Nat.le_refl _
  | succ q ih =>
    rw [LK_succ, List.length_append]
    have h1 := upB_len (hbW l q) 64
    have h2 : (blsK l q (upB (hbW l q) 64)).length = (upB (hbW l q) 64).length := by simp [blsK]
    omega
theorem hcW_eq (l : List Nat) (q : Nat) : hcW l q = ofB ((l.drop (1024 * (q + 1))).take 8) ∧ hbW l q = ofB ((l.drop (1024 * (q + 1) + 8)).take 8) := by
  unfold hcW hbW pw
  rw [List.take_of_length_le (Nat.le_refl _)]
  exact ⟨by rw [show 8 * (128 * (q + 1)) = 1024 * (q + 1) from by omega], by rw [show 8 * (128 * (q + 1) + 1) = 1024 * (q + 1) + 8 from by omega]⟩
theorem W6At.pushB {W w1 : World} {B gw size : Nat} {cls : List Nat} {L : List (Nat × Nat)} {vc : Value} {A : Option Addr} {NL cl g cap : Nat} {p : Nat × Nat} (h : W6At W B gw size cls L vc (.slice A NL cl)) (hn : L.length = NL)
    (hown : w1.ownsRow B 99 2 (.slice (some ⟨g, 0, none⟩) (NL + 1) cap) (NL + 1) (flatB L ++ [wv p.1, jv p.2])) (hgrow : W.grownBy w1 (Value.slice A NL cl).ownBlock) :
    W6At (w1.setCell ⟨gw, 2, none⟩ (.slice (some ⟨g, 0, none⟩) (NL + 1) cap)) B gw size cls (L ++ [p]) vc (.slice (some ⟨g, 0, none⟩) (NL + 1) cap) := by
  have hne : ∀ g, (Value.slice A NL cl).ownBlock = some g → g ≠ gw := fun g hg => tagNe (own_tag h.bl hg) h.row.tag (by decide)
  have hr : Row w1 gw 69 _ := h.row.grown hgrow (fun e => hne gw e.symm rfl)
  have hc := own_grown h.cls hgrow (fun g hg e => tagNe (own_tag h.cls hg) (own_tag h.bl e.symm) (by decide) rfl)
  refine ⟨hr.set 2 _, own_setc hc _ (fun g hg => tagNe (own_tag hc hg) hr.tag (by decide)), ?_, h.low⟩
  rw [List.length_append, hn, flatB_snoc]
  exact own_setc hown _ (fun g hg => tagNe (own_tag hown hg) hr.tag (by decide))
theorem blsK_succ (l : List Nat) (q k : Nat) (ks : List Nat) (h : k < ks.length) : blsK l q (ks.take (k + 1)) = blsK l q (ks.take k) ++ [(adr (q + 1) (hcW l q) (gd ks k), 2)] := by
  unfold blsK
  rw [List.take_add_one, List.map_append, List.getElem?_eq_getElem h]
  simp [gd, List.getD_eq_getElem?_getD, h]
def R6Post (w : World) (l : List Nat) (n : Nat) (e : Ending) (w' : World) : Prop :=
  (okHeads l n ∧ ∃ gw vc vl, e = .returned (.tuple #[fpt gw, .int .i64 0]) ∧ W6At w' w.heap.size gw l.length (clsK l n) (LK l n) vc vl ∧ Below w.heap.size w w') ∨
  (¬ okHeads l n ∧ e = .returned (.tuple #[.pointer none, .int .i64 6]) ∧ Below w.heap.size w w')
def R6R (w : World) (l : List Nat) (n gw : Nat) (v : Value) (wr : World) : Prop :=
  ∃ q : Nat, q ≤ n ∧ v = .int .i64 ((q : Int) + 1) ∧ (∃ vc vl, W6At wr w.heap.size gw l.length (clsK l q) (LK l q) vc vl) ∧ Below w.heap.size w wr ∧ ∀ p, p < q → okHead (hcW l p) (hbW l p) = true
def R6I (w : World) (l : List Nat) (q gw B2 : Nat) (vb : Value) (v : Value) (wr : World) : Prop :=
  ∃ k : Nat, k ≤ (upB (hbW l q) 64).length ∧ v = .int .i64 (k : Int) ∧ (∃ vc vl, W6At wr w.heap.size gw l.length (clsK l (q + 1)) (LK l q ++ blsK l q ((upB (hbW l q) 64).take k)) vc vl) ∧ Below w.heap.size w wr ∧ wr.ownsRow B2 3 1 vb (upB (hbW l q) 64).length ((upB (hbW l q) 64).map ivn)
/-- A call of a function of one answer that leaves the world be, as one step of a region that draws its order. -/
theorem step_call {P : Program} {ops : Array Oper} {o : Oper} {a : Act} {w : World} {K : Act → World → Prop} {Q : Exit → Act → World → Prop} {E : Prop} (hg : o.guard = none) (f : FuncId) (eg : ∀ args w, (callFunc f args).run P w = .ok (.enter f args) w) (x1 x2 x3 : Operand) (ts : Array TypeId)
    (ho : o.op = .call { callee := .value (.func f), args := #[x1, x2, x3], argTypes := ts }) (v1 v2 v3 v : Value) (h1 : a.eval x1 = v1) (h2 : a.eval x2 = v2) (h3 : a.eval x3 = v3) (h : Calls P f #[v1, v2, v3] w fun e w' => e = .returned v ∧ w = w')
    (hK : K (a.put o.dst v) w) : if Region.wanted o (yielded ops a.tmps) = true then Oper.wp P o a w K Q else E := by
  have hw : Region.wanted o (yielded ops a.tmps) = true := by simp [Region.wanted, hg]
  rw [if_pos hw]
  unfold Oper.wp
  have e0 : a.eval (.func f) = .func (.func f) #[] #[] := rfl
  have : (execOp a.eval o).run P w = .ok (.enter f #[v1, v2, v3]) w := by
    simp [execOp, ho, resolve, invoke, e0, Deferred.ofValue, eg, h1, h2, h3]
  rw [this, Oper.upon_enter]
  refine h.mono ?_
  rintro e w' ⟨rfl, rfl⟩
  exact hK
theorem info_block6 : (Tryz.prog.info? 99).map (fun i => (i.zero, i.size, i.bytes)) = some (some (.agg #[.int .u64 0, .int .i64 0]), 2, 16) := by kernel_rfl
set_option maxRecDepth 100000 in
set_option maxHeartbeats 3200000 in
theorem r6Of_yes {w : World} {a : Addr} {cap n : Nat} {l : List Nat} (hl : l.length = 1024 * (n + 1)) (hA : Sl w (some a) (l.map bv)) (hb : ∀ x ∈ l, x < 256) (h0 : 0 < n) (h1 : n ≤ 64) :
    Calls Tryz.prog 10 #[.slice (some a) (1024 * (n + 1)) cap] w (R6Post w l n) := by
  have mixed : Tryz.prog.follows .mixedOrders = true := by kernel_rfl
  have HS := Lib.hid (refSlabs_any ((1024 * (n + 1) : Nat) : Int) w)
  rw [show slabsN ((1024 * (n + 1) : Nat) : Int) = (n : Int) from by unfold slabsN; rw [if_pos (by omega)]; omega] at HS
  obtain ⟨Z, hZ⟩ : ∃ Z, Z = 1024 * (n + 1) := ⟨_, rfl⟩
  rw [← hZ] at HS ⊢
  have hz : ((n : Int) == 0) = false := by rw [Bool.eq_false_iff]; intro k; have := beq_iff_eq.1 k; omega
  have HT := Lib.hid (show ∀ (W : World) (q : Nat), q < n → Below w.heap.size w W → Calls Tryz.prog 40 #[.slice (some a) Z cap, .int .i64 (1024 * ((q : Int) + 1))] W (fun e w' => e = .returned (wv (hcW l q)) ∧ W = w') ∧ Calls Tryz.prog 40 #[.slice (some a) Z cap, .int .i64 (1024 * ((q : Int) + 1) + 8)] W (fun e w' => e = .returned (wv (hbW l q)) ∧ W = w') from fun W q hq hbW' => by
    have hs := hA.below hbW'
    obtain ⟨e1, e2⟩ := hcW_eq l q
    have t1 := r1Take_any l a Z cap (1024 * (q + 1)) W (by omega) (by omega) (by omega) hb hs
    have t2 := r1Take_any l a Z cap (1024 * (q + 1) + 8) W (by omega) (by omega) (by omega) hb hs
    rw [← e1, show ((1024 * (q + 1) : Nat) : Int) = 1024 * ((q : Int) + 1) from by omega] at t1
    rw [← e2, show ((1024 * (q + 1) + 8 : Nat) : Int) = 1024 * ((q : Int) + 1) + 8 from by omega] at t2
    exact ⟨t1, t2⟩)
  have HB := Lib.hid hb
  have HL := Lib.hid (show l.length = Z by omega)
  have HZ := Lib.hid hZ
  have hZB : Z ≤ 66560 := by omega
  clear hA hl hb hZ
  go_enter Tryz.func10, Tryz.ntmps10
  go_wp2_with fail
  refine HS.out.mono ?_
  rintro e w1 ⟨rfl, rfl⟩
  go_upto_region 6 with (fail)
  obtain ⟨W1, hW1⟩ : ∃ W1, W1 = w.alloc (.cells #[.int .i64 (Z : Int), .slice none 0 0, .slice none 0 0] 69) := ⟨_, rfl⟩
  rw [← hW1]
  obtain ⟨gw, hgw⟩ : ∃ gw, gw = w.heap.size := ⟨_, rfl⟩
  rw [← hgw]
  have HST := Lib.hid (show R6R w l n gw (.int .i64 1) W1 from by
    refine ⟨0, Nat.zero_le _, rfl, ⟨.slice none 0 0, .slice none 0 0, ?_, World.ownsRow_nil _ _ _ _, World.ownsRow_nil _ _ _ _, by omega⟩, by rw [hW1]; exact alloc_below _ _, fun p hp => by omega⟩
    rw [hW1, hgw, HL.out]
    exact Row.new _ _ _)
  have HGW := Lib.hid (show w.heap.size ≤ gw by omega)
  clear hW1 hgw
  obtain ⟨i0, hi, hz0, hz1, hz2⟩ := info_parts infoI
  obtain ⟨j0, hj, hy0, hy1, hy2⟩ := info_parts info_block6
  have HMAY := Lib.hid fun (b : Nat) (hb : b < 18446744073709551616) (n : Int) (W : World) => rMay_any hb n W
  have HBL := Lib.hid fun (c : Int) (W : World) => refBlocks_any c W
  go_loopw [6] (fun v wr => R6R w l n gw v wr) (fun v _ => (n + 1 - (intOf v).toNat))
  case atStart => exact HST.out
  case round =>
    obtain ⟨q, hq, rfl, ⟨vc, vl, hw6⟩, hb, hok⟩ := hrel
    rename World => wr
    have HW6 := Lib.hid hw6
    have HBW := Lib.hid hb
    have HOK := Lib.hid hok
    clear hw6 hb hok HST
    by_cases hlt : q < n
    · obtain ⟨t1, t2⟩ := HT.out wr q hlt HBW.out
      have hcf : hcW l q < 18446744073709551616 := pw_fit HB.out _ _
      have hbf : hbW l q < 18446744073709551616 := pw_fit HB.out _ _
      obtain ⟨c, hc⟩ : ∃ c, c = hcW l q := ⟨_, rfl⟩
      obtain ⟨b, hbe⟩ : ∃ b, b = hbW l q := ⟨_, rfl⟩
      rw [← hc] at t1 hcf
      rw [← hbe] at t2 hbf
      unfold wv at t1 t2
      have T1 := Lib.hid t1
      have T2 := Lib.hid t2
      have HC := Lib.hid hc
      have HBE := Lib.hid hbe
      have HMB := Lib.hid fun (W : World) => HMAY.out b hbf (blN c : Int) W
      have HRB := Lib.hid fun (W : World) => rBits_any hbf W
      have hle : (q : Int) + 1 ≤ (n : Int) := by omega
      have hcN : (c : Int) < 18446744073709551616 := by omega
      clear t1 t2 hc hbe hbf hcf
      by_cases hc3 : c ≤ 3
      · have d1 : decide (3 < (c : Int)) = false := by simp; omega
        have hw1 : IntKind.i64.wrap (c : Int) = (c : Int) := IntWalk.i64_in _ (by omega)
        have HB3 := Lib.hid fun (W : World) => HBL.out (c : Int) W
        rw [blN_C] at HB3
        obtain ⟨m, hm⟩ : ∃ m, m = blN c := ⟨_, rfl⟩
        rw [← hm] at HB3 HMB
        have HM := Lib.hid hm
        clear hm
        cases hmay : mayS b (m : Int) with
        | false =>
          rw [hmay] at HMB
          unfold wv at HMB
          have HE := Lib.hid (show ¬ okHeads l n from fun h => by
            have h2 := h q hlt
            rw [← HC.out, ← HBE.out] at h2
            unfold okHead at h2
            rw [← HM.out, hmay, Bool.and_false] at h2
            cases h2)
          clear hmay
          go_wp2_with fail
          refine T1.out.mono ?_
          rintro e w' ⟨rfl, rfl⟩
          go_wp2_with fail
          refine T2.out.mono ?_
          rintro e w' ⟨rfl, rfl⟩
          go_wp2_with fail
          refine (HB3.out _).mono ?_
          rintro e w' ⟨rfl, rfl⟩
          go_wp2_with fail
          refine (HMB.out _).mono ?_
          rintro e w3 ⟨rfl, hb3⟩
          have HB4 := Lib.hid (Below.and HBW.out hb3)
          clear hb3
          go_wp2
          go_ret2
          exact .inr ⟨HE.out, rfl, HB4.out⟩
        | true =>
          rw [hmay] at HMB
          unfold wv at HMB
          have HMT := Lib.hid (show ∀ x ∈ upB b 64, x < blN c from fun x hx => by
            unfold mayS at hmay
            have := (of_decide_eq_true hmay) x hx
            have := HM.out
            omega)
          have HOQ := Lib.hid (show okHead (hcW l q) (hbW l q) = true from by
            rw [← HC.out, ← HBE.out]
            unfold okHead
            rw [← HM.out, hmay, decide_eq_true hc3]; rfl)
          clear hmay
          go_wp2_with fail
          refine T1.out.mono ?_
          rintro e w' ⟨rfl, rfl⟩
          go_wp2_with fail
          refine T2.out.mono ?_
          rintro e w' ⟨rfl, rfl⟩
          go_wp2_with fail
          refine (HB3.out _).mono ?_
          rintro e w' ⟨rfl, rfl⟩
          go_wp2_with fail
          refine (HMB.out _).mono ?_
          rintro e w3 ⟨rfl, hb3⟩
          have HW3 := Lib.hid (HW6.out.below hb3)
          have HB4 := Lib.hid (Below.and HBW.out hb3)
          clear hb3
          have ho := HW3.out.cls
          rw [clsK_len] at ho
          obtain ⟨Av, cv, rfl, hqc, hcm, _, _⟩ := own_sl ho
          have c1 := HW3.out.row.cell 1
          simp only [List.getElem?_toArray, List.getElem?_cons_succ, List.getElem?_cons_zero] at c1
          have HO := Lib.hid ho
          clear ho HW6
          have hq64 : q ≤ 64 := by omega
          go_wp2_with (at_builtin; refine wpList_append_own _ rfl _ _ 47 rfl w.heap.size 3 i0 (.int .i64 0) 1 8 Tryz.underlying47 hi hz0 hz1 hz2 rfl (by decide) _ _ _ rfl (HO.out.alloc _) ⟨w3.heap.size, 0, none⟩ 1 1 [jv c] rfl rfl ?qc1 ?qc2 ?qc3 ?qc4 ?qc5 ?_)
          case qc1 => intro j u hj; cases j with
            | zero => rw [add_zero']; simp at hj; subst hj; simp [jv]
            | succ j => simp at hj
          case qc2 => intro u hu; simp at hu; subst hu; rfl
          case qc3 => unfold maxLen; omega
          case qc4 => omega
          case qc5 => have := HB4.out.size; simp; omega
          intro v' w4 hown hgrow hnil
          have hr3 := HW3.out.row.alloc (.cells #[.int .i64 (c : Int)] 3)
          have hneq : ∀ g, (Value.slice Av q cv).ownBlock = some g → g ≠ gw := fun g hg => tagNe (own_tag (HO.out.alloc (.cells #[.int .i64 (c : Int)] 3)) hg) hr3.tag (by decide)
          have hr4 : Row w4 gw 69 _ := hr3.grown hgrow (fun e => hneq gw e.symm rfl)
          have c1' := hr4.cell 1
          simp only [List.getElem?_toArray, List.getElem?_cons_succ, List.getElem?_cons_zero] at c1'
          have f1 := hr4.free 1
          have hneq2 : ∀ g, v'.ownBlock = some g → g ≠ gw := fun g hg => tagNe (own_tag hown hg) hr4.tag (by decide)
          have hbl3 := own_low (C := 0) HW3.out.bl (alloc_below w3 (.cells #[.int .i64 (c : Int)] 3))
          have hbl4 := own_grown hbl3 hgrow (fun g hg e => by
            have t1 := own_tag hbl3 hg
            have t2 := own_tag (HO.out.alloc (.cells #[.int .i64 (c : Int)] 3)) e.symm
            exact tagNe t1 t2 (by decide) rfl)
          have HW5 := Lib.hid (show W6At (w4.setCell ⟨gw, 1, none⟩ v') w.heap.size gw l.length (clsK l (q + 1)) (LK l q) v' vl from by
            refine ⟨hr4.set 1 v', ?_, own_setc hbl4 _ (fun g hg => tagNe (own_tag hbl4 hg) hr4.tag (by decide)), HGW.out⟩
            rw [clsK_len, clsK_succ, List.map_append, ← HC.out]
            exact own_setc hown _ hneq2)
          have HB5 := Lib.hid (show Below w.heap.size w (w4.setCell ⟨gw, 1, none⟩ v') from ((HB4.out.alloc HB4.out.size _).grown hgrow (by have := HB4.out.size; simp; omega) (fun k hk => own_from HO.out k hk)).setCell (p := ⟨gw, 1, none⟩) HGW.out _)
          obtain ⟨Aw, cw, hvs, _, _, _, _⟩ := own_sl hown
          clear hown hgrow hnil hr3 hneq hr4 hneq2 hbl3 hbl4 HW3 HB4 HO c1
          subst hvs
          go_wp2_with fail
          obtain ⟨W5, hW5⟩ : ∃ W5, W5 = w4.setCell ⟨gw, 1, none⟩ (.slice Aw (q + 1) cw) := ⟨_, rfl⟩
          rw [← hW5] at HW5 HB5 ⊢
          clear hW5
          have HRB5 := HRB.out W5
          unfold wv at HRB5
          refine HRB5.mono ?_
          rintro e w6 ⟨vb, rfl, hob, hb6⟩
          clear HRB5
          obtain ⟨Ab, cb, rfl, _, hcbm, hsb, _⟩ := own_sl hob
          have HOB := Lib.hid hob
          have HW6b := Lib.hid (HW5.out.below hb6)
          have HB6 := Lib.hid (Below.and HB5.out hb6)
          have hln := upB_len b 64
          have HL6 := Lib.hid (show (upB b 64).length = (upB (hbW l q) 64).length by rw [← HBE.out])
          obtain ⟨B2, hB2⟩ : ∃ B2, B2 = W5.heap.size := ⟨_, rfl⟩
          rw [← hB2] at HOB
          obtain ⟨L, hL⟩ : ∃ L, L = (upB b 64).length := ⟨_, rfl⟩
          rw [← hL] at HOB HL6 hln
          have HLL := Lib.hid hL
          rw [← hL]
          clear hob hb6 hsb hB2 hL c1' f1 HW5 HB5
          go_wp2
          go_loopw [10] (fun v wr2 => R6I w l q gw B2 (.slice Ab L cb) v wr2) (fun v _ => L - (intOf v).toNat)
          case atStart =>
            refine ⟨0, Nat.zero_le _, rfl, ⟨_, _, by rw [List.take_zero]; show W6At _ _ _ _ _ (LK l q ++ []) _ _; rw [List.append_nil]; exact HW6b.out⟩, HB6.out, ?_⟩
            rw [← HL6.out, ← HBE.out]
            exact HOB.out
          case round =>
            obtain ⟨k, hk, rfl, ⟨vc2, vl2, h6⟩, hb2, hob2⟩ := hrel
            rename World => wr2
            rw [← HL6.out] at hk hob2
            rw [← HBE.out] at hob2
            have H6 := Lib.hid h6
            have HB2 := Lib.hid hb2
            have HOB2 := Lib.hid hob2
            clear h6 hb2 hob2 HOB HW6b HB6
            by_cases hkt : k < L
            · obtain ⟨gb, hab⟩ : ∃ gb, Ab = some ⟨gb, 0, none⟩ := by
                rcases HOB2.out.2 with ⟨h0, _⟩ | ⟨g, cap', cur, h0, _⟩
                · cases h0; omega
                · cases h0; exact ⟨g, rfl⟩
              subst hab
              obtain ⟨t, ht⟩ : ∃ t, t = gd (upB b 64) k := ⟨_, rfl⟩
              have htm : t ∈ upB b 64 := by rw [ht]; exact gd_mem (by rw [← HLL.out]; exact hkt)
              have htb := HMT.out t htm
              have hct := own_cell HOB2.out (i := k) (by rw [← HLL.out]; exact hkt)
              rw [← ht] at hct
              have hbk := adr_blk (no := q + 1) (c := c) (j := t) (by omega) (by omega) htb
              have HBK := Lib.hid fun (W : World) => refBlock_any ((q : Int) + 1) (c : Int) (t : Int) W
              rw [show ((q : Int) + 1) = (((q + 1 : Nat)) : Int) from rfl, hbk] at HBK
              have hLl := LK_len l q
              have htl : (blsK l q ((upB (hbW l q) 64).take k)).length ≤ 64 := by
                have := upB_len (hbW l q) 64
                unfold blsK
                rw [List.length_map, List.length_take]; omega
              have ho := H6.out.bl
              obtain ⟨NL, hNL⟩ : ∃ NL, NL = (LK l q ++ blsK l q ((upB (hbW l q) 64).take k)).length := ⟨_, rfl⟩
              rw [← hNL] at ho
              have hnl : NL ≤ 100000 := by rw [hNL, List.length_append]; omega
              obtain ⟨Al, cl, rfl⟩ : ∃ A c, vl2 = .slice A NL c := by
                rcases ho.2 with ⟨rfl, h0⟩ | ⟨g, cap', cur, rfl, _⟩
                · exact ⟨_, _, by rw [h0]⟩
                · exact ⟨_, _, rfl⟩
              have c2 := H6.out.row.cell 2
              simp only [List.getElem?_toArray, List.getElem?_cons_succ, List.getElem?_cons_zero] at c2
              unfold ivn at hct
              have cb' := hct
              have HO2 := Lib.hid fun (W : World) (hb : Below wr2.heap.size wr2 W) => own_low (C := 0) ho hb
              have HT6 := Lib.hid ht
              obtain ⟨AD, hAD⟩ : ∃ AD, AD = adr (q + 1) c t := ⟨_, rfl⟩
              rw [← hAD] at HBK
              have HAD := Lib.hid hAD
              rw [show (((q + 1 : Nat)) : Int) = (q : Int) + 1 from rfl] at HBK
              have HNL := Lib.hid hNL
              clear ho ht htm htb hct hbk hLl htl hNL c2 hAD
              go_wp2_with fail
              clear HRB HMB HMAY HBL HT
              have EG := Lib.hid (show ∀ args w, (callFunc 42 args).run Tryz.prog w = .ok (.enter 42 args) w from enters_of Tryz.func42 (by kernel_rfl) rfl)
              have C2 := H6.out.row.cell 2
              simp only [List.getElem?_toArray, List.getElem?_cons_succ, List.getElem?_cons_zero] at C2
              have F2 := H6.out.row.free 2
              have HNB := Lib.hid fun (o : Obj) => Below.and (alloc_below wr2 o) (drew_below _)
              have hne : ∀ g, (Value.slice Al NL cl).ownBlock = some g → g ≠ gw := fun g hg => tagNe (own_tag (HO2.out _ (Below.refl _ _)) hg) H6.out.row.tag (by decide)
              have hsB := HB2.out.size
              have hsg := H6.out.row.lt
              have HSG := Lib.hid hsg
              have HNE := Lib.hid hne
              clear hne
              go_region_law (first
                | (refine step_call (by rfl) 42 EG.out _ _ _ _ (by rfl) (.int .i64 ((q : Int) + 1)) (.int .i64 (c : Int)) (.int .i64 (t : Int)) (.int .u64 (AD : Int)) (by rfl) (by rfl) (by rfl) ?hcall ?_; case hcall => exact HBK.out _)
                | (refine step_append_lies _ (by rfl) (.tmp 67) (.tmp 77) _ (by rfl) w.heap.size 99 j0 (.agg #[.int .u64 0, .int .i64 0]) 2 16 rfl hj hy0 hy1 hy2 rfl (by decide) _ _ _ (by rfl) (HO2.out _ (HNB.out _)) ⟨wr2.heap.size, 0, none⟩ 1 1 [wv AD, jv 2] (by rfl) (by rfl) (World.news_of_block (cs := #[wv AD, jv 2]) (t := 99) (fr := (0, 0)) (heap_alloc_new wr2 _)) (by intro u hu; simp at hu; rcases hu with rfl | rfl <;> rfl) (by decide) (by unfold maxLen; omega) (by omega) (by simp; omega) (wr2.heap.size + 1) (by simp) ?_; intro g cap w1 hown hgrow hsm hlt; have fq : w1.frozen? ⟨gw, 2, none⟩ = false := frozen_grown hgrow (by simp; exact Nat.lt_succ_of_lt HSG.out) (fun e => HNE.out gw e.symm rfl) (by simp; exact (frozen_alloc HSG.out _).trans F2); have dq : w1.cell? ⟨gw, 2, none⟩ = some (Value.slice Al NL cl) := (hgrow.cell_far _ (by simp; exact Nat.lt_succ_of_lt HSG.out) (fun e => HNE.out gw e.symm rfl)).trans (by simp; exact (World.cell?_alloc_lt _ _ _ HSG.out).trans C2)))
              all_goals
                have HWN := Lib.hid (show ∃ vc vl, W6At (w1.setCell ⟨gw, 2, none⟩ (.slice (some ⟨g, 0, none⟩) (NL + 1) cap)) w.heap.size gw l.length (clsK l (q + 1)) (LK l q ++ blsK l q ((upB (hbW l q) 64).take (k + 1))) vc vl from ⟨_, _, by
                  have hp := (H6.out.below (HNB.out _)).pushB (p := (AD, 2)) HNL.out.symm hown hgrow
                  rw [blsK_succ l q k _ (by rw [← HBE.out, ← HLL.out]; exact hkt), ← List.append_assoc, show adr (q + 1) (hcW l q) (gd (upB (hbW l q) 64) k) = AD from by rw [← HC.out, ← HBE.out, ← HT6.out]; exact HAD.out.symm]
                  exact hp⟩)
                have HBN := Lib.hid (show Below w.heap.size w (w1.setCell ⟨gw, 2, none⟩ (.slice (some ⟨g, 0, none⟩) (NL + 1) cap)) from ((Below.and HB2.out (HNB.out _)).grown hgrow (by simp; omega) (fun k hk => own_base (HO2.out _ (Below.refl _ _)) hk)).setCell (p := ⟨gw, 2, none⟩) HGW.out _)
                have HON := Lib.hid (show (w1.setCell ⟨gw, 2, none⟩ (.slice (some ⟨g, 0, none⟩) (NL + 1) cap)).ownsRow B2 3 1 (.slice (some ⟨gb, 0, none⟩) L cb) (upB (hbW l q) 64).length ((upB (hbW l q) 64).map ivn) from by
                  have o1 := own_low (C := 0) HOB2.out (HNB.out (.cells #[.int .u64 (AD : Int), .int .i64 2] 99))
                  have o2 := own_grown o1 hgrow (fun g hg e => tagNe (own_tag o1 hg) (own_tag (HO2.out _ (HNB.out _)) e.symm) (by decide) rfl)
                  have o3 := own_setc (p := ⟨gw, 2, none⟩) o2 (.slice (some ⟨g, 0, none⟩) (NL + 1) cap) (fun g hg => tagNe (own_tag o2 hg) (H6.out.row.below (HNB.out _) H6.out.row.lt |>.grown hgrow (fun e => HNE.out gw e.symm rfl)).tag (by decide))
                  rw [← HBE.out, ← HLL.out]
                  exact o3)
                clear hown hgrow hsm hlt
                go_wp2
                go_roundw
              case rel | rel | rel | rel => exact ⟨k + 1, by have := HL6.out; omega, by go_num, HWN.out, HBN.out, HON.out⟩
              all_goals (simp [intOf]; omega)
            · obtain rfl : k = L := by omega
              have HN6 := Lib.hid (show ∃ vc vl, W6At wr2 w.heap.size gw l.length (clsK l (q + 1)) (LK l (q + 1)) vc vl from ⟨vc2, vl2, by
                have h7 := H6.out
                rw [List.take_of_length_le (by rw [← HL6.out]; exact Nat.le_refl _), ← LK_succ] at h7
                exact h7⟩)
              go_wp2
              go_roundw
              case rel => exact ⟨q + 1, by omega, by go_num, HN6.out, HB2.out, fun p hp => by
                by_cases e : p = q
                · subst e; exact HOQ.out
                · exact HOK.out p (by omega)⟩
              case measure => simp [intOf]; omega
      · have d1 : decide (3 < (c : Int)) = true := by simp; omega
        have HE := Lib.hid (show ¬ okHeads l n from fun h => by
          have h2 := h q hlt
          rw [← HC.out] at h2
          unfold okHead at h2
          rw [decide_eq_false hc3, Bool.false_and] at h2
          cases h2)
        go_wp2_with fail
        refine T1.out.mono ?_
        rintro e w' ⟨rfl, rfl⟩
        go_wp2_with fail
        refine T2.out.mono ?_
        rintro e w' ⟨rfl, rfl⟩
        go_wp2
        go_ret2
        exact .inr ⟨HE.out, rfl, HBW.out⟩
    · obtain rfl : q = n := by omega
      have hle : ¬ ((q : Int) + 1 ≤ (q : Int)) := by omega
      have HE := Lib.hid (show R6Post w l q (.returned (.tuple #[.pointer (some ⟨gw, 0, none⟩), .int .i64 0])) wr from .inl ⟨HOK.out, gw, vc, vl, rfl, HW6.out, HBW.out⟩)
      go_wp2
      go_ret2
      exact HE.out
end Go.Proofs.YtahojhaeebmpoaaGreatDoor
