/- Texts of this claim, packed: POf, BRef, BAll, BLow, BMay, LLoad. -/
import Derived.Test.YthibbcokpmckfaaGreatDoorZ10
import Derived.Test.YthibbcokpmckfaaGreatDoorZ01
import Derived.Test.YthibbcokpmckfaaGreatDoorZ11
import Derived.Test.YthibbcokpmckfaaGreatDoorZ02
import Derived.RangeFuncFrom
import Derived.RangeFuncNested
import Derived.RangeFuncBound
import Derived.RangeFuncCalls
import Derived.RangeFuncLeaves
import Derived.RangeFuncBox
import Derived.Shelf.Abstract
import Derived.Shelf.RegionOpen
import Derived.WalkKit
import Derived.OwnWalkIn
import Derived.TacticsInMore
import Derived.LoopNIn
import Derived.LoopIn
import Derived.Maps.AppendAt
/- Of a memory's bytes: what it answers, for bytes that a memory can have. -/
namespace Go.Proofs.YthibbcokpmckfaaGreatDoor
open Go.RowKit
set_option linter.unusedVariables false
/-- The number that bytes are, the least one first. -/
def ofB : List Nat → Nat
  | [] => 0
  | b :: t => b + 256 * ofB t
theorem ofB_snoc (xs : List Nat) (b : Nat) : ofB (xs ++ [b]) = ofB xs + b * 256 ^ xs.length := by
  induction xs with
  | nil => simp [ofB]
  | cons x t ih =>
    show x + 256 * ofB (t ++ [b]) = x + 256 * ofB t + b * 256 ^ (t.length + 1)
    rw [ih, Nat.pow_succ, Nat.mul_add]
    have : 256 * (b * 256 ^ t.length) = b * (256 ^ t.length * 256) := by rw [Nat.mul_left_comm, Nat.mul_comm 256]
    omega
theorem ofB_lt {xs : List Nat} (h : ∀ x ∈ xs, x < 256) : ofB xs < 256 ^ xs.length := by
  induction xs with
  | nil => decide
  | cons x t ih =>
    show x + 256 * ofB t < 256 ^ (t.length + 1)
    have h1 := ih fun z hz => h z (List.mem_cons_of_mem _ hz)
    have h2 := h x List.mem_cons_self
    rw [Nat.pow_succ]
    omega
/-- The word i, of which the bytes below k are there. -/
def pw (l : List Nat) (k i : Nat) : Nat := ofB (((l.take k).drop (8 * i)).take 8)
def wordsK (l : List Nat) (k n : Nat) : List Nat := (List.range n).map (pw l k)
theorem wordsK_len (l : List Nat) (k n : Nat) : (wordsK l k n).length = n := by simp [wordsK]
theorem wordsK_get {l : List Nat} {k n i : Nat} (hi : i < n) : (wordsK l k n)[i]? = some (pw l k i) := by
  unfold wordsK
  rw [List.getElem?_map, List.getElem?_range hi]; rfl
theorem pw_zero (l : List Nat) (i : Nat) : pw l 0 i = 0 := by simp [pw, ofB]
theorem wordsK_zero (l : List Nat) (n : Nat) : wordsK l 0 n = List.replicate n 0 := by
  apply List.ext_getElem?
  intro q
  unfold wordsK
  rw [List.getElem?_map, List.getElem?_replicate]
  by_cases hq : q < n
  · rw [List.getElem?_range hq, if_pos hq, Option.map_some, pw_zero]
  · rw [List.getElem?_eq_none (l := List.range n) (by simpa using hq), if_neg hq]; rfl
theorem pw_other {l : List Nat} {k i : Nat} (hk : k < l.length) (hi : i ≠ k / 8) : pw l (k + 1) i = pw l k i := by
  unfold pw
  congr 1
  apply List.ext_getElem?
  intro q
  rw [List.getElem?_take, List.getElem?_take]
  by_cases hq : q < 8
  · rw [if_pos hq, if_pos hq, List.getElem?_drop, List.getElem?_drop, List.getElem?_take, List.getElem?_take]
    by_cases h1 : 8 * i + q < k
    · rw [if_pos (by omega), if_pos h1]
    · rw [if_neg (by omega), if_neg h1]
  · rw [if_neg hq, if_neg hq]
theorem pw_part {l : List Nat} {k : Nat} (hk : k < l.length) : ((l.take k).drop (8 * (k / 8))).take 8 = (l.take k).drop (8 * (k / 8)) ∧ ((l.take k).drop (8 * (k / 8))).length = k % 8 := by
  have h2 : ((l.take k).drop (8 * (k / 8))).length = k % 8 := by rw [List.length_drop, List.length_take]; omega
  exact ⟨List.take_of_length_le (by omega), h2⟩
theorem pw_at {l : List Nat} {k : Nat} (hk : k < l.length) : pw l (k + 1) (k / 8) = pw l k (k / 8) + l[k] * 256 ^ (k % 8) := by
  obtain ⟨h1, h2⟩ := pw_part hk
  unfold pw
  rw [h1, ← h2, ← ofB_snoc]
  congr 1
  rw [List.take_succ_eq_append_getElem hk, List.drop_append_of_le_length (by rw [List.length_take]; omega), List.take_of_length_le]
  rw [List.length_append, h2]
  simp
  omega
theorem pw_lt {l : List Nat} (hb : ∀ x ∈ l, x < 256) {k : Nat} (hk : k < l.length) : pw l k (k / 8) < 256 ^ (k % 8) := by
  obtain ⟨h1, h2⟩ := pw_part hk
  unfold pw
  rw [h1, ← h2]
  exact ofB_lt fun x hx => hb x (List.mem_of_mem_take (List.mem_of_mem_drop hx))
theorem pw_fit {l : List Nat} (hb : ∀ x ∈ l, x < 256) (k i : Nat) : pw l k i < 18446744073709551616 := by
  unfold pw
  have h1 : ofB (((l.take k).drop (8 * i)).take 8) < 256 ^ (((l.take k).drop (8 * i)).take 8).length := ofB_lt fun x hx => hb x (List.mem_of_mem_take (List.mem_of_mem_drop (List.mem_of_mem_take hx)))
  have h2 : 256 ^ (((l.take k).drop (8 * i)).take 8).length ≤ 256 ^ 8 := Nat.pow_le_pow_right (by decide) (by rw [List.length_take]; exact Nat.min_le_left _ _)
  have h3 : (256 : Nat) ^ 8 = 18446744073709551616 := by decide
  omega
theorem wordsK_set {l : List Nat} {k n : Nat} (hk : k < l.length) (hn : k / 8 < n) : (wordsK l k n).set (k / 8) (pw l (k + 1) (k / 8)) = wordsK l (k + 1) n := by
  apply List.ext_getElem?
  intro q
  rw [List.getElem?_set, wordsK_len]
  by_cases e : k / 8 = q
  · subst e
    rw [if_pos rfl, if_pos hn, wordsK_get hn]
  · rw [if_neg e]
    by_cases hq : q < n
    · rw [wordsK_get hq, wordsK_get hq, pw_other hk (Ne.symm e)]
    · rw [List.getElem?_eq_none (by rw [wordsK_len]; omega), List.getElem?_eq_none (by rw [wordsK_len]; omega)]
theorem or_add {x b r : Nat} (hx : x < 256 ^ r) : x ||| b * 2 ^ (8 * r) = x + b * 256 ^ r := by
  have e : 256 ^ r = 2 ^ (8 * r) := by rw [Nat.pow_mul]
  rw [e] at hx ⊢
  rw [Nat.or_comm, ← Nat.shiftLeft_eq, ← Nat.shiftLeft_add_eq_or_of_lt hx]
  omega
/-- A memory's state, of bytes. -/
def St.ofBytes (nl : Nat) (l : List Nat) : St := { St.zero nl with lasted := wordsK l (64 * nl) (8 * nl), view := wordsK l (64 * nl) (8 * nl) }
theorem ofBytes_Ok {nl : Nat} {l : List Nat} (hb : ∀ x ∈ l, x < 256) : (St.ofBytes nl l).Ok := by
  have hw : ∀ x ∈ wordsK l (64 * nl) (8 * nl), x < 18446744073709551616 := by
    intro x hx
    unfold wordsK at hx
    obtain ⟨i, _, rfl⟩ := List.mem_map.1 hx
    exact pw_fit hb _ _
  have h := zero_Ok nl
  exact ⟨hw, hw, h.put, h.few, h.mks, h.num⟩
/-- A new memory of this state, in new blocks. -/
def MadeMem (w : World) (s : St) (e : Ending) (w' : World) : Prop :=
  ∃ y : Lay, e = .returned (.tuple #[.pointer (some ⟨y.g, 0, none⟩), .int .i64 0]) ∧ MemAt w' y s ∧ (∀ k, y.fp k → w.heap.size ≤ k) ∧ Below w.heap.size w w'
def OfR (w w1 : World) (y : Lay) (nl : Nat) (l : List Nat) (v : Value) (wr : World) : Prop :=
  ∃ k : Nat, k ≤ 64 * nl ∧ v = .int .i64 (k : Int) ∧ wr.ownsRow 0 23 1 (.slice (some ⟨y.gl, 0, none⟩) (8 * nl) y.cl) (8 * nl) ((wordsK l k (8 * nl)).map wv) ∧ But w1 wr (fun k => k = y.gl)
set_option maxRecDepth 100000 in
set_option maxHeartbeats 1600000 in
theorem pOf_yes {w : World} {A : Option Addr} {cap nl : Nat} {l : List Nat} (hl : l.length = 64 * nl) (hA : Sl w A (l.map bv)) (hb : ∀ x ∈ l, x < 256) (h0 : 0 < nl) (h1 : nl ≤ 16384) :
    Calls Tryz.prog 42 #[.slice A (64 * nl) cap] w (MadeMem w (St.ofBytes nl l)) := by
  have mixed : Tryz.prog.follows .mixedOrders = true := by kernel_rfl
  have HN := Lib.hid (new_yes nl w h0 h1)
  obtain ⟨Z, hZ⟩ : ∃ Z, Z = 64 * nl := ⟨_, rfl⟩
  rw [← hZ] at HN ⊢
  obtain ⟨a, rfl⟩ : ∃ a, A = some a := by
    obtain ⟨a, e, _⟩ := hA.at_ (i := 0) (by rw [List.length_map]; omega)
    exact ⟨a, e⟩
  have HA := Lib.hid hA
  have HL := Lib.hid hl
  have HB := Lib.hid hb
  have HZ := Lib.hid hZ
  have hZB : Z ≤ 1048576 := by omega
  clear hA hl hb hZ
  go_enter Tryz.func42, Tryz.ntmps42
  go_wp2_with fail
  refine HN.out.mono ?_
  rintro e w1 ⟨y, rfl, hm, hfp, hb1⟩
  have hd := hm.differ
  have c0 := hm.row.cell 0
  have c1 := hm.row.cell 1
  simp only [List.getElem?_toArray, List.getElem?_cons_succ, List.getElem?_cons_zero] at c0 c1
  obtain ⟨N, hN⟩ : ∃ N, N = 8 * nl := ⟨_, rfl⟩
  rw [show (St.zero nl).nl = nl from rfl, ← hN] at c0 c1
  have HM := Lib.hid hm
  have HD := Lib.hid hd
  have HFP := Lib.hid hfp
  have HB1 := Lib.hid hb1
  have HNN := Lib.hid hN
  have HC0 := Lib.hid c0
  have HC1 := Lib.hid c1
  clear hm hd hfp hb1 hN c0 c1 HN
  go_wp2
  go_loopw [19] (fun v wr => OfR w w1 y nl l v wr) (fun v _ => Z - (intOf v).toNat)
  case atStart => exact ⟨0, Nat.zero_le _, rfl, by rw [wordsK_zero]; exact HM.out.las, But.refl _ _⟩
  case round =>
    obtain ⟨k, hk, rfl, hown, hbut⟩ := hrel
    rename World => wr
    rw [← HZ.out] at hk
    have HO := Lib.hid hown
    have HBT := Lib.hid hbut
    have c0 : wr.cell? ⟨y.g, 0, none⟩ = some (.slice (some ⟨y.gl, 0, none⟩) N y.cl) := hbut.cell HC0.out HD.out.g_gl
    by_cases hlt : k < Z
    · have hkl : k < l.length := by rw [HL.out, ← HZ.out]; exact hlt
      have hcb : w.cell? (a.add k) = some (bv l[k]) := by
        have := HA.out.some_ (i := k) (by rw [List.length_map]; exact hkl)
        rwa [List.getElem_map] at this
      have hcw : wr.cell? (a.add k) = some (bv l[k]) := hbut.cell (by rw [HB1.out.cell (block_lt_of_cell hcb)]; exact hcb) (fun e => by
        have h1 := block_lt_of_cell hcb
        have h2 := HFP.out y.gl (.inr (.inl rfl))
        omega)
      have hx : l[k] < 256 := HB.out _ (List.getElem_mem hkl)
      have hp := pw_lt HB.out hkl
      have hpf := pw_fit HB.out k (k / 8)
      have hpf2 := pw_fit HB.out (k + 1) (k / 8)
      have hpa := pw_at hkl
      have h8 : k / 8 < 8 * nl := by have := HZ.out; omega
      have hcell : wr.cell? ⟨y.gl, k / 8, none⟩ = some (wv (pw l k (k / 8))) := by
        rw [hown.cellAt (k / 8) (by omega), List.getElem?_map, wordsK_get (by omega)]; rfl
      obtain ⟨cur, hcl⟩ := own_at hown
      have hfr := hcl.free (k / 8)
      obtain ⟨x, hxe⟩ : ∃ x, x = l[k] := ⟨_, rfl⟩
      rw [← hxe] at hcw hx hpa
      obtain ⟨q, hq⟩ : ∃ q, q = pw l k (k / 8) := ⟨_, rfl⟩
      rw [← hq] at hcell hp hpf hpa
      have hor : q ||| x * 2 ^ (8 * (k % 8)) = pw l (k + 1) (k / 8) := by rw [hpa]; exact or_add hp
      have hsm : x * 2 ^ (8 * (k % 8)) < 18446744073709551616 := by
        have e : (2 : Nat) ^ (8 * (k % 8)) = 256 ^ (k % 8) := by rw [Nat.pow_mul]
        rw [e]
        omega
      have hor2 : bits .or .u64 (q : Int) ((x * 2 ^ (8 * (k % 8)) : Nat) : Int) = ((pw l (k + 1) (k / 8) : Nat) : Int) := by rw [u64_or_nat _ _ hpf hsm, hor]
      have hwr : IntKind.u64.wrap ((x : Int) * 2 ^ (8 * (k % 8))) = ((x * 2 ^ (8 * (k % 8)) : Nat) : Int) := by
        rw [IntKind.wrap_u64]
        have : ((x : Int) * 2 ^ (8 * (k % 8))) = ((x * 2 ^ (8 * (k % 8)) : Nat) : Int) := by push_cast; rfl
        rw [this]
        omega
      rw [← hwr] at hor2
      obtain ⟨E, hE⟩ : ∃ E, E = pw l (k + 1) (k / 8) := ⟨_, rfl⟩
      rw [← hE] at hor2 hpf2
      have HE := Lib.hid hE
      have ca := fun p : LowBy wr => p.cell c0
      have cb := fun p : LowBy wr => p.cell hcell
      have HFR := Lib.hid hfr
      have HWR := Lib.hid (own_lt hown)
      have i1 : IntKind.i64.wrap ((k : Int).tdiv 8) = ((k / 8 : Nat) : Int) := by
        rw [Int.tdiv_eq_ediv_of_nonneg (by omega), IntWalk.i64_in _ (by omega)]; omega
      have i2 : IntKind.i64.wrap ((k : Int).tmod 8) = ((k % 8 : Nat) : Int) := by
        rw [Int.tmod_eq_emod_of_nonneg (by omega), IntWalk.i64_in _ (by omega)]; omega
      have i3 : IntKind.i64.wrap (8 * ((k % 8 : Nat) : Int)) = 8 * ((k % 8 : Nat) : Int) := IntWalk.i64_in _ (by omega)
      have i4 : (((k / 8 : Nat) : Int)).toNat = k / 8 := by omega
      have i5 : ((k / 8 : Nat) : Int) < (N : Int) := by have := HNN.out; have := HZ.out; omega
      have i6 : (0 : Int) ≤ ((k / 8 : Nat) : Int) := by omega
      unfold bv at hcw
      unfold wv at cb
      clear hown hbut hcb hkl hp hpa hcell hfr hxe hq hor hsm hwr hE c0 hk h8
      go_wp2_with fail
      refine wp_region_low_tail 16 (by assumption) (by kernel_rfl) ?_
      simp only [List.take_succ_cons, List.take_zero, List.drop_succ_cons, List.drop_zero]
      repeat (go_big_quiet_step (fail))
      refine wpQuiet_nil ?_
      intro _ hw'
      obtain ⟨p, hw''⟩ := hw'
      subst hw''
      have hpr : Row p.W y.gl 23 _ := hcl.below p.low hcl.lt
      have cq := cb p
      have fq := hpr.free (k / 8)
      have HPW := Lib.hid p.low
      clear ca cb hpr
      go_wp2
      go_roundw
      case rel =>
        refine ⟨k + 1, by rw [← HZ.out]; exact hlt, by go_num, ?_, (HBT.out.trans (But.of_below HPW.out (fun k => k = y.gl)) (fun k hk => .inl hk)).set (p := ⟨y.gl, k / 8, none⟩) rfl _⟩
        have h1 := own_stored (own_keep HO.out HPW.out) (k / 8) (wv E)
        rw [set_map, HE.out, wordsK_set (by rw [HL.out, ← HZ.out]; exact hlt) (by have := HZ.out; omega), ← HE.out] at h1
        exact h1
      case measure => simp [intOf]; omega
    · have hkz : k = Z := by omega
      rw [hkz, HZ.out] at hown
      obtain ⟨m2, t2⟩ := mem_las HM.out hown hbut
      have c1 : wr.cell? ⟨y.g, 1, none⟩ = some (.slice (some ⟨y.gv, 0, none⟩) N y.cv) := hbut.cell HC1.out HD.out.g_gl
      have ca := fun p : LowBy wr => p.cell c0
      have cb := fun p : LowBy wr => p.cell c1
      have HM2 := Lib.hid m2
      have HT2 := Lib.hid t2
      have hv := m2.vie
      obtain ⟨gv', cap', cur, hv0, _, hcur, hnc, hmx, hcsz, htk⟩ : ∃ g' cap cur, Value.slice (some ⟨y.gv, 0, none⟩) (8 * nl) y.cv = .slice (some ⟨g', 0, none⟩) (8 * nl) cap ∧ 0 ≤ g' ∧ wr.heap[g']? = some (.cells cur 23 (0, 0)) ∧ 8 * nl ≤ cap ∧ cap ≤ maxLen ∧ cur.size = cap * 1 ∧ True := by
        rcases hv.2 with ⟨h0, _⟩ | ⟨g', cap, cur, h0, hg, hh, hnc, hm, hsz, htk⟩
        · cases h0
        · exact ⟨g', cap, cur, h0, hg, hh, hnc, hm, hsz, trivial⟩
      simp only [Value.slice.injEq, Option.some.injEq, Addr.mk.injEq, and_true, true_and] at hv0
      obtain ⟨rfl, rfl⟩ := hv0
      obtain ⟨CL, hCL⟩ : ∃ CL, CL = cur.toList := ⟨_, rfl⟩
      have hcur' : wr.heap[y.gv]? = some (.cells CL.toArray 23 (0, 0)) := by rw [hCL]; exact hcur
      have hCLn : CL.length = y.cv := by rw [hCL, Array.length_toList, hcsz, Nat.mul_one]
      obtain ⟨LW, hLW⟩ : ∃ LW, LW = wordsK l (64 * nl) (8 * nl) := ⟨_, rfl⟩
      have hLWn : (LW.map wv).length = N := by rw [List.length_map, hLW, wordsK_len, HNN.out]
      rw [← HNN.out] at hnc
      have HCU := Lib.hid hcur'
      have HLW := Lib.hid hLW
      have HLN := Lib.hid hLWn
      have HSRC := Lib.hid (show ∀ (p : LowBy wr) (j : Nat) (v : Value), (LW.map wv)[j]? = some v → p.W.cell? ((⟨y.gl, 0, none⟩ : Addr).add j) = some v from fun p j v hj => by
        have e : (⟨y.gl, 0, none⟩ : Addr).add j = ⟨y.gl, j, none⟩ := by unfold Addr.add; split <;> simp_all
        have hjl : j < N := by have := (List.getElem?_eq_some_iff.1 hj).1; omega
        rw [e]
        refine p.cell ?_
        rw [hown.cellAt j (by have := HNN.out; omega), ← hLW]
        exact hj)
      clear hown hbut hkz hk m2 t2 hv hcur hcsz htk hCL hcur' hLW c0 c1 HO HBT
      go_wp2_with fail
      refine wp_region_low_tail 8 (by assumption) (by kernel_rfl) ?_
      simp only [List.take_succ_cons, List.take_zero, List.drop_succ_cons, List.drop_zero]
      repeat (go_big_quiet_step (fail))
      refine wpQuiet_nil ?_
      intro _ hw'
      obtain ⟨p, hw''⟩ := hw'
      subst hw''
      refine wpList_step fun K hK => step_copy_set (by rfl) (.tmp 44) (.tmp 48) 117 117 (by rfl) 23 Tryz.underlying117 size23 ⟨y.gl, 0, none⟩ N y.cv N y.cl y.gv 0 (by rfl) (by rfl) CL 23 (p.heap HCU.out) (LW.map wv) (by rw [HLN.out]; simp) (by rw [HLN.out, HNN.out]; omega) (HSRC.out p) (by rw [HLN.out, hCLn]; omega) (wv_ones _) ?_
      intro w' hrow hbt
      refine hK _ _ ?_
      have hvie : w'.ownsRow 0 23 1 (.slice (some ⟨y.gv, 0, none⟩) (8 * nl) y.cv) (8 * nl) (LW.map wv) := by
        refine ⟨by rw [HLN.out, HNN.out]; omega, .inr ⟨y.gv, y.cv, _, rfl, Nat.zero_le _, hrow, by rw [← HNN.out]; exact hnc, hmx, ?_, ?_⟩⟩
        · rw [List.size_toArray, length_splice _ _ _ (by rw [HLN.out, hCLn]; omega), hCLn, Nat.mul_one]
        · rw [List.toList_toArray, Nat.mul_one, ← HNN.out]
          unfold splice
          rw [List.take_zero, List.nil_append, List.take_append_of_le_length (by rw [HLN.out]; omega), List.take_of_length_le (by rw [HLN.out]; omega)]
      obtain ⟨m3, t3⟩ := mem_vie (HM2.out.below p.low) hvie hbt
      have HM3 := Lib.hid m3
      have HT3 := Lib.hid ((HT2.out.trans (Turn.of_below y p.low)).trans t3)
      clear hvie hrow hbt m3 t3 ca cb
      go_wp2
      go_ret2
      refine ⟨y, rfl, ?_, HFP.out, HB1.out.trans (HT3.out.but.below HB1.out.size HFP.out)⟩
      unfold St.ofBytes
      rw [← HLW.out]
      have h3 := HM3.out
      rw [← HLW.out] at h3
      exact h3
end Go.Proofs.YthibbcokpmckfaaGreatDoor
/- The document's answers on bits: asked for by halving, laid by adding; of any word and any place; without conditions. -/
namespace Go.Proofs.YthibbcokpmckfaaGreatDoor
open Go.RowKit
set_option linter.unusedVariables false
theorem div_pow_succ (b k : Nat) : b / 2 ^ k / 2 = b / 2 ^ (k + 1) := by rw [Nat.div_div_eq_div_mul, Nat.pow_succ]
set_option maxHeartbeats 400000 in
theorem rHas_any {b : Nat} (hb : b < 18446744073709551616) (j : Int) (w : World) : Calls Tryz.prog 73 #[wv b, .int .i64 j] w fun e w' => e = .returned (.bool (hasB b j)) ∧ w = w' := by
  unfold wv
  by_cases h0 : 0 ≤ j
  · by_cases h1 : j ≤ 63
    · obtain ⟨i, rfl⟩ : ∃ i : Nat, j = (i : Int) := ⟨j.toNat, by omega⟩
      rw [hasB_in ⟨h0, h1⟩, Int.toNat_natCast, Nat.testBit_eq_decide_div_mod_eq]
      obtain ⟨r, hr⟩ : ∃ r, r = decide (b / 2 ^ i % 2 = 1) := ⟨_, rfl⟩
      rw [← hr]
      have HR := Lib.hid hr
      clear hr
      go_enter Tryz.func73, Tryz.ntmps73
      go_wp2
      go_loop [0, 5] (fun a v => ∃ k : Nat, v = .int .i64 (k : Int) ∧ k ≤ i ∧ a = .int .u64 ((b / 2 ^ k : Nat) : Int)) (fun _ v => i - (intOf v).toNat)
      case atStart => exact ⟨0, rfl, Nat.zero_le _, by simp⟩
      case round =>
        obtain ⟨k, rfl, hk, rfl⟩ := hrel
        have hds := div_pow_succ b k
        have hle := Nat.div_le_self b (2 ^ k)
        obtain ⟨c, hc⟩ : ∃ c, c = b / 2 ^ k := ⟨_, rfl⟩
        rw [← hc] at hds hle ⊢
        by_cases hlt : k < i
        · have HDS := Lib.hid hds
          clear hds hc
          go_wp2
          go_round
          case rel => exact ⟨k + 1, by go_num, by omega, by rw [← HDS.out]; go_num⟩
          case measure => simp [intOf]; omega
        · obtain rfl : k = i := by omega
          have hq : ((c : Int) % 2 == 1) = r := by rw [HR.out, ← hc, Bool.eq_iff_iff]; simp only [beq_iff_eq, decide_eq_true_eq]; omega
          clear hds hc
          go_wp2
          go_ret
          exact ⟨rfl, rfl⟩
    · rw [hasB_out (fun h => h1 h.2)]
      go_enter Tryz.func73, Tryz.ntmps73
      go_wp2
      go_ret
      exact ⟨rfl, rfl⟩
  · rw [hasB_out (fun h => h0 h.1)]
    go_enter Tryz.func73, Tryz.ntmps73
    go_wp2
    go_ret
    exact ⟨rfl, rfl⟩
section
variable {b : Nat} (hb : b < 18446744073709551616) (j : Int) (w : World)
include hb
end
end Go.Proofs.YthibbcokpmckfaaGreatDoor
/- The iterator over the bits that are set: it calls yield once for each, rising, till it is told to stop; and Lowest, Count, by it; of any word; without conditions. -/
namespace Go.Proofs.YthibbcokpmckfaaGreatDoor
open Go.RowKit Go.Shelf
set_option linter.unusedVariables false
attribute [local go_sem] Oper.semAt_some

/-- The block bx stays as it is. -/
def Kb (bx : Nat) (A B : World) : Prop := B.heap[bx]? = A.heap[bx]?
theorem Kb.t {bx : Nat} {A B C : World} (h : Kb bx A B) (k : Kb bx B C) : Kb bx A C := k.trans h
theorem Kb.refl (bx : Nat) (A : World) : Kb bx A A := rfl
theorem Kb.b {bx : Nat} {w : World} (hb : bx < w.heap.size) (W : World) (l : Nat) (o o' : Obj) (hl : w.heap.size ≤ l) (h : W.heap[l]? = some o) (_ : o.isCells = false) (_ : o.isWalk = false) : Kb bx W (W.putObj l o') :=
  (belowK_b (n₀ := w.heap.size) (Nat.le_refl _) W l o o' hl h ‹_› ‹_›).block bx hb
theorem Kb.set {bx : Nat} {W : World} {p : Addr} (hp : bx ≠ p.block) (u : Value) : Kb bx W (W.setCell p u) := heap_setCell_other _ _ _ _ hp
theorem Kb.cell {bx : Nat} {A B : World} (h : Kb bx A B) {v : Value} (hc : A.cell? ⟨bx, 0, none⟩ = some v) : B.cell? ⟨bx, 0, none⟩ = some v := (World.cell?_of_block (a := ⟨bx, 0, none⟩) h).trans hc
end Go.Proofs.YthibbcokpmckfaaGreatDoor
/- Count and Lowest: how many bits are set; the least that is not set, below a bound; of any word, any bound; without conditions. -/
namespace Go.Proofs.YthibbcokpmckfaaGreatDoor
open Go.RowKit Go.Shelf
set_option linter.unusedVariables false
attribute [local go_sem] Oper.semAt_some
/-- The word of the bits that are not set. -/
def notB (b : Nat) : Nat := 18446744073709551615 - b
theorem notB_lt (b : Nat) : notB b < 18446744073709551616 := Nat.lt_of_le_of_lt (Nat.sub_le _ _) (by decide)
theorem notB_bit {b : Nat} (hb : b < 18446744073709551616) (k : Nat) : (notB b).testBit k = (decide (k < 64) && !b.testBit k) := by
  rw [show notB b = 2 ^ 64 - (b + 1) by unfold notB; omega, Nat.testBit_two_pow_sub_succ (by omega)]
theorem not64 {z : Int} (h0 : 0 ≤ z) (h1 : z < 18446744073709551616) : bits BinOp.xor IntKind.u64 IntKind.u64.max z = 18446744073709551615 - z := by
  obtain ⟨n, rfl⟩ : ∃ n : Nat, z = (n : Int) := ⟨z.toNat, by omega⟩
  have e : IntKind.u64.max = ((18446744073709551615 : Nat) : Int) := by decide
  rw [e, u64_xor_nat 18446744073709551615 n (by decide) (by omega)]
  have : 18446744073709551615 ^^^ n = 18446744073709551615 - n := by
    apply Nat.eq_of_testBit_eq
    intro k
    have h2 := notB_bit (b := n) (by omega) k
    unfold notB at h2
    rw [h2, Nat.testBit_xor, show (18446744073709551615 : Nat) = 2 ^ 64 - 1 by decide, Nat.testBit_two_pow_sub_one]
    by_cases hk : k < 64
    · simp [hk]
    · have hf : n.testBit k = false := by
        rw [Bool.eq_false_iff]; intro h; exact hk (bit_lt (by omega) h)
      simp [hk, hf]
  rw [this]; omega
/-- The least bit below n that is not set. -/
def lowB (b : Nat) (n : Int) : Option Nat := (upB (notB b) 64).find? fun j => decide ((j : Int) < n)
def lowV (r : Option Nat) : Int := match r with | some x => (x : Int) | none => 0
theorem low_some {b : Nat} {n : Int} {q : List Nat} {x : Nat} (hp : q ++ [x] <+: upB (notB b) 64) (hx : (x : Int) < n) (hq : ∀ y ∈ q, n ≤ (y : Int)) : lowB b n = some x := by
  obtain ⟨r, hr⟩ := hp
  unfold lowB
  rw [← hr, List.find?_append, List.find?_append, List.find?_eq_none.2 (fun y hy => by have := hq y hy; simp; omega)]
  simp [hx]
theorem low_none {b : Nat} {n : Int} (hq : ∀ y ∈ upB (notB b) 64, n ≤ (y : Int)) : lowB b n = none :=
  List.find?_eq_none.2 (fun y hy => by have := hq y hy; simp; omega)
end Go.Proofs.YthibbcokpmckfaaGreatDoor
/- May, and the document's Bits, Lowest, May: of any word, any bound; without conditions. -/
namespace Go.Proofs.YthibbcokpmckfaaGreatDoor
open Go.RowKit
set_option linter.unusedVariables false
/-- No bit from n on is set. -/
def mayS (b : Nat) (n : Int) : Bool := decide (∀ x ∈ upB b 64, ((x : Nat) : Int) < n)
theorem all_lt {b : Nat} (hb : b < 18446744073709551616) {m : Nat} : b < 2 ^ m ↔ ∀ x ∈ upB b 64, x < m := by
  constructor
  · intro h x hx
    obtain ⟨_, ht⟩ := mem_upB.1 hx
    refine Classical.byContradiction fun hn => ?_
    have := Nat.testBit_lt_two_pow (Nat.lt_of_lt_of_le h (Nat.pow_le_pow_right (by decide) (show m ≤ x by omega)))
    rw [this] at ht; cases ht
  · intro h
    refine Nat.lt_pow_two_of_testBit b fun i hi => ?_
    rw [Bool.eq_false_iff]
    intro ht
    have := h i (mem_upB.2 ⟨bit_lt hb ht, ht⟩)
    omega
theorem shr_may {b : Nat} (hb : b < 18446744073709551616) {y : Int} (h0 : 0 ≤ y) : ∃ q : Nat, Op.shift .shr .u64 (b : Int) .i64 y = pure (.int .u64 (q : Int)) ∧ ((q : Int) == 0) = mayS b y := by
  refine ⟨b / 2 ^ min y.toNat 64, ?_, ?_⟩
  · unfold Op.shift
    rw [if_neg (by omega)]
    simp only
    have e : (2 : Int) ^ min y.toNat IntKind.u64.bits = ((2 ^ min y.toNat 64 : Nat) : Int) := by rw [show IntKind.u64.bits = 64 from rfl]; simp
    rw [e]
    congr 2
    rw [Int.fdiv_eq_ediv_of_nonneg _ (Int.natCast_nonneg _)]
    rfl
  · unfold mayS
    rw [Bool.eq_iff_iff]
    simp only [beq_iff_eq, decide_eq_true_eq]
    have hp : 0 < 2 ^ min y.toNat 64 := Nat.two_pow_pos _
    have h1 : ((b / 2 ^ min y.toNat 64 : Nat) : Int) = 0 ↔ b < 2 ^ min y.toNat 64 := by
      rw [Int.natCast_eq_zero, Nat.div_eq_zero_iff]
      omega
    rw [h1, all_lt hb]
    constructor
    · intro h x hx
      have := h x hx
      omega
    · intro h x hx
      have := h x hx
      have := (mem_upB.1 hx).1
      omega
theorem may_neg {b : Nat} {n : Int} (h : n ≤ 0) : mayS b n = mayS b 0 := by
  unfold mayS
  rw [Bool.eq_iff_iff]
  simp only [decide_eq_true_eq]
  constructor
  · intro hh x hx; have := hh x hx; omega
  · intro hh x hx; have := hh x hx; omega
theorem bMay_any {b : Nat} (hb : b < 18446744073709551616) (n : Int) (w : World) : Calls Tryz.prog 86 #[wv b, .int .i64 n] w fun e w' => e = .returned (.bool (mayS b n)) ∧ w = w' := by
  by_cases h : 0 ≤ n
  · obtain ⟨q, hs, hq⟩ := shr_may hb h
    have hm : max n 0 = n := by omega
    generalize mayS b n = r at *
    unfold wv
    go_enter Tryz.func86, Tryz.ntmps86
    go_wp2
    go_ret
    exact ⟨rfl, rfl⟩
  · obtain ⟨q, hs, hq⟩ := shr_may hb (Int.le_refl 0)
    rw [may_neg (by omega)]
    have hm : max n 0 = 0 := by omega
    generalize mayS b 0 = r at *
    unfold wv
    go_enter Tryz.func86, Tryz.ntmps86
    go_wp2
    go_ret
    exact ⟨rfl, rfl⟩
def ivn (n : Nat) : Value := .int .i64 (n : Int)
theorem infoI : (Tryz.prog.info? 3).map (fun i => (i.zero, i.size, i.bytes)) = some (some (.int .i64 0), 1, 8) := by kernel_rfl
/-- What the document's Bits answers: the places of the bits that are set, rising, in new memory. -/
def BitsEnd (b : Nat) (w : World) (e : Ending) (w' : World) : Prop := ∃ v, e = .returned v ∧ w'.ownsRow w.heap.size 3 1 v (upB b 64).length ((upB b 64).map ivn) ∧ Below w.heap.size w w'
def BitsRel (b : Nat) (w : World) (o v : Value) (wr : World) : Prop := ∃ i : Nat, v = .int .i64 (i : Int) ∧ i ≤ 64 ∧ wr.ownsRow w.heap.size 3 1 o (upB b i).length ((upB b i).map ivn) ∧ Below w.heap.size w wr
set_option maxRecDepth 100000 in
set_option maxHeartbeats 2000000 in
theorem rBits_any {b : Nat} (hb : b < 18446744073709551616) (w : World) : Calls Tryz.prog 31 #[wv b] w (BitsEnd b w) := by
  obtain ⟨i0, hi, hz0, hz1, hz2⟩ := info_parts infoI
  have HH := Lib.hid (fun j W => rHas_any hb j W)
  unfold wv at HH ⊢
  go_enter Tryz.func31, Tryz.ntmps31
  go_wp2
  go_loopw [3, 4] (fun o v wr => BitsRel b w o v wr) (fun _ v _ => 64 - (intOf v).toNat)
  case atStart => exact ⟨0, rfl, by omega, World.ownsRow_nil _ _ _ _, Below.refl _ _⟩
  case round =>
    rename World => wr
    obtain ⟨i, rfl, hi64, ho, hB⟩ := hrel
    have HO := Lib.hid ho
    have HB := Lib.hid hB
    clear ho hB
    by_cases hlt : i < 64
    · have HI := Lib.hid (HH.out (i : Int) wr)
      have hhi : hasB b (i : Int) = b.testBit i := by rw [hasB_in ⟨by omega, by omega⟩]; rfl
      rw [hhi] at HI
      have hlen := upB_len b i
      by_cases ht : b.testBit i = true
      · rw [ht] at HI
        have HS := Lib.hid (show upB b (i + 1) = upB b i ++ [i] by rw [upB_succ, if_pos ht])
        clear ht hhi
        go_wp2_with fail
        refine HI.out.mono ?_
        rintro e w1 ⟨rfl, rfl⟩
        obtain ⟨L, hL⟩ : ∃ L, L = (upB b i).length := ⟨_, rfl⟩
        rw [← hL] at HO hlen
        have HLL := Lib.hid hL
        clear hL
        go_wp2_with (at_builtin; refine wpList_append_own _ rfl _ _ 47 rfl w.heap.size 3 i0 (.int .i64 0) 1 8 Tryz.underlying47 hi hz0 hz1 hz2 rfl (by decide) _ _ _ rfl (HO.out.alloc _) ⟨wr.heap.size, 0, none⟩ 1 1 [ivn i] rfl rfl ?qc1 ?qc2 ?qc3 ?qc4 ?qc5 ?_)
        case qc1 => intro j u hj; cases j with
          | zero => rw [add_zero']; simp at hj; subst hj; simp [ivn]
          | succ j => simp at hj
        case qc2 => intro u hu; simp at hu; subst hu; rfl
        case qc3 => unfold maxLen; omega
        case qc4 => omega
        case qc5 => have := HB.out.size; simp; omega
        intro v' w1 hown hgrow hnil
        have HO2 := Lib.hid hown
        have HB2 := Lib.hid ((HB.out.alloc HB.out.size _).grown hgrow (by have := HB.out.size; simp; omega) (fun k hk => own_from HO.out k hk))
        clear hown hgrow hnil
        go_wp2
        go_roundw
        case rel => exact ⟨i + 1, by go_num, by omega, by rw [HS.out, List.length_append, List.map_append, ← HLL.out]; exact HO2.out, HB2.out⟩
        case measure => simp [intOf]; omega
      · have hf : b.testBit i = false := by simpa using ht
        rw [hf] at HI
        have HS := Lib.hid (show upB b (i + 1) = upB b i by rw [upB_succ, if_neg ht])
        clear ht hhi hf
        go_wp2_with fail
        refine HI.out.mono ?_
        rintro e w1 ⟨rfl, rfl⟩
        go_wp2
        go_roundw
        case rel => exact ⟨i + 1, by go_num, by omega, by rw [HS.out]; exact HO.out, HB.out⟩
        case measure => simp [intOf]; omega
    · obtain rfl : i = 64 := by omega
      go_wp2
      go_ret
      exact ⟨_, rfl, HO.out, HB.out⟩
/-- The least bit that is not set, below n; -1. -/
def lowR (r : Option Nat) : Int := match r with | some x => (x : Int) | none => -1
theorem lowB_at {b : Nat} (hb : b < 18446744073709551616) {n : Int} {i : Nat} (hi : i < 64) (hn : (i : Int) < n) (hset : ∀ k, k < i → b.testBit k = true) (h : b.testBit i = false) : lowB b n = some i := by
  have h1 : upB (notB b) (i + 1) = [i] := by
    rw [upB_succ, notB_bit hb, h, decide_eq_true hi]
    have : upB (notB b) i = [] := by
      unfold upB
      rw [List.filter_eq_nil_iff]
      intro k hk
      have hk' := List.mem_range.1 hk
      rw [notB_bit hb, hset k hk']
      simp
    rw [this]; rfl
  have h2 := upB_pre (notB b) (show i + 1 ≤ 64 by omega)
  rw [h1] at h2
  exact low_some (q := []) h2 hn (by simp)
theorem lowB_none {b : Nat} (hb : b < 18446744073709551616) {n : Int} (hset : ∀ k : Nat, (k : Int) < n → k < 64 → b.testBit k = true) : lowB b n = none := by
  refine low_none fun y hy => ?_
  obtain ⟨h64, ht⟩ := mem_upB.1 hy
  refine Classical.byContradiction fun hn => ?_
  rw [notB_bit hb, hset y (by omega) h64] at ht
  simp at ht
theorem own_cell {w : World} {B n : Nat} {l : List Nat} {g cap : Nat} (h : w.ownsRow B 3 1 (.slice (some ⟨g, 0, none⟩) n cap) n (l.map ivn)) {i : Nat} (hi : i < l.length) : w.cell? ⟨g, i, none⟩ = some (ivn (gd l i)) := by
  obtain ⟨A, c, hv, _, _, hs, _⟩ := own_sl h
  simp only [Value.slice.injEq, true_and] at hv
  obtain ⟨rfl, rfl⟩ := hv
  have := hs.some_ (i := i) (by simpa using hi)
  rw [add_lit] at this
  rw [this]
  simp [gd, hi]
theorem may_last {b : Nat} {n : Int} {m : Nat} (hl : (upB b 64).length = m + 1) : mayS b n = decide (((gd (upB b 64) m : Nat) : Int) < n) := by
  unfold mayS
  rw [Bool.eq_iff_iff]
  simp only [decide_eq_true_eq]
  constructor
  · intro h; exact h _ (gd_mem (by omega))
  · intro h x hx
    obtain ⟨j, hj, e⟩ := List.getElem_of_mem hx
    have h2 : gd (upB b 64) m = (upB b 64)[m] := by simp [gd, hl]
    by_cases e3 : j = m
    · subst e3; rw [← e, ← h2]; exact h
    · have := List.pairwise_iff_getElem.1 (upB_sorted b 64) j m hj (by omega) (by omega)
      omega
theorem may_empty {b : Nat} {n : Int} (hl : (upB b 64).length = 0) : mayS b n = true := by
  have : upB b 64 = [] := List.eq_nil_of_length_eq_zero hl
  unfold mayS
  rw [this]; simp
set_option maxRecDepth 100000 in
set_option maxHeartbeats 1000000 in
theorem rMay_any {b : Nat} (hb : b < 18446744073709551616) (n : Int) (w : World) : Calls Tryz.prog 48 #[wv b, .int .i64 n] w fun e w' => e = .returned (.bool (mayS b n)) ∧ Below w.heap.size w w' := by
  have HB := Lib.hid (rBits_any hb w)
  have h64 := upB_len b 64
  cases hl : (upB b 64).length with
  | zero =>
    rw [may_empty hl]
    have HL := Lib.hid hl
    clear hl h64 hb
    unfold wv at HB ⊢
    go_enter Tryz.func48, Tryz.ntmps48
    go_wp2_with fail
    refine HB.out.mono ?_
    rintro e w1 ⟨v, rfl, ho, hbb⟩
    have HBB := Lib.hid hbb
    obtain ⟨A, c, hv, _⟩ := own_sl ho
    subst hv
    clear ho hbb
    rw [HL.out]
    go_wp2
    go_ret
    exact ⟨rfl, HBB.out⟩
  | succ m =>
    rw [may_last hl]
    rw [hl] at h64
    obtain ⟨x, hx⟩ : ∃ x, x = gd (upB b 64) m := ⟨_, rfl⟩
    rw [← hx]
    have HX := Lib.hid hx
    have HL := Lib.hid hl
    clear hl hb hx
    unfold wv at HB ⊢
    go_enter Tryz.func48, Tryz.ntmps48
    go_wp2_with fail
    refine HB.out.mono ?_
    rintro e w1 ⟨v, rfl, ho, hbb⟩
    have HBB := Lib.hid hbb
    obtain ⟨g, c, hv, _⟩ := own_some ho (by rw [HL.out]; omega)
    subst hv
    have hc := own_cell ho (i := m) (by rw [HL.out]; omega)
    rw [HL.out]
    clear ho hbb
    rw [← HX.out] at hc
    unfold ivn at hc
    have hz : (((m + 1 : Nat) : Int) == 0) = false := by rw [Bool.eq_false_iff]; intro h; have := beq_iff_eq.1 h; omega
    have hz' : ((m : Int) + 1 == 0) = false := hz
    go_wp2
    go_ret
    exact ⟨rfl, HBB.out⟩
end Go.Proofs.YthibbcokpmckfaaGreatDoor
/- A memory and an arena's blocks lie apart; load: a slab's class and bits, of a memory, if they may be. -/
namespace Go.Proofs.YthibbcokpmckfaaGreatDoor
open Go.RowKit Go.Sort
set_option linter.unusedVariables false
theorem MemAt.tag {w : World} {y : Lay} {s : St} (h : MemAt w y s) {k : Nat} (hk : y.fp k) : Tag w k 122 ∨ Tag w k 23 ∨ Tag w k 126 ∨ Tag w k 129 ∨ ∃ es c, w.heap[k]? = some (.map es c) := by
  rcases hk with rfl | rfl | rfl | rfl | rfl | ⟨j, v, hv, hk⟩
  · exact .inl h.row.tag
  · obtain ⟨c, hc⟩ := own_at h.las; exact .inr (.inl hc.tag)
  · obtain ⟨c, hc⟩ := own_at h.vie; exact .inr (.inl hc.tag)
  · obtain ⟨c, hc⟩ := own_at h.pen; exact .inr (.inr (.inl hc.tag))
  · obtain ⟨es, c, hc⟩ := h.marks.map; exact .inr (.inr (.inr (.inr ⟨es, c, hc⟩)))
  · have hj : j < y.ps.length := (List.getElem?_eq_some_iff.1 hv).1
    have hl : y.ps.length = s.nl := ps_len h
    obtain ⟨c, hc⟩ := (h.tails j (by omega) v _ hv (List.getElem?_eq_getElem (by rw [h.plen]; omega))).row hk
    exact .inr (.inr (.inr (.inl hc.tag)))
theorem Tag.noMap {w : World} {k : Nat} {t : TypeId} {es : Array MapEntry} {c : Nat} (h : Tag w k t) (hm : w.heap[k]? = some (.map es c)) : False := by
  obtain ⟨cs, f, h⟩ := h
  rw [h] at hm
  cases hm
/-- A block that is of one of these types is none of a memory's. -/
theorem MemAt.apart_tag {w : World} {y : Lay} {s : St} (h : MemAt w y s) {k : Nat} {t : TypeId} (ht : Tag w k t) (h1 : t ≠ 122) (h2 : t ≠ 23) (h3 : t ≠ 126) (h4 : t ≠ 129) : ¬ y.fp k := fun hk => by
  rcases h.tag hk with h' | h' | h' | h' | ⟨es, c, h'⟩
  · exact h1 (ht.same h')
  · exact h2 (ht.same h')
  · exact h3 (ht.same h')
  · exact h4 (ht.same h')
  · exact ht.noMap h'
theorem mem_slab {w : World} {y : Lay} {s : St} {z : SLay} {hs : List Hd} {fs : Nat → List Nat} (h : MemAt w y s) (hz : SlabMem w z hs fs) {k : Nat} (hk : z.fp k) : ¬ y.fp k := by
  rcases hz.tag hk with h' | h' | h' | h' | h'
  all_goals exact h.apart_tag h' (by decide) (by decide) (by decide) (by decide)
theorem MemAt.slab {w w' : World} {y : Lay} {s : St} {z z' : SLay} {hs : List Hd} {fs : Nat → List Nat} (h : MemAt w y s) (hz : SlabMem w z hs fs) (t : STurn w w' z z') : MemAt w' y s :=
  h.but t.but fun k hk hk' => mem_slab h hz hk' hk
theorem SlabMem.mem {w w' : World} {y y' : Lay} {s : St} {z : SLay} {hs : List Hd} {fs : Nat → List Nat} (hz : SlabMem w z hs fs) (h : MemAt w y s) (t : Turn w w' y y') : SlabMem w' z hs fs :=
  hz.keep t.but fun k hk hk' => mem_slab h hz hk hk'
def RM (w : World) (y : Lay) : Prop := Rms w ∧ ¬ y.fp 0
theorem RM.turn {w w' : World} {y y' : Lay} (R : RM w y) (t : Turn w w' y y') : RM w' y' := by
  refine ⟨R.1.but t.but R.2, fun h => ?_⟩
  obtain ⟨tt, hR⟩ := R.1
  rcases t.fp _ h with h1 | h1
  · exact R.2 h1
  · have := heap_lt hR; omega
/-- What load answers: the class, the bits, or ErrCorrupt. -/
def okHead (c b : Nat) : Bool := decide (c ≤ 3) && mayS b (blN c : Int)
def loadV (c b : Nat) : Value := if okHead c b then .tuple #[jv c, wv b, .int .i64 0] else .tuple #[.int .i64 0, .int .u64 0, .int .i64 6]
set_option maxRecDepth 100000 in
set_option maxHeartbeats 1600000 in
theorem sload_any {w : World} {y : Lay} {s : St} (h : MemAt w y s) (ok : s.Ok) (R : RM w y) {i : Nat} (h1 : 1 ≤ i) (h2 : i ≤ 64) (hn : 1024 * i + 64 ≤ 64 * s.nl) (hld : s.ld + 2 < 9223372036854775808) :
    Calls Tryz.prog 44 #[.pointer (some ⟨y.g, 0, none⟩), jv i] w (AnsPost w y { s with ld := s.ld + 2 } (loadV (s.view.getD (128 * i) 0) (s.view.getD (128 * i + 1) 0))) := by
  have ea : hdA (i : Int) = ((1024 * i : Nat) : Int) := by unfold hdA; rw [if_pos (by omega)]; omega
  have HH := Lib.hid fun W => header_any (i : Int) W
  have HB := Lib.hid fun W => bits_yes (s := (i : Int)) (by omega) W
  rw [ea] at HH HB
  have eb : ((1024 * i : Nat) : Int) + 8 = ((1024 * i + 8 : Nat) : Int) := by omega
  rw [eb] at HB
  have HL := Lib.hid (load_ok h ok (1024 * i) (by omega) (by omega))
  rw [show 1024 * i / 8 = 128 * i from by omega] at HL
  have hcw : s.view.getD (128 * i) 0 < 18446744073709551616 := by
    rw [List.getD_eq_getElem?_getD]
    cases hg : s.view[128 * i]? with
    | none => decide
    | some x => exact ok.vie x (List.mem_of_getElem? hg)
  have hbw : s.view.getD (128 * i + 1) 0 < 18446744073709551616 := by
    rw [List.getD_eq_getElem?_getD]
    cases hg : s.view[128 * i + 1]? with
    | none => decide
    | some x => exact ok.vie x (List.mem_of_getElem? hg)
  obtain ⟨c, hc⟩ : ∃ c, c = s.view.getD (128 * i) 0 := ⟨_, rfl⟩
  obtain ⟨b, hb⟩ : ∃ b, b = s.view.getD (128 * i + 1) 0 := ⟨_, rfl⟩
  rw [← hc] at HL hcw ⊢
  rw [← hb] at hbw ⊢
  have HMAY := Lib.hid fun (n : Int) (W : World) => bMay_any hbw n W
  have HBE := Lib.hid hb
  have OK := Lib.hid ok
  have HR := Lib.hid R
  have HA := Lib.hid (show ∀ W W' : World, True from fun _ _ => trivial)
  obtain ⟨g, hg⟩ : ∃ g, g = y.g := ⟨_, rfl⟩
  rw [← hg] at HL ⊢
  have HG := Lib.hid hg
  have hnl : 1024 * i + 8 < 64 * s.nl := by omega
  obtain ⟨A1, hA1⟩ : ∃ A, A = 1024 * i := ⟨_, rfl⟩
  rw [← hA1] at HH HL
  obtain ⟨A2, hA2⟩ : ∃ A, A = 1024 * i + 8 := ⟨_, rfl⟩
  rw [← hA2] at HB
  have HA2 := Lib.hid hA2
  have HI := Lib.hid (show 1024 * i + 64 ≤ 64 * s.nl from hn)
  have hldb := hld
  have hcN : (c : Int) < 18446744073709551616 := by omega
  unfold jv
  clear h ok R hc hb hg ea eb hA1 hA2 hnl hn hbw hcw hld
  go_enter Tryz.func44, Tryz.ntmps44
  go_wp2_with fail
  refine (HH.out _).mono ?_
  rintro e w1 ⟨rfl, rfl⟩
  go_wp2_with fail
  refine HL.out.mono ?_
  rintro e w2 ⟨rfl, y2, hm2, ht2⟩
  have HM2 := Lib.hid hm2
  have HT2 := Lib.hid ht2
  have hL2 := load_ok hm2 ⟨OK.out.las, OK.out.vie, OK.out.put, OK.out.few, OK.out.mks, ⟨by show s.ld + 1 < _; omega, OK.out.num.2⟩⟩ A2 (by rw [HA2.out]; omega) (by rw [HA2.out]; have := HI.out; show _ < 64 * s.nl; omega)
  rw [show A2 / 8 = 128 * i + 1 from by rw [HA2.out]; omega] at hL2
  rw [show ({ s with ld := s.ld + 1 } : St).view = s.view from rfl, ← HBE.out] at hL2
  rw [ht2.g, ← HG.out] at hL2
  have HL2 := Lib.hid hL2
  clear hm2 ht2 hL2 HL
  go_wp2_with fail
  refine (HB.out _).mono ?_
  rintro e w3 ⟨rfl, rfl⟩
  go_wp2_with fail
  refine HL2.out.mono ?_
  rintro e w4 ⟨rfl, y4, hm4, ht4⟩
  have HM4 := Lib.hid (show MemAt w4 y4 { s with ld := s.ld + 2 } from hm4)
  have HT4 := Lib.hid (HT2.out.trans ht4)
  have hR4 := (HR.out.turn HT4.out).1
  have HG4 := Lib.hid (blocks_any (c : Int) w4 hR4)
  rw [blN_C] at HG4
  clear hm4 ht4 HL2 hR4
  by_cases hc3 : c ≤ 3
  · have d1 : decide (3 < (c : Int)) = false := by simp; omega
    have hw1 : IntKind.i64.wrap (c : Int) = (c : Int) := IntWalk.i64_in _ (by omega)
    cases hmay : mayS b (blN c : Int) with
    | true =>
      have HV := Lib.hid (show loadV c b = .tuple #[jv c, wv b, .int .i64 0] by unfold loadV okHead; rw [decide_eq_true hc3, hmay]; rfl)
      have HMM := Lib.hid fun W => HMAY.out (blN c : Int) W
      rw [hmay] at HMM
      obtain ⟨n, hn⟩ : ∃ n, n = blN c := ⟨_, rfl⟩
      rw [← hn] at HMM HG4
      unfold wv at HMM
      clear hmay hn HMAY
      go_wp2_with fail
      refine HG4.out.mono ?_
      rintro e w5 ⟨rfl, hg5⟩
      have HG5 := Lib.hid hg5.all
      clear hg5
      go_wp2_with fail
      refine (HMM.out _).mono ?_
      rintro e w6 ⟨rfl, rfl⟩
      go_wp2
      go_ret3
      exact ⟨by rw [HV.out]; rfl, y4, HM4.out.below HG5.out, HT4.out.trans (Turn.of_below y4 HG5.out)⟩
    | false =>
      have HV := Lib.hid (show loadV c b = .tuple #[.int .i64 0, .int .u64 0, .int .i64 6] by unfold loadV okHead; rw [decide_eq_true hc3, hmay]; rfl)
      have HMM := Lib.hid fun W => HMAY.out (blN c : Int) W
      rw [hmay] at HMM
      obtain ⟨n, hn⟩ : ∃ n, n = blN c := ⟨_, rfl⟩
      rw [← hn] at HMM HG4
      unfold wv at HMM
      clear hmay hn HMAY
      go_wp2_with fail
      refine HG4.out.mono ?_
      rintro e w5 ⟨rfl, hg5⟩
      have HG5 := Lib.hid hg5.all
      clear hg5
      go_wp2_with fail
      refine (HMM.out _).mono ?_
      rintro e w6 ⟨rfl, rfl⟩
      go_wp2
      go_ret3
      exact ⟨by rw [HV.out]; rfl, y4, HM4.out.below HG5.out, HT4.out.trans (Turn.of_below y4 HG5.out)⟩
  · have d1 : decide (3 < (c : Int)) = true := by simp; omega
    have HV := Lib.hid (show loadV c b = .tuple #[.int .i64 0, .int .u64 0, .int .i64 6] by unfold loadV okHead; rw [decide_eq_false hc3]; rfl)
    clear HMAY HG4
    go_wp2
    go_ret3
    exact ⟨by rw [HV.out]; rfl, y4, HM4.out, HT4.out⟩
end Go.Proofs.YthibbcokpmckfaaGreatDoor
