/- Texts of this claim, packed: POf, RefB, ArS, ArP, ArN, ArL. -/
import Derived.Test.YtkbklooocdfcfaaGreatDoorPz17
import Derived.Test.YtkbklooocdfcfaaGreatDoorPz02
import Derived.Test.YtkbklooocdfcfaaGreatDoorPz03
import Derived.Test.YtkbklooocdfcfaaGreatDoorPz06
import Derived.Test.YtkbklooocdfcfaaGreatDoorPz21
import Derived.Test.YtkbklooocdfcfaaGreatDoorPz24
import Derived.Deep.QuietTactic
import Derived.BigQuiet
set_option linter.unusedVariables false
set_option maxRecDepth 100000
set_option maxHeartbeats 6400000
namespace Go.Proofs.YtkbklooocdfcfaaGreatDoor
open Go.RowKit
def ofB : List Nat -> Nat
 | [] => 0
 | b :: t => b + 256 * ofB t
theorem ofB_snoc (xs : List Nat) (b : Nat) : ofB (xs ++ [b]) = ofB xs + b * 256 ^ xs.length := by
 induction xs with
 | nil => simp [ofB]
 | cons x t ih =>
  show x + 256 * ofB (t ++ [b]) = x + 256 * ofB t + b * 256 ^ (t.length + 1)
  rw [ih, Nat.pow_succ, Nat.mul_add]
  have : 256 * (b * 256 ^ t.length) = b * (256 ^ t.length * 256) := by rw [Nat.mul_left_comm, Nat.mul_comm 256]
  omega
theorem ofB_lt {xs : List Nat} (h : ∀ x ∈ xs, x < 256) : ofB xs < 256 ^ xs.length := by
 induction xs with
 | nil => decide
 | cons x t ih =>
  show x + 256 * ofB t < 256 ^ (t.length + 1)
  have h1 := ih fun z hz => h z (List.mem_cons_of_mem _ hz)
  have h2 := h x List.mem_cons_self
  rw [Nat.pow_succ]
  omega
def pw (l : List Nat) (k i : Nat) : Nat := ofB (((l.take k).drop (8 * i)).take 8)
def wordsK (l : List Nat) (k n : Nat) : List Nat := (List.range n).map (pw l k)
theorem wordsK_len (l : List Nat) (k n : Nat) : (wordsK l k n).length = n := by simp [wordsK]
theorem wordsK_get {l : List Nat} {k n i : Nat} (hi : i < n) : (wordsK l k n)[i]? = some (pw l k i) := by
 unfold wordsK
 rw [List.getElem?_map, List.getElem?_range hi]; rfl
theorem pw_zero (l : List Nat) (i : Nat) : pw l 0 i = 0 := by simp [pw, ofB]
theorem wordsK_zero (l : List Nat) (n : Nat) : wordsK l 0 n = List.replicate n 0 := by
 apply List.ext_getElem?
 intro q
 unfold wordsK
 rw [List.getElem?_map, List.getElem?_replicate]
 by_cases hq : q < n
 ·rw [List.getElem?_range hq, if_pos hq, Option.map_some, pw_zero]
 ·rw [List.getElem?_eq_none (l := List.range n) (by simpa using hq), if_neg hq]; rfl
theorem pw_other {l : List Nat} {k i : Nat} (hk : k < l.length) (hi : i ≠ k / 8) : pw l (k + 1) i = pw l k i := by
 unfold pw
 congr 1
 apply List.ext_getElem?
 intro q
 rw [List.getElem?_take, List.getElem?_take]
 by_cases hq : q < 8
 ·rw [if_pos hq, if_pos hq, List.getElem?_drop, List.getElem?_drop, List.getElem?_take, List.getElem?_take]
  by_cases h1 : 8 * i + q < k
  ·rw [if_pos (by omega), if_pos h1]
  ·rw [if_neg (by omega), if_neg h1]
 ·rw [if_neg hq, if_neg hq]
theorem pw_part {l : List Nat} {k : Nat} (hk : k < l.length) : ((l.take k).drop (8 * (k / 8))).take 8 = (l.take k).drop (8 * (k / 8)) /\ ((l.take k).drop (8 * (k / 8))).length = k % 8 := by
 have h2 : ((l.take k).drop (8 * (k / 8))).length = k % 8 := by rw [List.length_drop, List.length_take]; omega
 exact ⟨List.take_of_length_le (by omega), h2⟩
theorem pw_at {l : List Nat} {k : Nat} (hk : k < l.length) : pw l (k + 1) (k / 8) = pw l k (k / 8) + l[k] * 256 ^ (k % 8) := by
 obtain ⟨h1, h2⟩ := pw_part hk
 unfold pw
 rw [h1, <- h2, <- ofB_snoc]
 congr 1
 rw [List.take_succ_eq_append_getElem hk, List.drop_append_of_le_length (by rw [List.length_take]; omega), List.take_of_length_le]
 rw [List.length_append, h2]
 simp
 omega
theorem pw_lt {l : List Nat} (hb : ∀ x ∈ l, x < 256) {k : Nat} (hk : k < l.length) : pw l k (k / 8) < 256 ^ (k % 8) := by
 obtain ⟨h1, h2⟩ := pw_part hk
 unfold pw
 rw [h1, <- h2]
 exact ofB_lt fun x hx => hb x (List.mem_of_mem_take (List.mem_of_mem_drop hx))
theorem pw_fit {l : List Nat} (hb : ∀ x ∈ l, x < 256) (k i : Nat) : pw l k i < 18446744073709551616 := by
 unfold pw
 have h1 : ofB (((l.take k).drop (8 * i)).take 8) < 256 ^ (((l.take k).drop (8 * i)).take 8).length := ofB_lt fun x hx => hb x (List.mem_of_mem_take (List.mem_of_mem_drop (List.mem_of_mem_take hx)))
 have h2 : 256 ^ (((l.take k).drop (8 * i)).take 8).length <= 256 ^ 8 := Nat.pow_le_pow_right (by decide) (by rw [List.length_take]; exact Nat.min_le_left _ _)
 have h3 : (256 : Nat) ^ 8 = 18446744073709551616 := by decide
 omega
theorem wordsK_set {l : List Nat} {k n : Nat} (hk : k < l.length) (hn : k / 8 < n) : (wordsK l k n).set (k / 8) (pw l (k + 1) (k / 8)) = wordsK l (k + 1) n := by
 apply List.ext_getElem?
 intro q
 rw [List.getElem?_set, wordsK_len]
 by_cases e : k / 8 = q
 ·subst e
  rw [if_pos rfl, if_pos hn, wordsK_get hn]
 ·rw [if_neg e]
  by_cases hq : q < n
  ·rw [wordsK_get hq, wordsK_get hq, pw_other hk (Ne.symm e)]
  ·rw [List.getElem?_eq_none (by rw [wordsK_len]; omega), List.getElem?_eq_none (by rw [wordsK_len]; omega)]
theorem or_add {x b r : Nat} (hx : x < 256 ^ r) : x ||| b * 2 ^ (8 * r) = x + b * 256 ^ r := by
 have e : 256 ^ r = 2 ^ (8 * r) := by rw [Nat.pow_mul]
 rw [e] at hx ⊢
 rw [Nat.or_comm, <- Nat.shiftLeft_eq, <- Nat.shiftLeft_add_eq_or_of_lt hx]
 omega
def St.ofBytes (nl : Nat) (l : List Nat) : St := { St.zero nl with lasted := wordsK l (64 * nl) (8 * nl), view := wordsK l (64 * nl) (8 * nl) }
theorem ofBytes_Ok {nl : Nat} {l : List Nat} (hb : ∀ x ∈ l, x < 256) : (St.ofBytes nl l).Ok := by
 have hw : ∀ x ∈ wordsK l (64 * nl) (8 * nl), x < 18446744073709551616 := by
  intro x hx
  unfold wordsK at hx
  obtain ⟨i, _, rfl⟩ := List.mem_map.1 hx
  exact pw_fit hb _ _
 have h := zero_Ok nl
 exact ⟨hw, hw, h.put, h.few, h.mks, h.num⟩
def MadeMem (w : World) (s : St) (e : Ending) (w' : World) : Prop :=
 ∃ y : Lay, e = .returned (.tuple #[.pointer (some ⟨y.g, 0, none⟩), .int .i64 0]) /\ MemAt w' y s /\ (∀ k, y.fp k -> w.heap.size <= k) /\ Below w.heap.size w w'
def OfR (w w1 : World) (y : Lay) (nl : Nat) (l : List Nat) (v : Value) (wr : World) : Prop :=
 ∃ k : Nat, k <= 64 * nl /\ v = .int .i64 (k : Int) /\ wr.ownsRow 0 29 1 (.slice (some ⟨y.gl, 0, none⟩) (8 * nl) y.cl) (8 * nl) ((wordsK l k (8 * nl)).map wv) /\ But w1 wr (fun k => k = y.gl)
theorem pOf_yes {w : World} {A : Option Addr} {cap nl : Nat} {l : List Nat} (hl : l.length = 64 * nl) (hA : Sl w A (l.map bv)) (hb : ∀ x ∈ l, x < 256) (h0 : 0 < nl) (h1 : nl <= 16384) :
  Calls Tryz.prog 20 #[.slice A (64 * nl) cap] w (MadeMem w (St.ofBytes nl l)) := by
 have mixed : Tryz.prog.follows .mixedOrders = true := by kernel_rfl
 have HN := Lib.hid (new_yes nl w h0 h1)
 obtain ⟨Z, hZ⟩ : ∃ Z, Z = 64 * nl := ⟨_, rfl⟩
 rw [<- hZ] at HN ⊢
 obtain ⟨a, rfl⟩ : ∃ a, A = some a := by
  obtain ⟨a, e, _⟩ := hA.at_ (i := 0) (by rw [List.length_map]; omega)
  exact ⟨a, e⟩
 have HA := Lib.hid hA
 have HL := Lib.hid hl
 have HB := Lib.hid hb
 have HZ := Lib.hid hZ
 have hZB : Z <= 1048576 := by omega
 clear hA hl hb hZ
 go_enter Tryz.func20, Tryz.ntmps20
 go_wp2_with fail
 refine HN.out.mono ?_
 rintro e w1 ⟨y, rfl, hm, hfp, hb1⟩
 have hd := hm.differ
 have c0 := hm.row.cell 0
 have c1 := hm.row.cell 1
 simp only [List.getElem?_toArray, List.getElem?_cons_succ, List.getElem?_cons_zero] at c0 c1
 obtain ⟨N, hN⟩ : ∃ N, N = 8 * nl := ⟨_, rfl⟩
 rw [show (St.zero nl).nl = nl from rfl, <- hN] at c0 c1
 have HM := Lib.hid hm
 have HD := Lib.hid hd
 have HFP := Lib.hid hfp
 have HB1 := Lib.hid hb1
 have HNN := Lib.hid hN
 have HC0 := Lib.hid c0
 have HC1 := Lib.hid c1
 clear hm hd hfp hb1 hN c0 c1 HN
 go_wp2
 go_loopw [19] (fun v wr => OfR w w1 y nl l v wr) (fun v _ => Z - (intOf v).toNat)
 case atStart => exact ⟨0, Nat.zero_le _, rfl, by rw [wordsK_zero]; exact HM.out.las, But.refl _ _⟩
 case round =>
  obtain ⟨k, hk, rfl, hown, hbut⟩ := hrel
  rename World => wr
  rw [<- HZ.out] at hk
  have HO := Lib.hid hown
  have HBT := Lib.hid hbut
  have c0 : wr.cell? ⟨y.g, 0, none⟩ = some (.slice (some ⟨y.gl, 0, none⟩) N y.cl) := hbut.cell HC0.out HD.out.g_gl
  by_cases hlt : k < Z
  ·have hkl : k < l.length := by rw [HL.out, <- HZ.out]; exact hlt
   have hcb : w.cell? (a.add k) = some (bv l[k]) := by
    have := HA.out.some_ (i := k) (by rw [List.length_map]; exact hkl)
    rwa [List.getElem_map] at this
   have hcw : wr.cell? (a.add k) = some (bv l[k]) := hbut.cell (by rw [HB1.out.cell (block_lt_of_cell hcb)]; exact hcb) (fun e => by
    have h1 := block_lt_of_cell hcb
    have h2 := HFP.out y.gl (.inr (.inl rfl))
    omega)
   have hx : l[k] < 256 := HB.out _ (List.getElem_mem hkl)
   have hp := pw_lt HB.out hkl
   have hpf := pw_fit HB.out k (k / 8)
   have hpf2 := pw_fit HB.out (k + 1) (k / 8)
   have hpa := pw_at hkl
   have h8 : k / 8 < 8 * nl := by have := HZ.out; omega
   have hcell : wr.cell? ⟨y.gl, k / 8, none⟩ = some (wv (pw l k (k / 8))) := by
    rw [hown.cellAt (k / 8) (by omega), List.getElem?_map, wordsK_get (by omega)]; rfl
   obtain ⟨cur, hcl⟩ := own_at hown
   have hfr := hcl.free (k / 8)
   obtain ⟨x, hxe⟩ : ∃ x, x = l[k] := ⟨_, rfl⟩
   rw [<- hxe] at hcw hx hpa
   obtain ⟨q, hq⟩ : ∃ q, q = pw l k (k / 8) := ⟨_, rfl⟩
   rw [<- hq] at hcell hp hpf hpa
   have hor : q ||| x * 2 ^ (8 * (k % 8)) = pw l (k + 1) (k / 8) := by rw [hpa]; exact or_add hp
   have hsm : x * 2 ^ (8 * (k % 8)) < 18446744073709551616 := by
    have e : (2 : Nat) ^ (8 * (k % 8)) = 256 ^ (k % 8) := by rw [Nat.pow_mul]
    rw [e]
    omega
   have hor2 : bits .or .u64 (q : Int) ((x * 2 ^ (8 * (k % 8)) : Nat) : Int) = ((pw l (k + 1) (k / 8) : Nat) : Int) := by rw [u64_or_nat _ _ hpf hsm, hor]
   have hwr : IntKind.u64.wrap ((x : Int) * 2 ^ (8 * (k % 8))) = ((x * 2 ^ (8 * (k % 8)) : Nat) : Int) := by
    rw [IntKind.wrap_u64]
    have : ((x : Int) * 2 ^ (8 * (k % 8))) = ((x * 2 ^ (8 * (k % 8)) : Nat) : Int) := by push_cast; rfl
    rw [this]
    omega
   rw [<- hwr] at hor2
   obtain ⟨E, hE⟩ : ∃ E, E = pw l (k + 1) (k / 8) := ⟨_, rfl⟩
   rw [<- hE] at hor2 hpf2
   have HE := Lib.hid hE
   have ca := fun p : LowBy wr => p.cell c0
   have cb := fun p : LowBy wr => p.cell hcell
   have HFR := Lib.hid hfr
   have HWR := Lib.hid (own_lt hown)
   have i1 : IntKind.i64.wrap ((k : Int).tdiv 8) = ((k / 8 : Nat) : Int) := by
    rw [Int.tdiv_eq_ediv_of_nonneg (by omega), IntWalk.i64_in _ (by omega)]; omega
   have i2 : IntKind.i64.wrap ((k : Int).tmod 8) = ((k % 8 : Nat) : Int) := by
    rw [Int.tmod_eq_emod_of_nonneg (by omega), IntWalk.i64_in _ (by omega)]; omega
   have i3 : IntKind.i64.wrap (8 * ((k % 8 : Nat) : Int)) = 8 * ((k % 8 : Nat) : Int) := IntWalk.i64_in _ (by omega)
   have i4 : (((k / 8 : Nat) : Int)).toNat = k / 8 := by omega
   have i5 : ((k / 8 : Nat) : Int) < (N : Int) := by have := HNN.out; have := HZ.out; omega
   have i6 : (0 : Int) <= ((k / 8 : Nat) : Int) := by omega
   unfold bv at hcw
   unfold wv at cb
   clear hown hbut hcb hkl hp hpa hcell hfr hxe hq hor hsm hwr hE c0 hk h8
   go_wp2_with fail
   refine wp_region_low_tail 16 (by assumption) (by kernel_rfl) ?_
   simp only [List.take_succ_cons, List.take_zero, List.drop_succ_cons, List.drop_zero]
   repeat (go_big_quiet_step (fail))
   refine wpQuiet_nil ?_
   intro _ hw'
   obtain ⟨p, hw''⟩ := hw'
   subst hw''
   have hpr : Row p.W y.gl 29 _ := hcl.below p.low hcl.lt
   have cq := cb p
   have fq := hpr.free (k / 8)
   have HPW := Lib.hid p.low
   clear ca cb hpr
   go_wp2
   go_roundw
   case rel =>
    refine ⟨k + 1, by rw [<- HZ.out]; exact hlt, by go_num, ?_, (HBT.out.trans (But.of_below HPW.out (fun k => k = y.gl)) (fun k hk => .inl hk)).set (p := ⟨y.gl, k / 8, none⟩) rfl _⟩
    have h1 := own_stored (own_keep HO.out HPW.out) (k / 8) (wv E)
    rw [set_map, HE.out, wordsK_set (by rw [HL.out, <- HZ.out]; exact hlt) (by have := HZ.out; omega), <- HE.out] at h1
    exact h1
   case measure => simp [intOf]; omega
  ·have hkz : k = Z := by omega
   rw [hkz, HZ.out] at hown
   obtain ⟨m2, t2⟩ := mem_las HM.out hown hbut
   have c1 : wr.cell? ⟨y.g, 1, none⟩ = some (.slice (some ⟨y.gv, 0, none⟩) N y.cv) := hbut.cell HC1.out HD.out.g_gl
   have ca := fun p : LowBy wr => p.cell c0
   have cb := fun p : LowBy wr => p.cell c1
   have HM2 := Lib.hid m2
   have HT2 := Lib.hid t2
   have hv := m2.vie
   obtain ⟨gv', cap', cur, hv0, _, hcur, hnc, hmx, hcsz, htk⟩ : ∃ g' cap cur, Value.slice (some ⟨y.gv, 0, none⟩) (8 * nl) y.cv = .slice (some ⟨g', 0, none⟩) (8 * nl) cap /\ 0 <= g' /\ wr.heap[g']? = some (.cells cur 29 (0, 0)) /\ 8 * nl <= cap /\ cap <= maxLen /\ cur.size = cap * 1 /\ True := by
    rcases hv.2 with ⟨h0, _⟩ | ⟨g', cap, cur, h0, hg, hh, hnc, hm, hsz, htk⟩
    ·cases h0
    ·exact ⟨g', cap, cur, h0, hg, hh, hnc, hm, hsz, trivial⟩
   simp only [Value.slice.injEq, Option.some.injEq, Addr.mk.injEq, and_true, true_and] at hv0
   obtain ⟨rfl, rfl⟩ := hv0
   obtain ⟨CL, hCL⟩ : ∃ CL, CL = cur.toList := ⟨_, rfl⟩
   have hcur' : wr.heap[y.gv]? = some (.cells CL.toArray 29 (0, 0)) := by rw [hCL]; exact hcur
   have hCLn : CL.length = y.cv := by rw [hCL, Array.length_toList, hcsz, Nat.mul_one]
   obtain ⟨LW, hLW⟩ : ∃ LW, LW = wordsK l (64 * nl) (8 * nl) := ⟨_, rfl⟩
   have hLWn : (LW.map wv).length = N := by rw [List.length_map, hLW, wordsK_len, HNN.out]
   rw [<- HNN.out] at hnc
   have HCU := Lib.hid hcur'
   have HLW := Lib.hid hLW
   have HLN := Lib.hid hLWn
   have HSRC := Lib.hid (show ∀ (p : LowBy wr) (j : Nat) (v : Value), (LW.map wv)[j]? = some v -> p.W.cell? ((⟨y.gl, 0, none⟩ : Addr).add j) = some v from fun p j v hj => by
    have e : (⟨y.gl, 0, none⟩ : Addr).add j = ⟨y.gl, j, none⟩ := by unfold Addr.add; split <;> simp_all
    have hjl : j < N := by have := (List.getElem?_eq_some_iff.1 hj).1; omega
    rw [e]
    refine p.cell ?_
    rw [hown.cellAt j (by have := HNN.out; omega), <- hLW]
    exact hj)
   clear hown hbut hkz hk m2 t2 hv hcur hcsz htk hCL hcur' hLW c0 c1 HO HBT
   go_wp2_with fail
   refine wp_region_low_tail 8 (by assumption) (by kernel_rfl) ?_
   simp only [List.take_succ_cons, List.take_zero, List.drop_succ_cons, List.drop_zero]
   repeat (go_big_quiet_step (fail))
   refine wpQuiet_nil ?_
   intro _ hw'
   obtain ⟨p, hw''⟩ := hw'
   subst hw''
   refine wpList_step fun K hK => step_copy_set (by rfl) (.tmp 44) (.tmp 48) 38 38 (by rfl) 29 Tryz.underlying38 size29 ⟨y.gl, 0, none⟩ N y.cv N y.cl y.gv 0 (by rfl) (by rfl) CL 29 (p.heap HCU.out) (LW.map wv) (by rw [HLN.out]; simp) (by rw [HLN.out, HNN.out]; omega) (HSRC.out p) (by rw [HLN.out, hCLn]; omega) (wv_ones _) ?_
   intro w' hrow hbt
   refine hK _ _ ?_
   have hvie : w'.ownsRow 0 29 1 (.slice (some ⟨y.gv, 0, none⟩) (8 * nl) y.cv) (8 * nl) (LW.map wv) := by
    refine ⟨by rw [HLN.out, HNN.out]; omega, .inr ⟨y.gv, y.cv, _, rfl, Nat.zero_le _, hrow, by rw [<- HNN.out]; exact hnc, hmx, ?_, ?_⟩⟩
    ·rw [List.size_toArray, length_splice _ _ _ (by rw [HLN.out, hCLn]; omega), hCLn, Nat.mul_one]
    ·rw [List.toList_toArray, Nat.mul_one, <- HNN.out]
     unfold splice
     rw [List.take_zero, List.nil_append, List.take_append_of_le_length (by rw [HLN.out]; omega), List.take_of_length_le (by rw [HLN.out]; omega)]
   obtain ⟨m3, t3⟩ := mem_vie (HM2.out.below p.low) hvie hbt
   have HM3 := Lib.hid m3
   have HT3 := Lib.hid ((HT2.out.trans (Turn.of_below y p.low)).trans t3)
   clear hvie hrow hbt m3 t3 ca cb
   go_wp2
   go_ret2
   refine ⟨y, rfl, ?_, HFP.out, HB1.out.trans (HT3.out.but.below HB1.out.size HFP.out)⟩
   unfold St.ofBytes
   rw [<- HLW.out]
   have h3 := HM3.out
   rw [<- HLW.out] at h3
   exact h3
def upW (n k : Nat) : Nat := n / 256 ^ k
theorem upW_zero (n : Nat) : upW n 0 = n := by simp [upW]
theorem upW_succ (n k : Nat) : upW n (k + 1) = upW n k / 256 := by unfold upW; rw [Nat.pow_succ, Nat.div_div_eq_div_mul]
theorem upW_le (n k : Nat) : upW n k <= n := Nat.div_le_self _ _
theorem wbyt_up (n k : Nat) : wbyt n k = upW n k % 256 := rfl
theorem pow_le8' {k : Nat} (h : k <= 8) : 256 ^ k <= 18446744073709551616 := Nat.pow_le_pow_right (n := 256) (by decide) h
def cfB (N : Nat) (f : Nat -> Nat) : Array Value := Array.ofFn fun i : Fin N => bv (f i.val)
theorem cfB_size (N : Nat) (f : Nat -> Nat) : (cfB N f).size = N := by simp [cfB]
theorem cfB_get {N i : Nat} {f : Nat -> Nat} (h : i < N) : (cfB N f)[i]? = some (bv (f i)) := by simp [cfB, h]
theorem cfB_set {N i : Nat} {f : Nat -> Nat} (v : Nat) : (cfB N f).setIfInBounds i (bv v) = cfB N (fun j => if j = i then v else f j) := by
 apply Array.ext_getElem?
 intro j
 rw [Array.getElem?_setIfInBounds]
 by_cases e : i = j
 ·subst e
  by_cases h : i < N
  ·rw [if_pos rfl, if_pos (by rw [cfB_size]; exact h), cfB_get h, if_pos rfl]
  ·rw [if_pos rfl, if_neg (by rw [cfB_size]; exact h)]
   exact (Array.getElem?_eq_none (by rw [cfB_size]; omega)).symm
 ·rw [if_neg e]
  by_cases h : j < N
  ·rw [cfB_get h, cfB_get h, if_neg (fun e' => e e'.symm)]
  ·rw [Array.getElem?_eq_none (by rw [cfB_size]; omega), Array.getElem?_eq_none (by rw [cfB_size]; omega)]
def putK (f : Nat -> Nat) (a n k : Nat) : Nat -> Nat := fun j => if a <= j /\ j < a + k then wbyt n (j - a) else f j
def putF (f : Nat -> Nat) (a n : Nat) : Nat -> Nat := putK f a n 8
theorem putK_zero (f : Nat -> Nat) (a n : Nat) : putK f a n 0 = f := by
 funext j
 unfold putK
 rw [if_neg (by omega)]
theorem putK_succ (f : Nat -> Nat) (a n k : Nat) : (fun j => if j = a + k then wbyt n k else putK f a n k j) = putK f a n (k + 1) := by
 funext j
 unfold putK
 by_cases e : j = a + k
 ·subst e
  rw [if_pos rfl, if_pos (by omega), show a + k - a = k by omega]
 ·rw [if_neg e]
  by_cases h : a <= j /\ j < a + k
  ·rw [if_pos h, if_pos (by omega)]
  ·rw [if_neg h, if_neg (by omega)]
def wrdF (f : Nat -> Nat) (a : Nat) : Nat := ofB ((List.range 8).map fun k => f (a + k))
def BytF (f : Nat -> Nat) : Prop := ∀ j, f j < 256
theorem BytF.put {f : Nat -> Nat} (h : BytF f) (a n : Nat) : BytF (putF f a n) := by
 intro j
 unfold putF putK
 split
 ·exact Nat.mod_lt _ (by decide)
 ·exact h j
theorem wrdF_lt {f : Nat -> Nat} (h : BytF f) (a : Nat) : wrdF f a < 18446744073709551616 := by
 have := ofB_lt (xs := (List.range 8).map fun k => f (a + k)) (by
  intro b hb
  obtain ⟨k, _, rfl⟩ := List.mem_map.1 hb
  exact h _)
 simpa [wrdF] using this
def wrdK (f : Nat -> Nat) (a k : Nat) : Nat := ofB ((List.range k).map fun i => f (a + (8 - k) + i))
theorem wrdK_succ (f : Nat -> Nat) (a : Nat) {k : Nat} (hk : k < 8) : wrdK f a (k + 1) = f (a + (7 - k)) + 256 * wrdK f a k := by
 unfold wrdK
 rw [List.range_succ_eq_map, List.map_cons, List.map_map]
 show f (a + (8 - (k + 1)) + 0) + 256 * ofB _ = _
 rw [show a + (8 - (k + 1)) + 0 = a + (7 - k) by omega]
 congr 3
 apply List.map_congr_left
 intro i _
 show f (a + (8 - (k + 1)) + (i + 1)) = _
 rw [show a + (8 - (k + 1)) + (i + 1) = a + (8 - k) + i by omega]
theorem wrdK_lt {f : Nat -> Nat} (h : BytF f) (a k : Nat) : wrdK f a k < 256 ^ k := by
 have := ofB_lt (xs := (List.range k).map fun i => f (a + (8 - k) + i)) (by
  intro b hb
  obtain ⟨i, _, rfl⟩ := List.mem_map.1 hb
  exact h _)
 simpa [wrdK] using this
structure Ar where
 n : Nat
 used : Nat
 value : Nat
 values : Nat
 node : Nat
 nodes : Nat
 f : Nat -> Nat
def Ar.N (A : Ar) : Nat := 1024 * (A.n + 1)
structure Ar.Ok (A : Ar) : Prop where
 n : A.n <= 64
 used : A.used <= A.n
 value : A.value <= A.used
 values : A.values <= 15
 node : A.node <= A.used
 nodes : A.nodes <= 5
 byt : BytF A.f
structure ArAt (w : World) (g gb : Nat) (LV : Value) (A : Ar) : Prop where
 row : Row w g 45 #[.slice (some ⟨gb, 0, none⟩) A.N A.N, .int .i64 (A.n : Int), .int .i64 (A.used : Int), .int .i64 (A.value : Int), .int .i64 (A.values : Int), .int .i64 (A.node : Int), .int .i64 (A.nodes : Int), LV]
 byt : Row w gb 5 (cfB A.N A.f)
theorem ArAt.ne {w : World} {g gb : Nat} {LV : Value} {A : Ar} (h : ArAt w g gb LV A) : g ≠ gb := fun e => by
 have h1 := h.row
 have h2 := h.byt
 unfold Row at h1 h2
 rw [e, h2] at h1
 have h3 := Option.some.inj h1
 injection h3 with _ h4 _
 exact absurd h4 (by decide)
theorem ArAt.below {w w' : World} {g gb : Nat} {LV : Value} {A : Ar} (h : ArAt w g gb LV A) (hb : Below w.heap.size w w') : ArAt w' g gb LV A := ⟨h.row.below hb h.row.lt, h.byt.below hb h.byt.lt⟩
def Ar.slab (A : Ar) (c : Nat) : Nat × Ar := if A.used = A.n then (0, A) else (A.used + 1, { A with used := A.used + 1, f := putF A.f (1024 * (A.used + 1)) c })
def Ar.taken (A : Ar) (s j : Nat) : Ar := { A with f := putF A.f (1024 * s + 8) ((wrdF A.f (1024 * s + 8) + 2 ^ j) % 18446744073709551616) }
def Ar.newV0 (A : Ar) : Ar := if A.value = 0 \/ A.values = 15 then { (A.slab 1).2 with value := (A.slab 1).1, values := 0 } else A
def Ar.newValue (A : Ar) : Nat × Ar := if A.newV0.value = 0 then (0, A.newV0) else (1024 * A.newV0.value + 64 * (A.newV0.values + 1), { A.newV0.taken A.newV0.value A.newV0.values with values := A.newV0.values + 1 })
def Ar.newN0 (A : Ar) : Ar := if A.node = 0 \/ A.nodes = 5 then { (A.slab 3).2 with node := (A.slab 3).1, nodes := 0 } else A
def Ar.newNode (A : Ar) : Nat × Ar := if A.newN0.node = 0 then (0, A.newN0) else (1024 * A.newN0.node + 64 + 192 * A.newN0.nodes, { A.newN0.taken A.newN0.node A.newN0.nodes with nodes := A.newN0.nodes + 1 })
theorem Ar.slab_ok {A : Ar} (h : A.Ok) (c : Nat) : (A.slab c).2.Ok /\ (A.slab c).1 <= (A.slab c).2.used /\ (A.slab c).2.n = A.n /\ A.used <= (A.slab c).2.used := by
 unfold Ar.slab
 split
 ·exact ⟨h, Nat.zero_le _, rfl, Nat.le_refl _⟩
 ·rename_i hne
  have h1 := h.used
  refine ⟨⟨h.n, by show A.used + 1 <= A.n; omega, by have := h.value; show A.value <= A.used + 1; omega, h.values, by have := h.node; show A.node <= A.used + 1; omega, h.nodes, h.byt.put _ _⟩, Nat.le_refl _, rfl, Nat.le_succ _⟩
theorem Ar.newV0_ok {A : Ar} (h : A.Ok) : A.newV0.Ok /\ A.newV0.n = A.n /\ (A.newV0.value ≠ 0 -> A.newV0.values < 15) := by
 unfold Ar.newV0
 split
 ·obtain ⟨h1, h2, h3, h4⟩ := Ar.slab_ok h 1
  exact ⟨⟨h1.n, h1.used, h2, Nat.zero_le _, h1.node, h1.nodes, h1.byt⟩, h3, fun _ => by show (0 : Nat) < 15; omega⟩
 ·rename_i hne
  exact ⟨h, rfl, fun _ => by have := h.values; have : A.values ≠ 15 := fun e => hne (.inr e); omega⟩
theorem Ar.newN0_ok {A : Ar} (h : A.Ok) : A.newN0.Ok /\ A.newN0.n = A.n /\ (A.newN0.node ≠ 0 -> A.newN0.nodes < 5) := by
 unfold Ar.newN0
 split
 ·obtain ⟨h1, h2, h3, h4⟩ := Ar.slab_ok h 3
  exact ⟨⟨h1.n, h1.used, h1.value, h1.values, h2, Nat.zero_le _, h1.byt⟩, h3, fun _ => by show (0 : Nat) < 5; omega⟩
 ·rename_i hne
  exact ⟨h, rfl, fun _ => by have := h.nodes; have : A.nodes ≠ 5 := fun e => hne (.inr e); omega⟩
theorem Ar.newValue_ok {A : Ar} (h : A.Ok) : A.newValue.2.Ok /\ A.newValue.2.n = A.n /\ (A.newValue.1 ≠ 0 -> 1024 <= A.newValue.1 /\ A.newValue.1 + 64 <= A.N /\ A.newValue.1 % 8 = 0) := by
 obtain ⟨h1, h2, h3⟩ := Ar.newV0_ok h
 unfold Ar.newValue
 split
 ·exact ⟨h1, h2, fun e => absurd rfl e⟩
 ·rename_i hne
  have h4 := h3 hne
  have h5 := h1.value
  have h6 := h1.used
  refine ⟨⟨h1.n, h1.used, h1.value, by show A.newV0.values + 1 <= 15; omega, h1.node, h1.nodes, h1.byt.put _ _⟩, h2, fun _ => ?_⟩
  unfold Ar.N
  show 1024 <= 1024 * A.newV0.value + 64 * (A.newV0.values + 1) /\ 1024 * A.newV0.value + 64 * (A.newV0.values + 1) + 64 <= 1024 * (A.n + 1) /\ (1024 * A.newV0.value + 64 * (A.newV0.values + 1)) % 8 = 0
  rw [h2] at h6
  omega
theorem Ar.newNode_ok {A : Ar} (h : A.Ok) : A.newNode.2.Ok /\ A.newNode.2.n = A.n /\ (A.newNode.1 ≠ 0 -> 1024 <= A.newNode.1 /\ A.newNode.1 + 192 <= A.N /\ A.newNode.1 % 8 = 0) := by
 obtain ⟨h1, h2, h3⟩ := Ar.newN0_ok h
 unfold Ar.newNode
 split
 ·exact ⟨h1, h2, fun e => absurd rfl e⟩
 ·rename_i hne
  have h4 := h3 hne
  have h5 := h1.node
  have h6 := h1.used
  refine ⟨⟨h1.n, h1.used, h1.value, h1.values, h1.node, by show A.newN0.nodes + 1 <= 5; omega, h1.byt.put _ _⟩, h2, fun _ => ?_⟩
  unfold Ar.N
  show 1024 <= 1024 * A.newN0.node + 64 + 192 * A.newN0.nodes /\ 1024 * A.newN0.node + 64 + 192 * A.newN0.nodes + 192 <= 1024 * (A.n + 1) /\ (1024 * A.newN0.node + 64 + 192 * A.newN0.nodes) % 8 = 0
  rw [h2] at h6
  omega
def ArT (w : World) (g gb : Nat) (LV : Value) (A' : Ar) (w' : World) : Prop := ArAt w' g gb LV A' /\ But w w' (fun k => k = g \/ k = gb)
theorem arPut_any {w : World} {g gb : Nat} {LV : Value} {A : Ar} {a n : Nat} (h : ArAt w g gb LV A) (hA : A.n <= 64) (ha : a + 8 <= A.N) (hn : n < 18446744073709551616) :
  Calls Tryz.prog 46 #[.pointer (some ⟨g, 0, none⟩), .int .i64 (a : Int), .int .u64 (n : Int)] w fun e w' => e = .returned (.tuple #[]) /\ ArT w g gb LV { A with f := putF A.f a n } w' := by
 have hne := h.ne
 have hrow := h.row
 have hbyt := h.byt
 obtain ⟨N, hN⟩ : ∃ N, N = A.N := ⟨_, rfl⟩
 rw [<- hN] at ha
 have hNB : N <= 66560 := by rw [hN]; unfold Ar.N; omega
 rw [<- hN] at hrow hbyt
 have HN := Lib.hid hN
 have HR := Lib.hid hrow
 have HY := Lib.hid hbyt
 have HNE := Lib.hid hne
 clear h hA hrow hbyt hN hne
 go_enter Tryz.func46, Tryz.ntmps46
 go_wp2
 go_loopw [2, 6] (fun q i wr => ∃ k : Nat, k <= 8 /\ q = .int .u64 (upW n k) /\ i = .int .i64 k /\ Row wr gb 5 (cfB N (putK A.f a n k)) /\ Row wr g 45 #[.slice (some ⟨gb, 0, none⟩) N N, .int .i64 (A.n : Int), .int .i64 (A.used : Int), .int .i64 (A.value : Int), .int .i64 (A.values : Int), .int .i64 (A.node : Int), .int .i64 (A.nodes : Int), LV] /\ But w wr (fun k => k = g \/ k = gb)) (fun _ i _ => 8 - (intOf i).toNat)
 case atStart => exact ⟨0, by omega, by rw [upW_zero], rfl, by rw [putK_zero]; exact HY.out, HR.out, But.refl _ _⟩
 case round =>
  obtain ⟨k, hk, rfl, rfl, hyt, hrw, hb⟩ := hrel
  have hun := upW_le n k
  have HYT := Lib.hid hyt
  have HRW := Lib.hid hrw
  have HB := Lib.hid hb
  by_cases h8 : k < 8
  ·have c0 : World.cell? _ ⟨g, 0, none⟩ = some (.slice (some ⟨gb, 0, none⟩) N N) := hrw.cell 0
   have hc := hyt.cell (a + k)
   rw [cfB_get (by omega)] at hc
   have hf := hyt.free (a + k)
   have hw : (IntKind.u8.wrap (upW n k : Int)) = ((wbyt n k : Nat) : Int) := by
    rw [wbyt_up]
    show ((upW n k : Nat) : Int) % 256 = _
    omega
   unfold bv at hc
   clear hyt hrw hb HY HR
   go_wp2
   go_roundw
   case rel => exact ⟨k + 1, by omega, by rw [upW_succ]; go_num, by go_num, by
    have h := HYT.out.set (a + k) (bv (wbyt n k))
    rw [cfB_set, putK_succ] at h
    unfold bv at h
    exact h, HRW.out.other (p := ⟨gb, a + k, none⟩) HNE.out _, HB.out.set (p := ⟨gb, a + k, none⟩) (.inr rfl) _⟩
   case measure => simp [intOf]; omega
  ·obtain rfl : k = 8 := by omega
   clear hyt hrw hb HY HR
   go_wp2
   go_end0
   refine ⟨rfl, ⟨?_, ?_⟩, HB.out⟩
   ·show Row _ _ _ #[.slice _ A.N A.N, _, _, _, _, _, _, _]
    rw [<- HN.out]
    exact HRW.out
   ·show Row _ _ _ (cfB A.N _)
    rw [<- HN.out]
    exact HYT.out
theorem arWord_any {w : World} {g gb : Nat} {LV : Value} {A : Ar} {a : Nat} (h : ArAt w g gb LV A) (hA : A.n <= 64) (ha : a + 8 <= A.N) (hB : BytF A.f) :
  Calls Tryz.prog 122 #[.pointer (some ⟨g, 0, none⟩), .int .i64 (a : Int)] w fun e w' => e = .returned (.int .u64 (wrdF A.f a : Int)) /\ w = w' := by
 have hrow := h.row
 have hbyt := h.byt
 obtain ⟨N, hN⟩ : ∃ N, N = A.N := ⟨_, rfl⟩
 rw [<- hN] at ha
 have hNB : N <= 66560 := by rw [hN]; unfold Ar.N; omega
 rw [<- hN] at hrow hbyt
 have c0 : w.cell? ⟨g, 0, none⟩ = some (.slice (some ⟨gb, 0, none⟩) N N) := hrow.cell 0
 have HY := Lib.hid hbyt
 have HB := Lib.hid hB
 clear h hA hrow hbyt hN hB
 go_enter Tryz.func122, Tryz.ntmps122
 go_wp2
 go_loop [5, 6] (fun q i => ∃ j : Nat, j <= 8 /\ q = .int .u64 (wrdK A.f a j : Nat) /\ i = .int .i64 (7 - (j : Int))) (fun _ i => (intOf i + 1).toNat)
 case atStart => exact ⟨0, by omega, rfl, rfl⟩
 case round =>
  obtain ⟨j, hj, rfl, rfl⟩ := hrel
  by_cases hlt : j < 8
  ·have hx := wrdK_lt HB.out a j
   have hp := pow_le8' (k := j + 1) (by omega)
   have hp2 : 256 ^ (j + 1) = 256 * 256 ^ j := by rw [Nat.pow_succ, Nat.mul_comm]
   have hq := wrdK_succ A.f a hlt
   obtain ⟨Q, hQ⟩ : ∃ Q, Q = wrdK A.f a j := ⟨_, rfl⟩
   rw [<- hQ] at hx hq ⊢
   have hx2 : Q * 256 + 255 < 18446744073709551616 := by omega
   have hc := HY.out.cell (a + (7 - j))
   rw [cfB_get (by omega)] at hc
   obtain ⟨b, hbe⟩ : ∃ b, b = A.f (a + (7 - j)) := ⟨_, rfl⟩
   have hb256 : b < 256 := by rw [hbe]; exact HB.out _
   rw [<- hbe] at hc hq
   have HQ := Lib.hid hq
   clear hp hp2 hx hQ hq hbe
   unfold bv at hc
   go_wp2
   go_round
   case rel => exact ⟨j + 1, by omega, by rw [HQ.out]; go_num, by go_num⟩
   case measure => simp [intOf]; omega
  ·obtain rfl : j = 8 := by omega
   go_wp2
   go_ret
   exact ⟨rfl, rfl⟩
theorem ArAt.used {w : World} {g gb : Nat} {LV : Value} {A : Ar} (h : ArAt w g gb LV A) (u : Nat) : ArAt (w.setCell ⟨g, 2, none⟩ (.int .i64 (u : Int))) g gb LV { A with used := u } /\ But w (w.setCell ⟨g, 2, none⟩ (.int .i64 (u : Int))) (fun k => k = g \/ k = gb) :=
 ⟨⟨h.row.set 2 _, h.byt.other (p := ⟨g, 2, none⟩) (fun e => h.ne e.symm) _⟩, (But.refl w _).set (p := ⟨g, 2, none⟩) (.inl rfl) _⟩
theorem ArAt.value {w : World} {g gb : Nat} {LV : Value} {A : Ar} (h : ArAt w g gb LV A) (u : Nat) : ArAt (w.setCell ⟨g, 3, none⟩ (.int .i64 (u : Int))) g gb LV { A with value := u } /\ But w (w.setCell ⟨g, 3, none⟩ (.int .i64 (u : Int))) (fun k => k = g \/ k = gb) :=
 ⟨⟨h.row.set 3 _, h.byt.other (p := ⟨g, 3, none⟩) (fun e => h.ne e.symm) _⟩, (But.refl w _).set (p := ⟨g, 3, none⟩) (.inl rfl) _⟩
theorem ArAt.values {w : World} {g gb : Nat} {LV : Value} {A : Ar} (h : ArAt w g gb LV A) (u : Nat) : ArAt (w.setCell ⟨g, 4, none⟩ (.int .i64 (u : Int))) g gb LV { A with values := u } /\ But w (w.setCell ⟨g, 4, none⟩ (.int .i64 (u : Int))) (fun k => k = g \/ k = gb) :=
 ⟨⟨h.row.set 4 _, h.byt.other (p := ⟨g, 4, none⟩) (fun e => h.ne e.symm) _⟩, (But.refl w _).set (p := ⟨g, 4, none⟩) (.inl rfl) _⟩
theorem ArAt.node {w : World} {g gb : Nat} {LV : Value} {A : Ar} (h : ArAt w g gb LV A) (u : Nat) : ArAt (w.setCell ⟨g, 5, none⟩ (.int .i64 (u : Int))) g gb LV { A with node := u } /\ But w (w.setCell ⟨g, 5, none⟩ (.int .i64 (u : Int))) (fun k => k = g \/ k = gb) :=
 ⟨⟨h.row.set 5 _, h.byt.other (p := ⟨g, 5, none⟩) (fun e => h.ne e.symm) _⟩, (But.refl w _).set (p := ⟨g, 5, none⟩) (.inl rfl) _⟩
theorem ArAt.nodes {w : World} {g gb : Nat} {LV : Value} {A : Ar} (h : ArAt w g gb LV A) (u : Nat) : ArAt (w.setCell ⟨g, 6, none⟩ (.int .i64 (u : Int))) g gb LV { A with nodes := u } /\ But w (w.setCell ⟨g, 6, none⟩ (.int .i64 (u : Int))) (fun k => k = g \/ k = gb) :=
 ⟨⟨h.row.set 6 _, h.byt.other (p := ⟨g, 6, none⟩) (fun e => h.ne e.symm) _⟩, (But.refl w _).set (p := ⟨g, 6, none⟩) (.inl rfl) _⟩
theorem arSlab_any {w : World} {g gb : Nat} {LV : Value} {A : Ar} {c : Nat} (h : ArAt w g gb LV A) (ok : A.Ok) (hc : c < 18446744073709551616) :
  Calls Tryz.prog 85 #[.pointer (some ⟨g, 0, none⟩), .int .u64 (c : Int)] w fun e w' => e = .returned (.int .i64 ((A.slab c).1 : Int)) /\ ArT w g gb LV (A.slab c).2 w' := by
 have mixed : Tryz.prog.follows .mixedOrders = true := by kernel_rfl
 have c1 : w.cell? ⟨g, 1, none⟩ = some (.int .i64 (A.n : Int)) := h.row.cell 1
 have c2 : w.cell? ⟨g, 2, none⟩ = some (.int .i64 (A.used : Int)) := h.row.cell 2
 have f2 := h.row.free 2
 have h64 := ok.n
 have hu := ok.used
 by_cases e : A.used = A.n
 ·have d1 : (A.used == A.n) = true := by simpa using e
  have d2 : ((A.used : Int) == (A.n : Int)) = true := by simp; omega
  have H := Lib.hid h
  have E := Lib.hid (show A.slab c = (0, A) from if_pos e)
  clear h e
  go_enter Tryz.func85, Tryz.ntmps85
  go_wp2
  go_quiet (fail)
  go_wp2
  go_ret
  rw [E.out]
  exact ⟨rfl, H.out.below (drewN_below _ _), But.of_below (drewN_below _ _) _⟩
 ·have d1 : (A.used == A.n) = false := by simpa using e
  have d2 : ((A.used : Int) == (A.n : Int)) = false := by rw [Bool.eq_false_iff]; intro k; have := beq_iff_eq.1 k; omega
  obtain ⟨U, hU⟩ : ∃ U : Nat, U = A.used + 1 := ⟨_, rfl⟩
  have hUI : (A.used : Int) + 1 = (U : Int) := by omega
  have hU1 : U <= 64 := by omega
  have HPP := Lib.hid fun q => (show Calls Tryz.prog 46 #[.pointer (some ⟨g, 0, none⟩), .int .i64 (1024 * (U : Int)), .int .u64 (c : Int)] ((w.drewN q).setCell ⟨g, 2, none⟩ (.int .i64 (U : Int))) _ from by
   have := arPut_any (a := 1024 * U) (n := c) ((h.below (drewN_below w q)).used U).1 h64 (by unfold Ar.N; show 1024 * U + 8 <= 1024 * (A.n + 1); omega) hc
   rw [show ((1024 * U : Nat) : Int) = 1024 * (U : Int) by omega] at this
   exact this)
  have HB1 := Lib.hid fun q => (But.of_below (drewN_below w q) (fun k => k = g \/ k = gb)).trans ((h.below (drewN_below w q)).used U).2 fun k hk => .inl hk
  have E := Lib.hid (show A.slab c = (U, { A with used := U, f := putF A.f (1024 * U) c }) from by rw [hU]; exact if_neg e)
  clear h hU e
  go_enter Tryz.func85, Tryz.ntmps85
  go_wp2
  go_quiet (fail)
  go_wp2_with fail
  refine (HPP.out nq).mono ?_
  rintro e w1 ⟨rfl, h2, hb2⟩
  have c3 : w1.cell? ⟨g, 2, none⟩ = some (.int .i64 (U : Int)) := h2.row.cell 2
  have H2 := Lib.hid h2
  have HB2 := Lib.hid hb2
  clear h2 hb2 HPP
  go_wp2
  go_ret
  rw [E.out]
  exact ⟨rfl, H2.out, (HB1.out nq).trans HB2.out fun k hk => .inl hk⟩
theorem pow2_le {j : Nat} (h : j <= 14) : 2 ^ j <= 16384 := Nat.pow_le_pow_right (n := 2) (by decide) h
theorem arTaken_any {w : World} {g gb : Nat} {LV : Value} {A : Ar} {s j : Nat} (h : ArAt w g gb LV A) (ok : A.Ok) (hs : s <= A.n) (hj : j <= 14) :
  Calls Tryz.prog 86 #[.pointer (some ⟨g, 0, none⟩), .int .i64 (s : Int), .int .i64 (j : Int)] w fun e w' => e = .returned (.tuple #[]) /\ ArT w g gb LV (A.taken s j) w' := by
 have h64 := ok.n
 have hs64 : s <= 64 := by omega
 have HW := arWord_any (a := 1024 * s + 8) h h64 (by unfold Ar.N; omega) ok.byt
 obtain ⟨V, hV⟩ : ∃ V, V = wrdF A.f (1024 * s + 8) := ⟨_, rfl⟩
 have hVL : V < 18446744073709551616 := by rw [hV]; exact wrdF_lt ok.byt _
 have HP := arPut_any (a := 1024 * s + 8) (n := (V + 2 ^ j) % 18446744073709551616) h h64 (by unfold Ar.N; omega) (Nat.mod_lt _ (by decide))
 have E := Lib.hid (show A.taken s j = { A with f := putF A.f (1024 * s + 8) ((V + 2 ^ j) % 18446744073709551616) } from by rw [hV]; rfl)
 rw [<- hV] at HW
 have hp := pow2_le hj
 obtain ⟨B, hB⟩ : ∃ B, B = 2 ^ j := ⟨_, rfl⟩
 rw [<- hB] at HP hp E
 obtain ⟨R, hR⟩ : ∃ R, R = (V + B) % 18446744073709551616 := ⟨_, rfl⟩
 rw [<- hR] at HP E
 have hRI : ((V : Int) + (B : Int)) % 18446744073709551616 = (R : Int) := by rw [hR]; omega
 rw [show ((1024 * s + 8 : Nat) : Int) = 1024 * (s : Int) + 8 by omega] at HW HP
 have HWW := Lib.hid HW
 have HPP := Lib.hid HP
 have HBB := Lib.hid hB
 clear h HW HP hV hB hR
 go_enter Tryz.func86, Tryz.ntmps86
 go_wp2
 go_loop [7, 8] (fun b i => ∃ k : Nat, k <= j /\ b = .int .u64 ((2 ^ k : Nat) : Int) /\ i = .int .i64 k) (fun _ i => j - (intOf i).toNat)
 case atStart => exact ⟨0, Nat.zero_le _, rfl, rfl⟩
 case round =>
  obtain ⟨k, hk, rfl, rfl⟩ := hrel
  by_cases hlt : k < j
  ·have hq := pow2_le (j := k) (by omega)
   have hs : 2 ^ (k + 1) = 2 * 2 ^ k := by rw [Nat.pow_succ, Nat.mul_comm]
   obtain ⟨Q, hQ⟩ : ∃ Q, Q = 2 ^ k := ⟨_, rfl⟩
   rw [<- hQ] at hq hs ⊢
   have HS := Lib.hid hs
   clear hQ hs
   go_wp2
   go_round
   case rel => exact ⟨k + 1, by omega, by rw [HS.out]; go_num, by go_num⟩
   case measure => simp [intOf]; omega
  ·obtain rfl : k = j := by omega
   rw [<- HBB.out]
   clear hlt
   go_wp2_with fail
   refine HWW.out.mono ?_
   rintro e w1 ⟨rfl, rfl⟩
   have hwr : IntKind.u64.wrap ((V : Int) + (B : Int)) = (R : Int) := hRI
   go_wp2_with fail
   have hpp := HPP.out
   refine Calls.mono hpp ?_
   rintro e w1 ⟨rfl, h2⟩
   go_wp2
   go_end0
   refine ⟨rfl, ?_⟩
   rw [E.out]
   exact h2
def wnat (n : Nd) (i : Nat) : Nat := (wAt (wi n) i).toNat
def layK (f : Nat -> Nat) (a : Nat) (n : Nd) : Nat -> Nat -> Nat
 | 0 => f
 | k + 1 => putF (layK f a n k) (a + 8 * k) (wnat n k)
def layF (f : Nat -> Nat) (a : Nat) (n : Nd) : Nat -> Nat := layK f a n 24
theorem layK_byt {f : Nat -> Nat} (h : BytF f) (a : Nat) (n : Nd) : ∀ k, BytF (layK f a n k)
 | 0 => h
 | k + 1 => (layK_byt h a n k).put _ _
theorem show_loadNA {P : Program} {ops : Array Oper} {rest : List Oper} {Q : Exit -> Act -> World -> Prop} {d : Option Nat} {t2 : TypeId} {x : Operand} {ps : String} {af : Array Edge} {g : Option (Nat × Bool)} {a : Act} {w : World} (h : wpList P ops Q (⟨d, .load 71 x, t2, ps, af, g⟩ :: rest) a w) : wpList P ops Q (⟨d, .load 71 x, t2, ps, af, g⟩ :: rest) a w := h
theorem show_storeWA {P : Program} {ops : Array Oper} {rest : List Oper} {Q : Exit -> Act -> World -> Prop} {d : Option Nat} {t2 : TypeId} {x y : Operand} {ps : String} {af : Array Edge} {a : Act} {w : World} (h : wpList P ops Q (⟨d, .store 145 x y, t2, ps, af, none⟩ :: rest) a w) : wpList P ops Q (⟨d, .store 145 x y, t2, ps, af, none⟩ :: rest) a w := h
theorem store_wA (w1 : World) (vs : List Value) (hl : vs.length = 24) : ∃ W2, W2 = (w1.alloc (.cells #[.int .u64 0, .int .u64 0, .int .u64 0, .int .u64 0, .int .u64 0, .int .u64 0, .int .u64 0, .int .u64 0, .int .u64 0, .int .u64 0, .int .u64 0, .int .u64 0, .int .u64 0, .int .u64 0, .int .u64 0, .int .u64 0, .int .u64 0, .int .u64 0, .int .u64 0, .int .u64 0, .int .u64 0, .int .u64 0, .int .u64 0, .int .u64 0] 145)).setCells w1.heap.size 0 vs /\ Row W2 w1.heap.size 145 vs.toArray /\ Below w1.heap.size w1 W2 :=
 ⟨_, rfl, row_setCells (Row.new w1 145 zeroW.toArray) hl, setCells_low _ (Nat.le_refl _) (alloc_low _ _)⟩
def WordsOk (n : Nd) : Prop := ∀ i, i < 24 -> 0 <= wAt (wi n) i /\ wAt (wi n) i < 18446744073709551616
theorem wnat_lt {n : Nd} (h : WordsOk n) {i : Nat} (hi : i < 24) : wnat n i < 18446744073709551616 := by
 have := h i hi
 unfold wnat
 omega
theorem words_at {n : Nd} (h : WordsOk n) {i : Nat} (hi : i < 24) : (wordsL n)[i]? = some (.int .u64 (wnat n i : Int)) := by
 rw [wi_words, List.getElem?_map]
 have h0 := h i hi
 have hl := wi_len n
 rw [List.getElem?_eq_getElem (by omega)]
 have e : wAt (wi n) i = (wi n)[i] := by
  unfold wAt
  rw [List.getD_eq_getElem?_getD, List.getElem?_eq_getElem (by omega)]
  rfl
 unfold wnat
 rw [e] at h0 ⊢
 rw [Int.toNat_of_nonneg h0.1]
 rfl
theorem arLay_any {w : World} {g gb : Nat} {LV : Value} {A : Ar} {a : Nat} {n : Nd} (h : ArAt w g gb LV A) (hA : A.n <= 64) (ha : a + 192 <= A.N) (hw : WordsOk n) :
  Calls Tryz.prog 89 #[.pointer (some ⟨g, 0, none⟩), .int .u64 (a : Int), n.V] w fun e w' => e = .returned (.tuple #[]) /\ ArT w g gb LV { A with f := layF A.f a n } w' := by
 have hN : A.N <= 66560 := by unfold Ar.N; omega
 have HWD := Lib.hid fun W => r8Words_any n W
 obtain ⟨VS, hVS⟩ : ∃ VS, VS = wordsL n := ⟨_, rfl⟩
 rw [<- hVS] at HWD
 have hvl : VS.length = 24 := by rw [hVS]; exact wordsL_len n
 have hvo : ∀ v ∈ VS, v.oneCell' = true := by
  rw [hVS, wi_words]
  intro v hv
  obtain ⟨x, _, rfl⟩ := List.mem_map.1 hv
  rfl
 have HVA := Lib.hid (show ∀ i, i < 24 -> VS[i]? = some (.int .u64 (wnat n i : Int)) from fun i hi => by rw [hVS]; exact words_at hw hi)
 have HWL := Lib.hid (show ∀ i, i < 24 -> wnat n i < 18446744073709551616 from fun i hi => wnat_lt hw hi)
 have HPUT := Lib.hid fun (W : World) (k : Nat) (hk : k < 24) (hk2 : ArAt W g gb LV { A with f := layK A.f a n k }) => arPut_any (a := a + 8 * k) (n := wnat n k) hk2 hA (by show a + 8 * k + 8 <= A.N; omega) (wnat_lt hw hk)
 have H := Lib.hid h
 have HVL := Lib.hid hvl
 have HVO := Lib.hid hvo
 have rb := Row.new w 71 n.cl.toArray
 have HRB := Lib.hid (show NdAt (w.alloc (.cells n.cl.toArray 71)) w.heap.size n from rb)
 clear h hVS hw hvl hvo rb
 go_enter Tryz.func89, Tryz.ntmps89
 go_wp2_with (first
  | ((with_reducible refine show_loadNA ?_); refine wpList_load_mid rfl _ _ rfl w.heap.size 0 rfl n.cl _ (ndR HRB.out) Tryz.underlying71 rfl ndI ?_)
  | (go_at_call 123; refine (HWD.out _).mono ?_; rintro e w1 ⟨rfl, h1⟩; have HB1 := Lib.hid (low_and (alloc_low w (.cells n.cl.toArray 71)) h1); clear h1)
  | ((with_reducible refine show_storeWA ?_); refine wpList_store_row rfl _ _ _ rfl w1.heap.size VS rfl rfl (Row.new w1 145 zeroW.toArray) HVL.out (by rw [HVL.out]; exact w24I) HVO.out ?_))
 obtain ⟨W2, hW2, hr2, hb2⟩ := store_wA w1 VS HVL.out
 rw [<- hW2]
 have HB2 := Lib.hid (low_and HB1.out hb2)
 have HA2 := Lib.hid (H.out.below (low_and HB1.out hb2))
 have HR2 := Lib.hid hr2
 obtain ⟨gw, hgw⟩ : ∃ gw, gw = w1.heap.size := ⟨_, rfl⟩
 have HGW := Lib.hid (show gw ≠ g /\ gw ≠ gb from by
  have := H.out.row.lt
  have := H.out.byt.lt
  have := HB1.out.size
  omega)
 rw [<- hgw] at HR2 ⊢
 clear hW2 hr2 hb2 hgw HB1 HRB HWD
 go_loopw [7] (fun i wr => ∃ k : Nat, k <= 24 /\ i = .int .i64 (k : Int) /\ ArAt wr g gb LV { A with f := layK A.f a n k } /\ Row wr gw 145 VS.toArray /\ But w wr (fun q => q = g \/ q = gb)) (fun i _ => 24 - (intOf i).toNat)
 case atStart => exact ⟨0, Nat.zero_le _, rfl, HA2.out, HR2.out, But.of_below HB2.out _⟩
 case round =>
  rename World => wr
  obtain ⟨k, hk, rfl, har, hrw, hbt⟩ := hrel
  have HBT := Lib.hid hbt
  have HRW := Lib.hid hrw
  by_cases hlt : k < 24
  ·have HPK := Lib.hid (HPUT.out wr k hlt har)
   rw [show ((a + 8 * k : Nat) : Int) = (a : Int) + 8 * (k : Int) by omega] at HPK
   have ck : wr.cell? ⟨gw, k, none⟩ = some (.int .u64 (wnat n k : Int)) := by
    rw [hrw.cell, List.getElem?_toArray]
    exact HVA.out k hlt
   clear har hrw hbt HA2 HR2 HB2
   go_wp2_with fail
   refine HPK.out.mono ?_
   rintro e w3 ⟨rfl, h3, hb3⟩
   have HA3 := Lib.hid h3
   have HB3 := Lib.hid hb3
   clear h3 hb3
   go_wp2
   go_roundw
   case rel => exact ⟨k + 1, by omega, by go_num, HA3.out, HB3.out.row HRW.out (fun hq => hq.elim HGW.out.1 HGW.out.2), HBT.out.trans HB3.out fun q hq => .inl hq⟩
   case measure => simp [intOf]; omega
  ·obtain rfl : k = 24 := by omega
   have HAR := Lib.hid har
   clear har hrw hbt HA2 HR2 HB2
   go_wp2
   go_end0
   exact ⟨rfl, HAR.out, HBT.out⟩
end Go.Proofs.YtkbklooocdfcfaaGreatDoor
