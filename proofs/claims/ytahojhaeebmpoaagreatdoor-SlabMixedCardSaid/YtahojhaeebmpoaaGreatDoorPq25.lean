/- Texts of this claim, packed: POf, RefB. -/
import Derived.Test.YtahojhaeebmpoaaGreatDoorPq23
import Derived.Test.YtahojhaeebmpoaaGreatDoorPq01
import Derived.Test.YtahojhaeebmpoaaGreatDoorPq03
/- Of a memory's bytes: what it answers, for bytes that a memory can have. -/
namespace Go.Proofs.YtahojhaeebmpoaaGreatDoor
open Go.RowKit
set_option linter.unusedVariables false
/-- The number that bytes are, the least one first. -/
def ofB : List Nat → Nat
  | [] => 0
  | b :: t => b + 256 * ofB t
theorem ofB_snoc (xs : List Nat) (b : Nat) : ofB (xs ++ [b]) = ofB xs + b * 256 ^ xs.length := by
  induction xs with
  | nil => simp [ofB]
  | cons x t ih =>
    show x + 256 * ofB (t ++ [b]) = x + 256 * ofB t + b * 256 ^ (t.length + 1)
    rw [ih, Nat.pow_succ, Nat.mul_add]
    have : 256 * (b * 256 ^ t.length) = b * (256 ^ t.length * 256) := by rw [Nat.mul_left_comm, Nat.mul_comm 256]
    omega
theorem ofB_lt {xs : List Nat} (h : ∀ x ∈ xs, x < 256) : ofB xs < 256 ^ xs.length := by
  induction xs with
  | nil => decide
  | cons x t ih =>
    show x + 256 * ofB t < 256 ^ (t.length + 1)
    have h1 := ih fun z hz => h z (List.mem_cons_of_mem _ hz)
    have h2 := h x List.mem_cons_self
    rw [Nat.pow_succ]
    omega
/-- The word i, of which the bytes below k are there. -/
def pw (l : List Nat) (k i : Nat) : Nat := ofB (((l.take k).drop (8 * i)).take 8)
def wordsK (l : List Nat) (k n : Nat) : List Nat := (List.range n).map (pw l k)
theorem wordsK_len (l : List Nat) (k n : Nat) : (wordsK l k n).length = n := by simp [wordsK]
theorem wordsK_get {l : List Nat} {k n i : Nat} (hi : i < n) : (wordsK l k n)[i]? = some (pw l k i) := by
  unfold wordsK
  rw [List.getElem?_map, List.getElem?_range hi]; rfl
theorem pw_zero (l : List Nat) (i : Nat) : pw l 0 i = 0 := by simp [pw, ofB]
theorem wordsK_zero (l : List Nat) (n : Nat) : wordsK l 0 n = List.replicate n 0 := by
  apply List.ext_getElem?
  intro q
  unfold wordsK
  rw [List.getElem?_map, List.getElem?_replicate]
  by_cases hq : q < n
  · rw [List.getElem?_range hq, if_pos hq, Option.map_some, pw_zero]
  · rw [List.getElem?_eq_none (l := List.range n) (by simpa using hq), if_neg hq]; rfl
theorem pw_other {l : List Nat} {k i : Nat} (hk : k < l.length) (hi : i ≠ k / 8) : pw l (k + 1) i = pw l k i := by
  unfold pw
  congr 1
  apply List.ext_getElem?
  intro q
  rw [List.getElem?_take, List.getElem?_take]
  by_cases hq : q < 8
  · rw [if_pos hq, if_pos hq, List.getElem?_drop, List.getElem?_drop, List.getElem?_take, List.getElem?_take]
    by_cases h1 : 8 * i + q < k
    · rw [if_pos (by omega), if_pos h1]
    · rw [if_neg (by omega), if_neg h1]
  · rw [if_neg hq, if_neg hq]
theorem pw_part {l : List Nat} {k : Nat} (hk : k < l.length) : ((l.take k).drop (8 * (k / 8))).take 8 = (l.take k).drop (8 * (k / 8)) ∧ ((l.take k).drop (8 * (k / 8))).length = k % 8 := by
  have h2 : ((l.take k).drop (8 * (k / 8))).length = k % 8 := by rw [List.length_drop, List.length_take]; omega
  exact ⟨List.take_of_length_le (by omega), h2⟩
theorem pw_at {l : List Nat} {k : Nat} (hk : k < l.length) : pw l (k + 1) (k / 8) = pw l k (k / 8) + l[k] * 256 ^ (k % 8) := by
  obtain ⟨h1, h2⟩ := pw_part hk
  unfold pw
  rw [h1, ← h2, ← ofB_snoc]
  congr 1
  rw [List.take_succ_eq_append_getElem hk, List.drop_append_of_le_length (by rw [List.length_take]; omega), List.take_of_length_le]
  rw [List.length_append, h2]
  simp
  omega
theorem pw_lt {l : List Nat} (hb : ∀ x ∈ l, x < 256) {k : Nat} (hk : k < l.length) : pw l k (k / 8) < 256 ^ (k % 8) := by
  obtain ⟨h1, h2⟩ := pw_part hk
  unfold pw
  rw [h1, ← h2]
  exact ofB_lt fun x hx => hb x (List.mem_of_mem_take (List.mem_of_mem_drop hx))
theorem pw_fit {l : List Nat} (hb : ∀ x ∈ l, x < 256) (k i : Nat) : pw l k i < 18446744073709551616 := by
  unfold pw
  have h1 : ofB (((l.take k).drop (8 * i)).take 8) < 256 ^ (((l.take k).drop (8 * i)).take 8).length := ofB_lt fun x hx => hb x (List.mem_of_mem_take (List.mem_of_mem_drop (List.mem_of_mem_take hx)))
  have h2 : 256 ^ (((l.take k).drop (8 * i)).take 8).length ≤ 256 ^ 8 := Nat.pow_le_pow_right (by decide) (by rw [List.length_take]; exact Nat.min_le_left _ _)
  have h3 : (256 : Nat) ^ 8 = 18446744073709551616 := by decide
  omega
theorem wordsK_set {l : List Nat} {k n : Nat} (hk : k < l.length) (hn : k / 8 < n) : (wordsK l k n).set (k / 8) (pw l (k + 1) (k / 8)) = wordsK l (k + 1) n := by
  apply List.ext_getElem?
  intro q
  rw [List.getElem?_set, wordsK_len]
  by_cases e : k / 8 = q
  · subst e
    rw [if_pos rfl, if_pos hn, wordsK_get hn]
  · rw [if_neg e]
    by_cases hq : q < n
    · rw [wordsK_get hq, wordsK_get hq, pw_other hk (Ne.symm e)]
    · rw [List.getElem?_eq_none (by rw [wordsK_len]; omega), List.getElem?_eq_none (by rw [wordsK_len]; omega)]
theorem or_add {x b r : Nat} (hx : x < 256 ^ r) : x ||| b * 2 ^ (8 * r) = x + b * 256 ^ r := by
  have e : 256 ^ r = 2 ^ (8 * r) := by rw [Nat.pow_mul]
  rw [e] at hx ⊢
  rw [Nat.or_comm, ← Nat.shiftLeft_eq, ← Nat.shiftLeft_add_eq_or_of_lt hx]
  omega
/-- A memory's state, of bytes. -/
def St.ofBytes (nl : Nat) (l : List Nat) : St := { St.zero nl with lasted := wordsK l (64 * nl) (8 * nl), view := wordsK l (64 * nl) (8 * nl) }
theorem ofBytes_Ok {nl : Nat} {l : List Nat} (hb : ∀ x ∈ l, x < 256) : (St.ofBytes nl l).Ok := by
  have hw : ∀ x ∈ wordsK l (64 * nl) (8 * nl), x < 18446744073709551616 := by
    intro x hx
    unfold wordsK at hx
    obtain ⟨i, _, rfl⟩ := List.mem_map.1 hx
    exact pw_fit hb _ _
  have h := zero_Ok nl
  exact ⟨hw, hw, h.put, h.few, h.mks, h.num⟩
/-- A new memory of this state, in new blocks. -/
def MadeMem (w : World) (s : St) (e : Ending) (w' : World) : Prop :=
  ∃ y : Lay, e = .returned (.tuple #[.pointer (some ⟨y.g, 0, none⟩), .int .i64 0]) ∧ MemAt w' y s ∧ (∀ k, y.fp k → w.heap.size ≤ k) ∧ Below w.heap.size w w'
def OfR (w w1 : World) (y : Lay) (nl : Nat) (l : List Nat) (v : Value) (wr : World) : Prop :=
  ∃ k : Nat, k ≤ 64 * nl ∧ v = .int .i64 (k : Int) ∧ wr.ownsRow 0 23 1 (.slice (some ⟨y.gl, 0, none⟩) (8 * nl) y.cl) (8 * nl) ((wordsK l k (8 * nl)).map wv) ∧ But w1 wr (fun k => k = y.gl)
set_option maxRecDepth 100000 in
set_option maxHeartbeats 1600000 in
theorem pOf_yes {w : World} {A : Option Addr} {cap nl : Nat} {l : List Nat} (hl : l.length = 64 * nl) (hA : Sl w A (l.map bv)) (hb : ∀ x ∈ l, x < 256) (h0 : 0 < nl) (h1 : nl ≤ 16384) :
    Calls Tryz.prog 35 #[.slice A (64 * nl) cap] w (MadeMem w (St.ofBytes nl l)) := by
  have mixed : Tryz.prog.follows .mixedOrders = true := by kernel_rfl
  have HN := Lib.hid (new_yes nl w h0 h1)
  obtain ⟨Z, hZ⟩ : ∃ Z, Z = 64 * nl := ⟨_, rfl⟩
  rw [← hZ] at HN ⊢
  obtain ⟨a, rfl⟩ : ∃ a, A = some a := by
    obtain ⟨a, e, _⟩ := hA.at_ (i := 0) (by rw [List.length_map]; omega)
    exact ⟨a, e⟩
  have HA := Lib.hid hA
  have HL := Lib.hid hl
  have HB := Lib.hid hb
  have HZ := Lib.hid hZ
  have hZB : Z ≤ 1048576 := by omega
  clear hA hl hb hZ
  go_enter Tryz.func35, Tryz.ntmps35
  go_wp2_with fail
  refine HN.out.mono ?_
  rintro e w1 ⟨y, rfl, hm, hfp, hb1⟩
  have hd := hm.differ
  have c0 := hm.row.cell 0
  have c1 := hm.row.cell 1
  simp only [List.getElem?_toArray, List.getElem?_cons_succ, List.getElem?_cons_zero] at c0 c1
  obtain ⟨N, hN⟩ : ∃ N, N = 8 * nl := ⟨_, rfl⟩
  rw [show (St.zero nl).nl = nl from rfl, ← hN] at c0 c1
  have HM := Lib.hid hm
  have HD := Lib.hid hd
  have HFP := Lib.hid hfp
  have HB1 := Lib.hid hb1
  have HNN := Lib.hid hN
  have HC0 := Lib.hid c0
  have HC1 := Lib.hid c1
  clear hm hd hfp hb1 hN c0 c1 HN
  go_wp2
  go_loopw [19] (fun v wr => OfR w w1 y nl l v wr) (fun v _ => Z - (intOf v).toNat)
  case atStart => exact ⟨0, Nat.zero_le _, rfl, by rw [wordsK_zero]; exact HM.out.las, But.refl _ _⟩
  case round =>
    obtain ⟨k, hk, rfl, hown, hbut⟩ := hrel
    rename World => wr
    rw [← HZ.out] at hk
    have HO := Lib.hid hown
    have HBT := Lib.hid hbut
    have c0 : wr.cell? ⟨y.g, 0, none⟩ = some (.slice (some ⟨y.gl, 0, none⟩) N y.cl) := hbut.cell HC0.out HD.out.g_gl
    by_cases hlt : k < Z
    · have hkl : k < l.length := by rw [HL.out, ← HZ.out]; exact hlt
      have hcb : w.cell? (a.add k) = some (bv l[k]) := by
        have := HA.out.some_ (i := k) (by rw [List.length_map]; exact hkl)
        rwa [List.getElem_map] at this
      have hcw : wr.cell? (a.add k) = some (bv l[k]) := hbut.cell (by rw [HB1.out.cell (block_lt_of_cell hcb)]; exact hcb) (fun e => by
        have h1 := block_lt_of_cell hcb
        have h2 := HFP.out y.gl (.inr (.inl rfl))
        omega)
      have hx : l[k] < 256 := HB.out _ (List.getElem_mem hkl)
      have hp := pw_lt HB.out hkl
      have hpf := pw_fit HB.out k (k / 8)
      have hpf2 := pw_fit HB.out (k + 1) (k / 8)
      have hpa := pw_at hkl
      have h8 : k / 8 < 8 * nl := by have := HZ.out; omega
      have hcell : wr.cell? ⟨y.gl, k / 8, none⟩ = some (wv (pw l k (k / 8))) := by
        rw [hown.cellAt (k / 8) (by omega), List.getElem?_map, wordsK_get (by omega)]; rfl
      obtain ⟨cur, hcl⟩ := own_at hown
      have hfr := hcl.free (k / 8)
      obtain ⟨x, hxe⟩ : ∃ x, x = l[k] := ⟨_, rfl⟩
      rw [← hxe] at hcw hx hpa
      obtain ⟨q, hq⟩ : ∃ q, q = pw l k (k / 8) := ⟨_, rfl⟩
      rw [← hq] at hcell hp hpf hpa
      have hor : q ||| x * 2 ^ (8 * (k % 8)) = pw l (k + 1) (k / 8) := by rw [hpa]; exact or_add hp
      have hsm : x * 2 ^ (8 * (k % 8)) < 18446744073709551616 := by
        have e : (2 : Nat) ^ (8 * (k % 8)) = 256 ^ (k % 8) := by rw [Nat.pow_mul]
        rw [e]
        omega
      have hor2 : bits .or .u64 (q : Int) ((x * 2 ^ (8 * (k % 8)) : Nat) : Int) = ((pw l (k + 1) (k / 8) : Nat) : Int) := by rw [u64_or_nat _ _ hpf hsm, hor]
      have hwr : IntKind.u64.wrap ((x : Int) * 2 ^ (8 * (k % 8))) = ((x * 2 ^ (8 * (k % 8)) : Nat) : Int) := by
        rw [IntKind.wrap_u64]
        have : ((x : Int) * 2 ^ (8 * (k % 8))) = ((x * 2 ^ (8 * (k % 8)) : Nat) : Int) := by push_cast; rfl
        rw [this]
        omega
      rw [← hwr] at hor2
      obtain ⟨E, hE⟩ : ∃ E, E = pw l (k + 1) (k / 8) := ⟨_, rfl⟩
      rw [← hE] at hor2 hpf2
      have HE := Lib.hid hE
      have ca := fun p : LowBy wr => p.cell c0
      have cb := fun p : LowBy wr => p.cell hcell
      have HFR := Lib.hid hfr
      have HWR := Lib.hid (own_lt hown)
      have i1 : IntKind.i64.wrap ((k : Int).tdiv 8) = ((k / 8 : Nat) : Int) := by
        rw [Int.tdiv_eq_ediv_of_nonneg (by omega), IntWalk.i64_in _ (by omega)]; omega
      have i2 : IntKind.i64.wrap ((k : Int).tmod 8) = ((k % 8 : Nat) : Int) := by
        rw [Int.tmod_eq_emod_of_nonneg (by omega), IntWalk.i64_in _ (by omega)]; omega
      have i3 : IntKind.i64.wrap (8 * ((k % 8 : Nat) : Int)) = 8 * ((k % 8 : Nat) : Int) := IntWalk.i64_in _ (by omega)
      have i4 : (((k / 8 : Nat) : Int)).toNat = k / 8 := by omega
      have i5 : ((k / 8 : Nat) : Int) < (N : Int) := by have := HNN.out; have := HZ.out; omega
      have i6 : (0 : Int) ≤ ((k / 8 : Nat) : Int) := by omega
      unfold bv at hcw
      unfold wv at cb
      clear hown hbut hcb hkl hp hpa hcell hfr hxe hq hor hsm hwr hE c0 hk h8
      go_wp2_with fail
      refine wp_region_low_tail 16 (by assumption) (by kernel_rfl) ?_
      simp only [List.take_succ_cons, List.take_zero, List.drop_succ_cons, List.drop_zero]
      repeat (go_big_quiet_step (fail))
      refine wpQuiet_nil ?_
      intro _ hw'
      obtain ⟨p, hw''⟩ := hw'
      subst hw''
      have hpr : Row p.W y.gl 23 _ := hcl.below p.low hcl.lt
      have cq := cb p
      have fq := hpr.free (k / 8)
      have HPW := Lib.hid p.low
      clear ca cb hpr
      go_wp2
      go_roundw
      case rel =>
        refine ⟨k + 1, by rw [← HZ.out]; exact hlt, by go_num, ?_, (HBT.out.trans (But.of_below HPW.out (fun k => k = y.gl)) (fun k hk => .inl hk)).set (p := ⟨y.gl, k / 8, none⟩) rfl _⟩
        have h1 := own_stored (own_keep HO.out HPW.out) (k / 8) (wv E)
        rw [set_map, HE.out, wordsK_set (by rw [HL.out, ← HZ.out]; exact hlt) (by have := HZ.out; omega), ← HE.out] at h1
        exact h1
      case measure => simp [intOf]; omega
    · have hkz : k = Z := by omega
      rw [hkz, HZ.out] at hown
      obtain ⟨m2, t2⟩ := mem_las HM.out hown hbut
      have c1 : wr.cell? ⟨y.g, 1, none⟩ = some (.slice (some ⟨y.gv, 0, none⟩) N y.cv) := hbut.cell HC1.out HD.out.g_gl
      have ca := fun p : LowBy wr => p.cell c0
      have cb := fun p : LowBy wr => p.cell c1
      have HM2 := Lib.hid m2
      have HT2 := Lib.hid t2
      have hv := m2.vie
      obtain ⟨gv', cap', cur, hv0, _, hcur, hnc, hmx, hcsz, htk⟩ : ∃ g' cap cur, Value.slice (some ⟨y.gv, 0, none⟩) (8 * nl) y.cv = .slice (some ⟨g', 0, none⟩) (8 * nl) cap ∧ 0 ≤ g' ∧ wr.heap[g']? = some (.cells cur 23 (0, 0)) ∧ 8 * nl ≤ cap ∧ cap ≤ maxLen ∧ cur.size = cap * 1 ∧ True := by
        rcases hv.2 with ⟨h0, _⟩ | ⟨g', cap, cur, h0, hg, hh, hnc, hm, hsz, htk⟩
        · cases h0
        · exact ⟨g', cap, cur, h0, hg, hh, hnc, hm, hsz, trivial⟩
      simp only [Value.slice.injEq, Option.some.injEq, Addr.mk.injEq, and_true, true_and] at hv0
      obtain ⟨rfl, rfl⟩ := hv0
      obtain ⟨CL, hCL⟩ : ∃ CL, CL = cur.toList := ⟨_, rfl⟩
      have hcur' : wr.heap[y.gv]? = some (.cells CL.toArray 23 (0, 0)) := by rw [hCL]; exact hcur
      have hCLn : CL.length = y.cv := by rw [hCL, Array.length_toList, hcsz, Nat.mul_one]
      obtain ⟨LW, hLW⟩ : ∃ LW, LW = wordsK l (64 * nl) (8 * nl) := ⟨_, rfl⟩
      have hLWn : (LW.map wv).length = N := by rw [List.length_map, hLW, wordsK_len, HNN.out]
      rw [← HNN.out] at hnc
      have HCU := Lib.hid hcur'
      have HLW := Lib.hid hLW
      have HLN := Lib.hid hLWn
      have HSRC := Lib.hid (show ∀ (p : LowBy wr) (j : Nat) (v : Value), (LW.map wv)[j]? = some v → p.W.cell? ((⟨y.gl, 0, none⟩ : Addr).add j) = some v from fun p j v hj => by
        have e : (⟨y.gl, 0, none⟩ : Addr).add j = ⟨y.gl, j, none⟩ := by unfold Addr.add; split <;> simp_all
        have hjl : j < N := by have := (List.getElem?_eq_some_iff.1 hj).1; omega
        rw [e]
        refine p.cell ?_
        rw [hown.cellAt j (by have := HNN.out; omega), ← hLW]
        exact hj)
      clear hown hbut hkz hk m2 t2 hv hcur hcsz htk hCL hcur' hLW c0 c1 HO HBT
      go_wp2_with fail
      refine wp_region_low_tail 8 (by assumption) (by kernel_rfl) ?_
      simp only [List.take_succ_cons, List.take_zero, List.drop_succ_cons, List.drop_zero]
      repeat (go_big_quiet_step (fail))
      refine wpQuiet_nil ?_
      intro _ hw'
      obtain ⟨p, hw''⟩ := hw'
      subst hw''
      refine wpList_step fun K hK => step_copy_set (by rfl) (.tmp 44) (.tmp 48) 111 111 (by rfl) 23 Tryz.underlying111 size23 ⟨y.gl, 0, none⟩ N y.cv N y.cl y.gv 0 (by rfl) (by rfl) CL 23 (p.heap HCU.out) (LW.map wv) (by rw [HLN.out]; simp) (by rw [HLN.out, HNN.out]; omega) (HSRC.out p) (by rw [HLN.out, hCLn]; omega) (wv_ones _) ?_
      intro w' hrow hbt
      refine hK _ _ ?_
      have hvie : w'.ownsRow 0 23 1 (.slice (some ⟨y.gv, 0, none⟩) (8 * nl) y.cv) (8 * nl) (LW.map wv) := by
        refine ⟨by rw [HLN.out, HNN.out]; omega, .inr ⟨y.gv, y.cv, _, rfl, Nat.zero_le _, hrow, by rw [← HNN.out]; exact hnc, hmx, ?_, ?_⟩⟩
        · rw [List.size_toArray, length_splice _ _ _ (by rw [HLN.out, hCLn]; omega), hCLn, Nat.mul_one]
        · rw [List.toList_toArray, Nat.mul_one, ← HNN.out]
          unfold splice
          rw [List.take_zero, List.nil_append, List.take_append_of_le_length (by rw [HLN.out]; omega), List.take_of_length_le (by rw [HLN.out]; omega)]
      obtain ⟨m3, t3⟩ := mem_vie (HM2.out.below p.low) hvie hbt
      have HM3 := Lib.hid m3
      have HT3 := Lib.hid ((HT2.out.trans (Turn.of_below y p.low)).trans t3)
      clear hvie hrow hbt m3 t3 ca cb
      go_wp2
      go_ret2
      refine ⟨y, rfl, ?_, HFP.out, HB1.out.trans (HT3.out.but.below HB1.out.size HFP.out)⟩
      unfold St.ofBytes
      rw [← HLW.out]
      have h3 := HM3.out
      rw [← HLW.out] at h3
      exact h3
end Go.Proofs.YtahojhaeebmpoaaGreatDoor
/- The document's Put and Take: a word as eight bytes, and back. -/
namespace Go.Proofs.YtahojhaeebmpoaaGreatDoor
open Go.RowKit
set_option linter.unusedVariables false
def upW (n k : Nat) : Nat := n / 256 ^ k
theorem upW_zero (n : Nat) : upW n 0 = n := by simp [upW]
theorem upW_succ (n k : Nat) : upW n (k + 1) = upW n k / 256 := by unfold upW; rw [Nat.pow_succ, Nat.div_div_eq_div_mul]
theorem upW_le (n k : Nat) : upW n k ≤ n := Nat.div_le_self _ _
def b8A (n : Nat) : Array Value := Array.ofFn fun i : Fin 8 => bv (wbyt n i.val)
theorem b8A_size (n : Nat) : (b8A n).size = 8 := by simp [b8A]
theorem b8A_one (n : Nat) : (b8A n).all (·.oneCell') = true := by
  rw [Array.all_eq_true]
  intro i hi
  simp [b8A, bv, Value.oneCell']
theorem sizeB8 : (Tryz.prog.info? 78).map (·.size) = some 8 := by kernel_rfl
theorem b8A_fit (n : Nat) : (Tryz.prog.info? 78).map (·.size) = some (b8A n).size := by rw [b8A_size]; exact sizeB8
theorem b8A_old (n : Nat) : (Array.replicate 8 (bv 0)).size = (b8A n).size := by rw [b8A_size]; rfl
set_option maxHeartbeats 400000 in
theorem r1Put_any (n : Nat) (w : World) (hn : n < 18446744073709551616) :
    Calls Tryz.prog 33 #[wv n] w fun e w' => e = .returned (.agg (b8A n)) ∧ Below w.heap.size w w' := by
  unfold wv
  go_enter Tryz.func33, Tryz.ntmps33
  go_wp2
  go_loopw [0, 4] (fun q i wr => ∃ k : Nat, k ≤ 8 ∧ q = .int .u64 (upW n k) ∧ i = .int .i64 k ∧ Row wr (w.heap.size + 1) 78 (part 8 (fun j => decide (j < k)) (fun j => bv (wbyt n j)) (bv 0)) ∧
      Row wr w.heap.size 78 (Array.replicate 8 (bv 0)) ∧ Below w.heap.size w wr) (fun _ i _ => 8 - (intOf i).toNat)
  case atStart =>
    refine ⟨0, by omega, by rw [upW_zero], rfl, ?_, ?_, ?_⟩
    · rw [part_none 8 _ _ (by simp)]
      exact heap_alloc2_new w _ _
    · exact heap_alloc2_old w _ _
    · exact ((Below.refl _ _).alloc (Nat.le_refl _) _).alloc (by simp) _
  case round =>
    obtain ⟨k, hk, rfl, rfl, hrow, hres, hb⟩ := hrel
    have hun := upW_le n k
    by_cases h8 : k < 8
    · have hc := hrow.cell k
      rw [part_get h8] at hc
      have hf := hrow.free k
      simp only [decide_eq_true_eq, Nat.lt_irrefl, if_false] at hc
      have HRW := Lib.hid hrow
      have HRS := Lib.hid hres
      have HB := Lib.hid hb
      clear hrow hres hb
      go_wp2
      go_roundw
      case rel => exact ⟨k + 1, by omega, by rw [upW_succ]; go_num, by go_num, by
        have h := HRW.out.set k (bv (wbyt n k))
        rw [part_next 8 k (fun j => bv (wbyt n j)) (bv 0)] at h
        exact h, HRS.out.other (p := ⟨w.heap.size + 1, k, none⟩) (by show w.heap.size ≠ w.heap.size + 1; omega) _, HB.out.setCell (p := ⟨w.heap.size + 1, k, none⟩) (by show w.heap.size ≤ w.heap.size + 1; omega) _⟩
      case measure => simp [intOf]; omega
    · have hk8 : k = 8 := by omega
      subst hk8
      rw [part_all _ _ (by intro i hi; simpa using hi)] at hrow
      have hrow' : Row _ (w.heap.size + 1) 78 (b8A n) := hrow
      clear hrow
      have hfit := b8A_fit n
      have hold := b8A_old n
      have hone := b8A_one n
      go_wp2_with (first | (refine wpList_load_row rfl 78 _ rfl (w.heap.size + 1) rfl 78 _ _ _ hrow' Tryz.underlying78 rfl hfit ?_) | (refine wpList_store_row rfl 78 _ _ rfl w.heap.size (b8A n) rfl rfl 78 _ hres hfit hold hone ?_))
      refine bodyPost_ret (v := .agg (b8A n)) (results_cell_row Tryz.results33 _ _ w.heap.size 78 _ _ _ rfl (hres.setRow _) Tryz.underlying78 rfl hfit) rfl ⟨rfl, ?_⟩
      exact below_setRow hb (Nat.le_refl _) _
theorem ofBTake_succ (l : List Nat) (k j : Nat) (hj : j < 8) (h : k + 8 ≤ l.length) :
    ofB ((l.drop (k + 8 - (j + 1))).take (j + 1)) = (l[k + 8 - (j + 1)]'(by omega)) + 256 * ofB ((l.drop (k + 8 - j)).take j) := by
  have e : l.drop (k + 8 - (j + 1)) = (l[k + 8 - (j + 1)]'(by omega)) :: l.drop (k + 8 - j) := by
    rw [List.drop_eq_getElem_cons (by omega)]
    rw [show k + 8 - (j + 1) + 1 = k + 8 - j from by omega]
  rw [e, List.take_succ_cons, ofB]
theorem pow_le8' {k : Nat} (h : k ≤ 8) : 256 ^ k ≤ 18446744073709551616 := Nat.pow_le_pow_right (n := 256) (by decide) h
set_option maxHeartbeats 400000 in
theorem r1Take_any (l : List Nat) (a : Addr) (len cap k : Nat) (w : World) (hlen : l.length = len) (hl : len ≤ 1000000) (h : k + 8 ≤ len) (hb : ∀ x ∈ l, x < 256) (hs : Sl w (some a) (l.map bv)) :
    Calls Tryz.prog 40 #[.slice (some a) len cap, .int .i64 (k : Int)] w fun e w' => e = .returned (wv (ofB ((l.drop k).take 8))) ∧ w = w' := by
  subst hlen
  unfold wv
  go_enter Tryz.func40, Tryz.ntmps40
  go_wp2
  go_loop [5, 6] (fun q i => ∃ j : Nat, j ≤ 8 ∧ q = .int .u64 (ofB ((l.drop (k + 8 - j)).take j)) ∧ i = .int .i64 (7 - (j : Int))) (fun _ i => (intOf i + 1).toNat)
  case atStart => exact ⟨0, by omega, by simp [ofB], rfl⟩
  case round =>
    obtain ⟨j, hj, rfl, rfl⟩ := hrel
    by_cases hlt : j < 8
    · have hx := ofB_lt (xs := (l.drop (k + 8 - j)).take j) (fun b h => hb b (List.mem_of_mem_drop (List.mem_of_mem_take h)))
      have hlj : ((l.drop (k + 8 - j)).take j).length = j := by rw [List.length_take, List.length_drop]; omega
      rw [hlj] at hx
      have hp := pow_le8' (k := j + 1) (by omega)
      have hp2 : 256 ^ (j + 1) = 256 * 256 ^ j := by rw [Nat.pow_succ, Nat.mul_comm]
      have hq := ofBTake_succ l k j hlt h
      obtain ⟨Q, hQ⟩ : ∃ Q, Q = ofB ((l.drop (k + 8 - j)).take j) := ⟨_, rfl⟩
      rw [← hQ] at hx hq ⊢
      have hx2 : Q * 256 + 255 < 18446744073709551616 := by omega
      have hc := hs.some_ (i := k + 8 - (j + 1)) (by rw [List.length_map]; omega)
      rw [List.getElem_map] at hc
      obtain ⟨b, hbe⟩ : ∃ b, b = l[k + 8 - (j + 1)]'(by omega) := ⟨_, rfl⟩
      have hb256 : b < 256 := by rw [hbe]; exact hb _ (List.getElem_mem _)
      rw [← hbe] at hc hq
      have HQ := Lib.hid hq
      clear hp hp2 hx hQ hlj hq hbe
      have e1 : k + 8 - (j + 1) = k + (7 - j) := by omega
      rw [e1] at hc
      unfold bv at hc
      go_wp2
      go_round
      case rel => exact ⟨j + 1, by omega, by rw [HQ.out]; go_num, by go_num⟩
      case measure => simp [intOf]; omega
    · have hj8 : j = 8 := by omega
      subst hj8
      go_wp2
      go_ret
      exact ⟨rfl, rfl⟩
end Go.Proofs.YtahojhaeebmpoaaGreatDoor
