/- Texts of this claim, packed: VKn, VLP. -/
import Derived.Test.YtnjecjcnkmgjmaaDoorPk25
import Derived.Test.YtnjecjcnkmgjmaaDoorPk10
import Derived.Laws.StructEq
import Derived.BigQuiet
import Derived.Deep.QuietTactic
/- The chapter's rows hold; where geo.rooms holds what its initialiser lays. -/
namespace Go.Proofs.YtnjecjcnkmgjmaaDoor
open Go.RowKit Go.Sort Go.Shelf
set_option linter.unusedVariables false
theorem mkB (n : Nat) (w : World) (h : n ≤ 1000) : (Instr.makeSlice 37 (.int .i64 (n : Int)) (.int .i64 (n : Int))).run Tryd.prog w = .ok (.slice (some ⟨w.heap.size, 0, none⟩) n n) (w.alloc (.cells ((List.replicate n 0).map bv).toArray 5)) := by
  obtain ⟨i0, hi, hz0, hz1, hz2⟩ := info_parts info5
  have h1 := run_make (P := Tryd.prog) w 37 5 i0 _ Tryd.underlying37 hi hz0 .i64 .i64 ((n : Nat) : Int) ((n : Nat) : Int) (by omega) (by omega) (by rw [hz2]; omega) (by omega)
  rw [h1, hz1]
  have e : madeCells (Value.int .u8 0).cells ((n : Int).toNat * 1) = ((List.replicate n 0).map bv).toArray := by
    rw [show (Value.int IntKind.u8 0).cells = #[.int .u8 0] from rfl, madeCells_one, List.map_replicate]
    simp [bv]
  rw [e]
  simp
theorem convB (n : Nat) (w : World) (h : 0 < n) : (convert 37 9 (.slice (some ⟨w.heap.size, 0, none⟩) n n)).run Tryd.prog (w.alloc (.cells ((List.replicate n 0).map bv).toArray 5)) = .ok (.string (strOf (List.replicate n 0))) (w.alloc (.cells ((List.replicate n 0).map bv).toArray 5)) :=
  conv_any n n (by simp) (sl_lit w 5 (List.replicate n 0) bv) (fun h => by cases h)
set_option maxRecDepth 100000 in
/-- A text of n noughts, made. -/
theorem zeros12 (n : Nat) (h : 0 < n) (h1 : n ≤ 1000) : ∃ (C : Array Value) (S : ByteArray), S.size = n ∧ (∀ W : World, (Instr.makeSlice 37 (.int .i64 (n : Int)) (.int .i64 (n : Int))).run Tryd.prog W = .ok (.slice (some ⟨W.heap.size, 0, none⟩) n n) (W.alloc (.cells C 5))) ∧
    ∀ W : World, (convert 37 9 (.slice (some ⟨W.heap.size, 0, none⟩) n n)).run Tryd.prog (W.alloc (.cells C 5)) = .ok (.string S) (W.alloc (.cells C 5)) :=
  ⟨_, strOf (List.replicate n 0), by rw [strOf_size, List.length_replicate], fun W => mkB n W h1, fun W => convB n W h⟩
theorem kcls (S : ByteArray) (n : Nat) (hS : S.size = n) (h : n ≤ 1000) (c k : Int) (hc : clsN (n : Int) = c) (hk : (if c = 0 then (10 : Int) else 0) = k) (W : World) (R : Rms W) : Calls Tryd.prog 9 #[.string S] W fun e w' => e = .returned (.tuple #[.int .i64 c, .int .i64 k]) ∧ Gr W w' := by
  have := vClass_any S W R (by unfold maxLen; omega)
  rw [hS, hc, hk] at this
  exact this
theorem kpar (c : Int) (l : List Nat) (n : Nat) (hn : l.length = n) (hl : n ≤ 16) (hw : Wrds l) (w : World) (R : Rms w) (k : Int) (hk : paK c l = k) :
    Calls Tryd.prog 27 #[.int .i64 c, .slice (some ⟨w.heap.size, 0, none⟩) n n] (w.alloc (.cells (l.map wv).toArray 22)) fun e w' => e = .returned (.tuple #[.string (paS c l), .int .i64 k]) ∧ Below w.heap.size w w' := by
  have := vParse_any c l _ n n (w.alloc (.cells (l.map wv).toArray 22)) (R.alloc _) hn (by omega) (Nat.le_refl _) (by unfold maxLen; omega) hw (sl_lit w 22 l wv)
  rw [hk] at this
  exact this.mono fun e w' ⟨he, hb⟩ => ⟨he, Below.and (alloc_below _ _) hb⟩
theorem kputs : putsV 1088 ⟨#[97, 98]⟩ = [(1088, 2), (1096, 25185)] := by decide +kernel
theorem kputsK : putsK 1088 ⟨#[97, 98]⟩ = 0 := by decide +kernel
set_option maxRecDepth 100000 in
theorem kput_any (w : World) (R : Rms w) : Calls Tryd.prog 10 #[.int .u64 1088, .string ⟨#[97, 98]⟩] w fun e w' => ∃ g cap, e = .returned (.tuple #[.slice (some ⟨g, 0, none⟩) 2 cap, .int .i64 0]) ∧ w'.cell? ⟨g, 0, none⟩ = some (.int .u64 1088) ∧ w'.cell? ⟨g, 1, none⟩ = some (.int .u64 2) ∧ w'.cell? ⟨g, 2, none⟩ = some (.int .u64 1096) ∧ w'.cell? ⟨g, 3, none⟩ = some (.int .u64 25185) ∧ Below w.heap.size w w' := by
  refine (vPuts_any 1088 ⟨#[97, 98]⟩ w R (by decide) (by decide)).mono ?_
  rintro e w' ⟨V, he, _, ho, hb⟩
  have ho := ho kputsK
  rw [kputsK] at he
  rw [kputs] at ho
  rcases ho.2 with ⟨_, h0⟩ | ⟨g, cap, cur, rfl, _⟩
  · exact absurd h0 (by decide)
  · refine ⟨g, cap, he, ?_, ?_, ?_, ?_, hb⟩
    · simpa [Addr.add, wv] using ho.cells rfl 0 _ rfl
    · simpa [Addr.add, wv] using ho.cells rfl 1 _ rfl
    · simpa [Addr.add, wv] using ho.cells rfl 2 _ rfl
    · simpa [Addr.add, wv] using ho.cells rfl 3 _ rfl
theorem kpa1 : paK 1 [57, 0, 0, 0, 0, 0, 0, 0, 0] = 11 := by decide +kernel
theorem kpa2 : paK 2 [56, 0, 0, 0, 0, 0, 0, 0, 0] = 11 := by decide +kernel
theorem kpa3 : paK 1 [1, 256] = 11 := by decide +kernel
theorem kpa4 : paK 1 [0, 7] = 0 := by decide +kernel
theorem kps4 : paS 1 [0, 7] = ⟨#[]⟩ := by decide +kernel
theorem wrds_lit (l : List Nat) (h : (l.all fun n => decide (n < 18446744073709551616)) = true) : Wrds l := fun n hn => of_decide_eq_true (List.all_eq_true.1 h n hn)
set_option maxRecDepth 100000 in
set_option maxHeartbeats 3200000 in
theorem known12_any (w : World) (R : Rms w) : Calls Tryd.prog 8 #[] w fun e w' => e = .returned (.bool true) ∧ Below w.heap.size w w' := by
  obtain ⟨C1, S1, e1, mk1, cv1⟩ := zeros12 56 (by omega) (by omega)
  obtain ⟨C2, S2, e2, mk2, cv2⟩ := zeros12 57 (by omega) (by omega)
  obtain ⟨C3, S3, e3, mk3, cv3⟩ := zeros12 121 (by omega) (by omega)
  have K1 := Lib.hid fun (W : World) (R : Rms W) => kcls S1 56 e1 (by omega) 1 0 (by decide) (by decide) W R
  have K2 := Lib.hid fun (W : World) (R : Rms W) => kcls S2 57 e2 (by omega) 2 0 (by decide) (by decide) W R
  have K3 := Lib.hid fun (W : World) (R : Rms W) => kcls S3 121 e3 (by omega) 0 10 (by decide) (by decide) W R
  have HP := Lib.hid fun (W : World) (R : Rms W) => kput_any W R
  have P1 := Lib.hid fun (W : World) (R : Rms W) => kpar 1 [57, 0, 0, 0, 0, 0, 0, 0, 0] 9 rfl (by omega) (wrds_lit _ (by decide)) W R 11 kpa1
  have P2 := Lib.hid fun (W : World) (R : Rms W) => kpar 2 [56, 0, 0, 0, 0, 0, 0, 0, 0] 9 rfl (by omega) (wrds_lit _ (by decide)) W R 11 kpa2
  have P3 := Lib.hid fun (W : World) (R : Rms W) => kpar 1 [1, 256] 2 rfl (by omega) (wrds_lit _ (by decide)) W R 11 kpa3
  have P4 := Lib.hid fun (W : World) (R : Rms W) => kpar 1 [0, 7] 2 rfl (by omega) (wrds_lit _ (by decide)) W R 0 kpa4
  rw [kps4] at P4
  obtain ⟨T1, hT1⟩ : ∃ T1, T1 = paS 1 [57, 0, 0, 0, 0, 0, 0, 0, 0] := ⟨_, rfl⟩
  obtain ⟨T2, hT2⟩ : ∃ T2, T2 = paS 2 [56, 0, 0, 0, 0, 0, 0, 0, 0] := ⟨_, rfl⟩
  obtain ⟨T3, hT3⟩ : ∃ T3, T3 = paS 1 [1, 256] := ⟨_, rfl⟩
  rw [← hT1] at P1
  rw [← hT2] at P2
  rw [← hT3] at P3
  have HR := Lib.hid R
  clear hT1 hT2 hT3 e1 e2 e3 R
  have M1 : ∀ W : World, (Instr.makeSlice 37 (.int .i64 56) (.int .i64 56)).run Tryd.prog W = .ok (.slice (some ⟨W.heap.size, 0, none⟩) 56 56) (W.alloc (.cells C1 5)) := mk1
  have M2 : ∀ W : World, (Instr.makeSlice 37 (.int .i64 57) (.int .i64 57)).run Tryd.prog W = .ok (.slice (some ⟨W.heap.size, 0, none⟩) 57 57) (W.alloc (.cells C2 5)) := mk2
  have M3 : ∀ W : World, (Instr.makeSlice 37 (.int .i64 121) (.int .i64 121)).run Tryd.prog W = .ok (.slice (some ⟨W.heap.size, 0, none⟩) 121 121) (W.alloc (.cells C3 5)) := mk3
  go_enter Tryd.func8, Tryd.ntmps8
  go_wp2_with fail
  refine (HP.out _ HR.out).mono ?_
  rintro e w1 ⟨g, cap, rfl, c0, c1, c2, c3, hb⟩
  have HB := Lib.hid hb
  have R1 := Lib.hid (HR.out.below hb)
  clear hb HP
  clear mk1 mk2 mk3
  have cellsKept : ∀ {W W' : World} (hb : Below W.heap.size W W'), (W.cell? ⟨g, 0, none⟩ = some (.int .u64 1088) ∧ W.cell? ⟨g, 1, none⟩ = some (.int .u64 2) ∧ W.cell? ⟨g, 2, none⟩ = some (.int .u64 1096) ∧ W.cell? ⟨g, 3, none⟩ = some (.int .u64 25185)) → (W'.cell? ⟨g, 0, none⟩ = some (.int .u64 1088) ∧ W'.cell? ⟨g, 1, none⟩ = some (.int .u64 2) ∧ W'.cell? ⟨g, 2, none⟩ = some (.int .u64 1096) ∧ W'.cell? ⟨g, 3, none⟩ = some (.int .u64 25185)) :=
    fun hb h => ⟨(hb.cell (block_lt_of_cell h.1)).trans h.1, (hb.cell (block_lt_of_cell h.2.1)).trans h.2.1, (hb.cell (block_lt_of_cell h.2.2.1)).trans h.2.2.1, (hb.cell (block_lt_of_cell h.2.2.2)).trans h.2.2.2⟩
  have HK := Lib.hid (And.intro c0 (And.intro c1 (And.intro c2 c3)))
  clear c0 c1 c2 c3
  go_wp2_with fail
  refine (K1.out _ (R1.out.alloc _)).mono ?_
  rintro e w2 ⟨rfl, hg⟩
  have B2 := Lib.hid (Below.and (alloc_below _ _) hg.all)
  have R2 := Lib.hid (R1.out.below B2.out)
  clear hg K1 M1 cv1
  go_wp2_with fail
  refine (K2.out _ (R2.out.alloc _)).mono ?_
  rintro e w3 ⟨rfl, hg⟩
  have B3 := Lib.hid (Below.and (alloc_below _ _) hg.all)
  have R3 := Lib.hid (R2.out.below B3.out)
  clear hg K2 M2 cv2
  go_wp2_with fail
  refine (K3.out _ (R3.out.alloc _)).mono ?_
  rintro e w4 ⟨rfl, hg⟩
  have B4 := Lib.hid (Below.and (alloc_below _ _) hg.all)
  have R4 := Lib.hid (R3.out.below B4.out)
  clear hg K3 M3 cv3
  go_wp2_with fail
  refine (P1.out _ R4.out).mono ?_
  rintro e w5 ⟨rfl, hb⟩
  have B5 := Lib.hid hb
  have R5 := Lib.hid (R4.out.below hb)
  clear hb P1
  go_wp2_with fail
  refine (P2.out _ R5.out).mono ?_
  rintro e w6 ⟨rfl, hb⟩
  have B6 := Lib.hid hb
  have R6 := Lib.hid (R5.out.below hb)
  clear hb P2
  go_wp2_with fail
  refine (P3.out _ R6.out).mono ?_
  rintro e w7 ⟨rfl, hb⟩
  have B7 := Lib.hid hb
  have R7 := Lib.hid (R6.out.below hb)
  clear hb P3
  go_wp2_with fail
  refine (P4.out _ R7.out).mono ?_
  rintro e w8 ⟨rfl, hb⟩
  have B8 := Lib.hid hb
  clear hb P4
  have BB := Lib.hid (Below.and B2.out (Below.and B3.out (Below.and B4.out (Below.and B5.out (Below.and B6.out (Below.and B7.out B8.out))))))
  obtain ⟨c0, c1, c2, c3⟩ := cellsKept BB.out HK.out
  clear cellsKept HK
  go_wp2
  go_ret
  exact ⟨rfl, Below.and HB.out BB.out⟩
end Go.Proofs.YtnjecjcnkmgjmaaDoor
/- ValuePuts is walked: the class of any value, and its stores, are the document's; where geo.rooms holds what its initialiser lays. -/
namespace Go.Proofs.YtnjecjcnkmgjmaaDoor
open Go.RowKit Go.Sort Go.Shelf
set_option linter.unusedVariables false
set_option maxRecDepth 100000 in
theorem eqPut12 (a b c d : Int) (w : World) : (Op.equalIn 10000 35 (.agg #[.int .u64 a, .int .u64 b]) (.agg #[.int .u64 c, .int .u64 d])).run Tryd.prog w = .ok (a == c && b == d) w := by
  have u3 := Tryd.underlying22
  have a3 := Tryd.isAgg22
  have z3 := Tryd.sizeOf22
  have u4 := Tryd.underlying23
  have a4 := Tryd.isAgg23
  have z4 := Tryd.sizeOf23
  have hS : Tryd.prog.underlying 35 = some (.struct (Tryd.prog.fieldsOf 35)) := by kernel_rfl
  have hp : Tryd.prog.stoodInHeld 35 = false := by kernel_rfl
  rw [show (10000 : Nat) = 9999 + 1 from rfl, run_equalIn_agg w 9999 35 _ _ hS hp]
  simp only [Program.fieldsOf, Tryd.underlying35]
  go_simp
  by_cases h1 : a = c <;> by_cases h2 : b = d <;> simp [h1, h2]
/-- A row of stores, cell by cell. -/
theorem put_cells {w : World} {B n : Nat} {V : Value} {l : List (Nat × Nat)} (h : w.ownsRow B 35 2 V n (flat l)) (hn : l.length = n) (h0 : 0 < n) :
    ∃ g cap, V = .slice (some ⟨g, 0, none⟩) n cap ∧ n ≤ cap ∧ cap ≤ maxLen ∧ ∀ k, k < n → w.cell? ⟨g, k * 2, none⟩ = some (.int .u64 (((l.getD k (0, 0)).1 : Nat) : Int)) ∧ w.cell? ⟨g, k * 2 + 1, none⟩ = some (.int .u64 (((l.getD k (0, 0)).2 : Nat) : Int)) := by
  rcases h.2 with ⟨_, h1⟩ | ⟨g, cap, cur, rfl, _, _, hnc, hm, _, _⟩
  · omega
  · refine ⟨g, cap, rfl, hnc, hm, fun k hk => ?_⟩
    have hg := flat_get l k (by omega)
    rw [getD_at (by omega)]
    have h1 := h.cells rfl (2 * k) _ hg.1
    have h2 := h.cells rfl (2 * k + 1) _ hg.2
    rw [add_lit, Nat.mul_comm 2 k] at h1
    rw [add_lit, Nat.mul_comm 2 k] at h2
    exact ⟨h1, h2⟩
set_option maxRecDepth 100000 in
set_option maxHeartbeats 1600000 in
theorem valuePuts_long (b : Nat) (s : ByteArray) (n : Int) (w : World) (R : Rms w) (hs : s.size ≤ maxLen) (h : 300 < s.size) :
    Calls Tryd.prog 3 #[.int .u64 (b : Int), .string s, .int .i64 n] w fun e w' => e = .returned (.bool true) ∧ Below w.heap.size w w' := by
  have HK := Lib.hid (known12_any w R)
  unfold maxLen at hs
  have d : decide ((300 : Int) < (s.size : Int)) = true := by simp; omega
  have d2 : decide (300 < s.size) = true := by simp; omega
  clear R h
  go_enter Tryd.func3, Tryd.ntmps3
  go_wp2_with fail
  refine HK.out.mono ?_
  rintro e w1 ⟨rfl, hb⟩
  have HB := Lib.hid hb
  clear hb
  go_wp2
  go_ret
  exact ⟨rfl, HB.out⟩
set_option maxRecDepth 100000 in
set_option maxHeartbeats 3200000 in
theorem valuePuts_bad (b : Nat) (s : ByteArray) (n K : Int) (w : World) (R : Rms w) (hs : s.size ≤ 300) (hb : b < 18446744073709551616) (hk : putsK b s = K) (hK : K = 10 ∨ K = 2) :
    Calls Tryd.prog 3 #[.int .u64 (b : Int), .string s, .int .i64 n] w fun e w' => e = .returned (.bool true) ∧ Below w.heap.size w w' := by
  have hsm : s.size ≤ maxLen := by unfold maxLen; omega
  have H1 := Lib.hid fun (W : World) (R : Rms W) => vClass_any s W R hsm
  have H2 := Lib.hid fun (W : World) (R : Rms W) => vPuts_any b s W R hsm hb
  have H3 := Lib.hid fun (W : World) => r12Puts_any b s W hsm hb
  rw [hk] at H2 H3
  have H4 := Lib.hid fun (W : World) => refClass_any (s.size : Int) W
  have H5 := Lib.hid fun (W : World) => vWords_any n W
  have H6 := Lib.hid fun (W : World) => r12Words_any n W
  have HK := Lib.hid fun (W : World) (R : Rms W) => known12_any W R
  have hcz := @clsN_zero s.size
  obtain ⟨c, hc⟩ : ∃ c, c = clsN (s.size : Int) := ⟨_, rfl⟩
  rw [← hc] at H1 H4 hcz
  obtain ⟨v, hv⟩ : ∃ v, v = vw n := ⟨_, rfl⟩
  rw [← hv] at H5 H6
  obtain ⟨ck, hck⟩ : ∃ ck : Int, ck = if c = 0 then 10 else 0 := ⟨_, rfl⟩
  rw [← hck] at H1
  have HR := Lib.hid R
  have k0 : (K != 0) = true := by rcases hK with rfl | rfl <;> rfl
  have k00 : K ≠ 0 := by rcases hK with rfl | rfl <;> decide
  have kk : (K != K) = false := by simp
  have vv : (v != v) = false := by simp
  have cc : (c != c) = false := by simp
  obtain ⟨bb, hbb⟩ : ∃ bb, bb = decide (120 < s.size) := ⟨_, rfl⟩
  have e1 : (ck == 10) = bb := by
    rw [hck, hbb]
    by_cases h : c = 0
    · rw [if_pos h]; have := hcz.1 h; simp; omega
    · rw [if_neg h]; have : s.size ≤ 120 := Decidable.not_not.1 fun h2 => h (hcz.2 h2); simp; omega
  have e2 : decide ((120 : Int) < (s.size : Int)) = bb := by rw [hbb]; exact decide_eq_decide.2 (by omega)
  have e3 : decide (120 < s.size) = bb := by rw [hbb]
  have e4 : (bb != bb) = false := by simp
  have d : decide ((300 : Int) < (s.size : Int)) = false := by simp; omega
  have d2 : decide (300 < s.size) = false := by simp; omega
  clear R hc hv hck hk hK hcz hbb hsm hb
  go_enter Tryd.func3, Tryd.ntmps3
  go_wp2_with fail
  refine (H1.out _ HR.out).mono ?_
  rintro e w1 ⟨rfl, hg⟩
  have B1 := Lib.hid hg.all
  have R1 := Lib.hid (HR.out.gr hg)
  clear hg H1
  go_wp2_with fail
  refine (H2.out _ R1.out).mono ?_
  rintro e w2 ⟨V, rfl, hnil, _, hb⟩
  obtain rfl := hnil k00
  have B2 := Lib.hid hb
  have R2 := Lib.hid (R1.out.below hb)
  clear hb H2 hnil
  go_wp2_with fail
  refine (H3.out _).mono ?_
  rintro e w3 ⟨V, rfl, hnil, _, hb⟩
  obtain rfl := hnil k00
  have B3 := Lib.hid hb
  have R3 := Lib.hid (R2.out.below hb)
  clear hb H3 hnil
  go_wp2_with fail
  refine (H4.out _).mono ?_
  rintro e w4 ⟨rfl, rfl⟩
  go_wp2_with fail
  refine (H5.out _).mono ?_
  rintro e w5 ⟨rfl, rfl⟩
  go_wp2_with fail
  refine (H6.out _).mono ?_
  rintro e w6 ⟨rfl, rfl⟩
  go_wp2
  go_loop [13] (fun i => i = .int .i64 0) (fun _ => 0)
  case atStart => rfl
  case round =>
    subst hrel
    go_wp2_with fail
    refine (HK.out _ R3.out).mono ?_
    rintro e w7 ⟨rfl, hb⟩
    have B7 := Lib.hid hb
    clear hb HK
    go_wp2
    go_ret
    exact ⟨rfl, Below.and B1.out (Below.and B2.out (Below.and B3.out B7.out))⟩
set_option maxRecDepth 100000 in
set_option maxHeartbeats 3200000 in
theorem valuePuts_ok (b : Nat) (s : ByteArray) (n : Int) (w : World) (R : Rms w) (hs : s.size ≤ 300) (hb : b < 18446744073709551616) (hk : putsK b s = 0) :
    Calls Tryd.prog 3 #[.int .u64 (b : Int), .string s, .int .i64 n] w fun e w' => e = .returned (.bool true) ∧ Below w.heap.size w w' := by
  have hsm : s.size ≤ maxLen := by unfold maxLen; omega
  have hs120 : s.size ≤ 120 := by
    unfold putsK at hk
    by_cases h : s.size ≤ 120
    · exact h
    · rw [if_pos h] at hk; cases hk
  have H1 := Lib.hid fun (W : World) (R : Rms W) => vClass_any s W R hsm
  have H2 := Lib.hid fun (W : World) (R : Rms W) => vPuts_any b s W R hsm hb
  have H3 := Lib.hid fun (W : World) => r12Puts_any b s W hsm hb
  rw [hk] at H2 H3
  have H4 := Lib.hid fun (W : World) => refClass_any (s.size : Int) W
  have H5 := Lib.hid fun (W : World) => vWords_any n W
  have H6 := Lib.hid fun (W : World) => r12Words_any n W
  have H7 := Lib.hid fun (W : World) => r12Words_any (s.size : Int) W
  have HK := Lib.hid fun (W : World) (R : Rms W) => known12_any W R
  have hcz := @clsN_zero s.size
  have hvw := vw_cnt s.size
  rw [cnt_yes hs120] at hvw
  rw [hvw] at H7
  have hpl : (putsV b s).length = 1 + (s.size + 7) / 8 := putsTo_length _ _ _
  obtain ⟨c, hc⟩ : ∃ c, c = clsN (s.size : Int) := ⟨_, rfl⟩
  rw [← hc] at H1 H4 hcz
  have c0 : c ≠ 0 := fun h => (hcz.1 h) hs120
  obtain ⟨v, hv⟩ : ∃ v, v = vw n := ⟨_, rfl⟩
  rw [← hv] at H5 H6
  have HR := Lib.hid R
  have vv : (v != v) = false := by simp
  have cc : (c != c) = false := by simp
  have e2 : decide ((120 : Int) < (s.size : Int)) = false := by simp; omega
  have e3 : decide (120 < s.size) = false := by simp; omega
  have d : decide ((300 : Int) < (s.size : Int)) = false := by simp; omega
  have d2 : decide (300 < s.size) = false := by simp; omega
  obtain ⟨m, hm⟩ : ∃ m, m = 1 + (s.size + 7) / 8 := ⟨_, rfl⟩
  rw [← hm] at H7 hpl
  have hm0 : 0 < m := by omega
  have hm17 : m ≤ 17 := by omega
  obtain ⟨L, hL⟩ : ∃ L, L = putsV b s := ⟨_, rfl⟩
  rw [← hL] at hpl
  have HM := Lib.hid hm
  have HL := Lib.hid hL
  have HPL := Lib.hid hpl
  have mm : ((m : Int) != (m : Int)) = false := by simp
  rw [if_neg c0] at H1
  clear R hc hv hk hcz hsm hb hm hL hpl hvw c0
  go_enter Tryd.func3, Tryd.ntmps3
  go_wp2_with fail
  refine (H1.out _ HR.out).mono ?_
  rintro e w1 ⟨rfl, hg⟩
  have B1 := Lib.hid hg.all
  have R1 := Lib.hid (HR.out.gr hg)
  clear hg H1
  go_wp2_with fail
  refine (H2.out _ R1.out).mono ?_
  rintro e w2 ⟨V, rfl, _, ho, hb⟩
  have ho := ho rfl
  rw [← HM.out, ← HL.out] at ho
  obtain ⟨g2, cap2, rfl, hc2, hcm2, hcl2⟩ := put_cells ho HPL.out hm0
  have C2 := Lib.hid hcl2
  have B2 := Lib.hid hb
  have R2 := Lib.hid (R1.out.below hb)
  clear hb H2 ho hcl2
  go_wp2_with fail
  refine (H3.out _).mono ?_
  rintro e w3 ⟨V, rfl, _, ho, hb⟩
  have ho := ho rfl
  rw [← HM.out, ← HL.out] at ho
  obtain ⟨g3, cap3, rfl, hc3, hcm3, hcl3⟩ := put_cells ho HPL.out hm0
  have C3 := Lib.hid hcl3
  have B3 := Lib.hid hb
  have R3 := Lib.hid (R2.out.below hb)
  have C2' := Lib.hid (show ∀ k, k < m → w3.cell? ⟨g2, k * 2, none⟩ = some (.int .u64 (((L.getD k (0, 0)).1 : Nat) : Int)) ∧ w3.cell? ⟨g2, k * 2 + 1, none⟩ = some (.int .u64 (((L.getD k (0, 0)).2 : Nat) : Int)) from fun k hk => ⟨(hb.cell (block_lt_of_cell (C2.out k hk).1)).trans (C2.out k hk).1, (hb.cell (block_lt_of_cell (C2.out k hk).2)).trans (C2.out k hk).2⟩)
  clear hb H3 ho hcl3 C2
  go_wp2_with fail
  refine (H4.out _).mono ?_
  rintro e w4 ⟨rfl, rfl⟩
  go_wp2_with fail
  refine (H5.out _).mono ?_
  rintro e w5 ⟨rfl, rfl⟩
  go_wp2_with fail
  refine (H6.out _).mono ?_
  rintro e w6 ⟨rfl, rfl⟩
  go_wp2
  go_loopw [13] (fun i wr => ∃ k : Nat, k ≤ m ∧ i = .int .i64 (k : Int) ∧ ∃ q, wr = w3.drewN q) (fun i _ => m - (intOf i).toNat)
  case atStart => exact ⟨0, by omega, rfl, 0, rfl⟩
  case round =>
    obtain ⟨k, hk, rfl, q, rfl⟩ := hrel
    by_cases hlt : k < m
    · obtain ⟨a1, a2⟩ := C2'.out k hlt
      obtain ⟨b1, b2⟩ := C3.out k hlt
      obtain ⟨u, hu⟩ : ∃ u, u = L.getD k (0, 0) := ⟨_, rfl⟩
      rw [← hu] at a1 a2 b1 b2
      obtain ⟨u1, u2⟩ := u
      dsimp only at a1 a2 b1 b2
      have hq := fun W => eqPut12 u1 u2 u1 u2 W
      have hee : (((u1 : Int) == (u1 : Int)) && ((u2 : Int) == (u2 : Int))) = true := by simp
      rw [hee] at hq
      clear hu hee
      go_wp2
      go_quiet (fail)
      go_wp2
      go_roundw
      case rel => exact ⟨k + 1, by omega, by go_num, q + nq, rfl⟩
      case measure => simp [intOf]; omega
    · obtain rfl : k = m := by omega
      have hkk : ((k : Int) == (k : Int)) = true := by simp
      have R3' := Lib.hid (R3.out.below (drewN_below w3 q))
      clear hlt C2' C3
      go_wp2_with fail
      refine (H7.out _).mono ?_
      rintro e w7 ⟨rfl, rfl⟩
      go_wp2_with fail
      refine (HK.out _ R3'.out).mono ?_
      rintro e w8 ⟨rfl, hb⟩
      have B8 := Lib.hid hb
      clear hb
      go_wp2
      go_ret
      exact ⟨rfl, Below.and B1.out (Below.and B2.out (Below.and B3.out (Below.and (drewN_below w3 q) B8.out)))⟩
theorem valuePuts_all (b : Int) (s : ByteArray) (n : Int) (w : World) (hb : (Lit.int .u64 b).wf = true) (hs : s.size ≤ maxLen) (_ : (Lit.int .i64 n).wf = true) (R : Rms w) :
    Calls Tryd.prog 3 #[.int .u64 b, .string s, .int .i64 n] w fun e w' => e = .returned (.bool true) ∧ Below w.heap.size w w' := by
  obtain ⟨b, rfl, hb'⟩ := wf_nat hb
  by_cases h : 300 < s.size
  · exact valuePuts_long b s n w R hs h
  · by_cases hk : putsK b s = 0
    · exact valuePuts_ok b s n w R (by omega) hb' hk
    · refine valuePuts_bad b s n (putsK b s) w R (by omega) hb' rfl ?_
      unfold putsK at hk ⊢
      by_cases h1 : s.size ≤ 120
      · rw [if_neg (Decidable.not_not.2 h1)] at hk ⊢
        by_cases h2 : wantA (b : Int) (clsN s.size) < 0
        · rw [if_pos h2]; exact .inr rfl
        · rw [if_neg h2] at hk; exact absurd rfl hk
      · rw [if_pos h1]; exact .inl rfl
end Go.Proofs.YtnjecjcnkmgjmaaDoor
