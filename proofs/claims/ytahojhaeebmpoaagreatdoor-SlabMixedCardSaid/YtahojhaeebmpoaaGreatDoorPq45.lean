/- Texts of this claim, packed: Img. -/
import Derived.Test.YtahojhaeebmpoaaGreatDoorPq25
import Derived.Test.YtahojhaeebmpoaaGreatDoorPq28
import Derived.Deep.RegionHeld3
/- The law's image of an arena: its bytes off the slabs' classes and bits. -/
namespace Go.Proofs.YtahojhaeebmpoaaGreatDoor
open Go.RowKit Go.Sort
set_option linter.unusedVariables false
/-- The law's heads: as a list, as cells. -/
def hdAt (l : List (Nat × Nat)) (i : Nat) : Nat × Nat := l.getD i (0, 0)
structure HeadsAt (w : World) (a : Addr) (l : List (Nat × Nat)) : Prop where
  cls : ∀ i, i < l.length → w.cell? (a.add (i * 2)) = some (wv (hdAt l i).1)
  bits : ∀ i, i < l.length → w.cell? ⟨(a.add (i * 2)).block, (a.add (i * 2)).off + 1, none⟩ = some (wv (hdAt l i).2)
theorem HeadsAt.below {w w' : World} {a : Addr} {l : List (Nat × Nat)} (h : HeadsAt w a l) (hb : Below w.heap.size w w') : HeadsAt w' a l :=
  ⟨fun i hi => (hb.cell (w.block_lt_of_cell? _ (h.cls i hi))).trans (h.cls i hi), fun i hi => (hb.cell (w.block_lt_of_cell? _ (h.bits i hi))).trans (h.bits i hi)⟩
def imF (l : List (Nat × Nat)) (f : Nat) (j : Nat) : Nat := if j < 1024 then f else if j % 1024 < 8 then wbyt (hdAt l (j / 1024 - 1)).1 (j % 1024) else if j % 1024 < 16 then wbyt (hdAt l (j / 1024 - 1)).2 (j % 1024 - 8) else f
def imL (l : List (Nat × Nat)) (f : Nat) : List Nat := (List.range (1024 * (l.length + 1))).map (imF l f)
theorem imL_len (l : List (Nat × Nat)) (f : Nat) : (imL l f).length = 1024 * (l.length + 1) := by simp [imL]
def imW (i k j : Nat) : Bool := decide (1024 ≤ j ∧ ((j / 1024 - 1 < i ∧ j % 1024 < 16) ∨ (j / 1024 - 1 = i ∧ (j % 1024 < k ∨ (8 ≤ j % 1024 ∧ j % 1024 < 8 + k)))))
def imV (l : List (Nat × Nat)) (f : Nat) (j : Nat) : Value := bv (imF l f j)
theorem imW_next (i k : Nat) (hk : k < 8) (j : Nat) : imW i (k + 1) j = ((imW i k j || j == 1024 * (i + 1) + k) || j == 1024 * (i + 1) + 8 + k) := by
  rw [Bool.eq_iff_iff]
  simp only [imW, Bool.or_eq_true, decide_eq_true_eq, beq_iff_eq]
  omega
theorem imW_succ (i j : Nat) : imW i 8 j = imW (i + 1) 0 j := by
  rw [Bool.eq_iff_iff]
  simp only [imW, decide_eq_true_eq]
  omega
theorem imF_cls (l : List (Nat × Nat)) (f i k : Nat) (hk : k < 8) : imF l f (1024 * (i + 1) + k) = wbyt (hdAt l i).1 k := by
  have e1 : (1024 * (i + 1) + k) / 1024 = i + 1 := by omega
  have e2 : (1024 * (i + 1) + k) % 1024 = k := by omega
  unfold imF
  rw [e1, e2, if_neg (by omega), if_pos hk]; rfl
theorem imF_bits (l : List (Nat × Nat)) (f i k : Nat) (hk : k < 8) : imF l f (1024 * (i + 1) + 8 + k) = wbyt (hdAt l i).2 k := by
  have e1 : (1024 * (i + 1) + 8 + k) / 1024 = i + 1 := by omega
  have e2 : (1024 * (i + 1) + 8 + k) % 1024 = 8 + k := by omega
  unfold imF
  rw [e1, e2, if_neg (by omega), if_neg (by omega), if_pos (by omega), show 8 + k - 8 = k from by omega]; rfl
theorem im_put {N i k : Nat} {l : List (Nat × Nat)} {f : Nat} (hk : k < 8) : ((part N (imW i k) (imV l f) (bv f)).setIfInBounds (1024 * (i + 1) + k) (bv (wbyt (hdAt l i).1 k))).setIfInBounds (1024 * (i + 1) + 8 + k) (bv (wbyt (hdAt l i).2 k)) = part N (imW i (k + 1)) (imV l f) (bv f) := by
  have e1 : bv (wbyt (hdAt l i).1 k) = imV l f (1024 * (i + 1) + k) := by unfold imV; rw [imF_cls _ _ _ _ hk]
  have e2 : bv (wbyt (hdAt l i).2 k) = imV l f (1024 * (i + 1) + 8 + k) := by unfold imV; rw [imF_bits _ _ _ _ hk]
  rw [e1, e2, part_set (q := fun j => imW i k j || j == 1024 * (i + 1) + k) (fun _ _ => rfl), part_set (q := imW i (k + 1)) (fun j _ => imW_next i k hk j)]
theorem im_end {l : List (Nat × Nat)} {f : Nat} : part (1024 * (l.length + 1)) (imW l.length 0) (imV l f) (bv f) = ((imL l f).map bv).toArray := by
  apply Array.ext
  · simp [part, imL]
  · intro j h1 h2
    have hj : j < 1024 * (l.length + 1) := by simpa [part] using h1
    simp only [part, Array.getElem_ofFn, List.getElem_toArray, List.getElem_map, imL, List.getElem_range]
    unfold imV
    cases hW : imW l.length 0 j
    · have : imF l f j = f := by
        simp only [imW, decide_eq_false_iff_not] at hW
        unfold imF
        split
        · rfl
        · rw [if_neg (by omega), if_neg (by omega)]
      rw [this]; rfl
    · rfl
theorem wbyt_lt (n k : Nat) : wbyt n k < 256 := Nat.mod_lt _ (by decide)
theorem imL_byte {l : List (Nat × Nat)} {f : Nat} (hf : f < 256) : ∀ x ∈ imL l f, x < 256 := by
  intro x hx
  unfold imL at hx
  obtain ⟨j, _, rfl⟩ := List.mem_map.1 hx
  unfold imF
  repeat' split
  all_goals first | exact hf | exact wbyt_lt _ _
def ImPost (w : World) (l : List (Nat × Nat)) (f : Nat) (e : Ending) (w' : World) : Prop :=
  ∃ g, e = .returned (.slice (some ⟨g, 0, none⟩) (1024 * (l.length + 1)) (1024 * (l.length + 1))) ∧ Row w' g 5 ((imL l f).map bv).toArray ∧ Below w.heap.size w w' ∧ w.heap.size ≤ g
/-- An alloc of eight bytes, a store of eight bytes, as one step each of a region that draws its order: the world as a letter. -/
theorem step_alloc8 {ops : Array Oper} {o : Oper} {a : Act} {w : World} {K : Act → World → Prop} {Q : Exit → Act → World → Prop} {E : Prop} (hgd : o.guard = none) (d : Nat) (hd : o.dst = some d) (ho : o.op = .alloc 78)
    (h : ∀ g w', g = w.heap.size → Row w' g 78 (Array.replicate 8 (bv 0)) → Below w.heap.size w w' → K (a.put (some d) (.pointer (some ⟨g, 0, none⟩))) w') :
    if Region.wanted o (yielded ops a.tmps) = true then Oper.wp Tryz.prog o a w K Q else E := by
  have hw : Region.wanted o (yielded ops a.tmps) = true := by simp [Region.wanted, hgd]
  rw [if_pos hw]
  unfold Oper.wp
  have e : (execOp a.eval o).run Tryz.prog w = .ok (.value (.pointer (some ⟨w.heap.size, 0, none⟩))) (w.alloc (.cells (Array.replicate 8 (bv 0)) 78)) := by
    unfold execOp
    simp only [ho]
    go_simp
    rfl
  rw [e, Oper.upon_value, hd]
  exact h _ _ rfl (Row.new _ _ _) (alloc_below _ _)
theorem step_store8 {ops : Array Oper} {o : Oper} {a : Act} {w : World} {K : Act → World → Prop} {Q : Exit → Act → World → Prop} {E : Prop} (hgd : o.guard = none) (x y : Operand) (ho : o.op = .store 78 x y)
    (g n : Nat) (old : Array Value) (hx : a.eval x = .pointer (some ⟨g, 0, none⟩)) (hy : a.eval y = .agg (b8A n)) (hr : Row w g 78 old) (hold : old.size = 8)
    (h : ∀ w', Row w' g 78 (b8A n) → (∀ k, k ≠ g → w'.heap[k]? = w.heap[k]?) → (∀ B, B ≤ g → B ≤ w.heap.size → Below B w w') → K (a.put o.dst undef) w') :
    if Region.wanted o (yielded ops a.tmps) = true then Oper.wp Tryz.prog o a w K Q else E := by
  have hw : Region.wanted o (yielded ops a.tmps) = true := by simp [Region.wanted, hgd]
  rw [if_pos hw]
  refine wp_store_row 78 x y ho g (b8A n) hx hy 78 old hr (b8A_fit n) (by rw [hold, b8A_size]) (b8A_one n) ?_
  exact h _ (hr.setRow _) (fun k hk => setRow_other w g k _ hk) (fun B hB hB2 => below_setRow (Below.refl _ _) hB _)
theorem b8A_get {n k : Nat} (hk : k < 8) : (b8A n)[k]? = some (bv (wbyt n k)) := by simp [b8A, hk]
/-- What the statement that makes a head's two words leaves. -/
def ImR (W : World) (c b : Nat) (F : Nat → Nat → Act) (e : Exit) (a' : Act) (w' : World) : Prop :=
  e = .normal ∧ ∃ gx gy, a' = F gx gy ∧ Row w' gx 78 (b8A c) ∧ Row w' gy 78 (b8A b) ∧ W.heap.size ≤ gx ∧ W.heap.size ≤ gy ∧ gx ≠ gy ∧ Below W.heap.size W w'
theorem wp_imR {P : Program} {id : Nat} {ops : Array Oper} {bb : Bool} {W : World} {c b : Nat} {F : Nat → Nat → Act} {Q : Exit → Act → World → Prop} {a : Act} {w : World}
    (hm : ∀ e a' w', ImR W c b F e a' w' → Q e a' w') (h : (Code.region id ops bb).wp P (ImR W c b F) a w) : (Code.region id ops bb).wp P Q a w := Code.wp_mono hm h
theorem step_put {ops : Array Oper} {o : Oper} {a : Act} {w : World} {K : Act → World → Prop} {Q : Exit → Act → World → Prop} {E : Prop} (hg : o.guard = none) (x : Operand) (ts : Array TypeId)
    (ho : o.op = .call { callee := .value (.func 33), args := #[x], argTypes := ts }) (n : Nat) (hn : n < 18446744073709551616) (h1 : a.eval x = .int .u64 (n : Int))
    (h : ∀ w', Below w.heap.size w w' → K (a.put o.dst (.agg (b8A n))) w') : if Region.wanted o (yielded ops a.tmps) = true then Oper.wp Tryz.prog o a w K Q else E := by
  have hw : Region.wanted o (yielded ops a.tmps) = true := by simp [Region.wanted, hg]
  rw [if_pos hw]
  have eg : ∀ args w, (callFunc 33 args).run Tryz.prog w = .ok (.enter 33 args) w := enters_of Tryz.func33 (by kernel_rfl) rfl
  unfold Oper.wp
  have e0 : a.eval (.func 33) = .func (.func 33) #[] #[] := rfl
  have : (execOp a.eval o).run Tryz.prog w = .ok (.enter 33 #[.int .u64 (n : Int)]) w := by
    simp [execOp, ho, resolve, invoke, e0, Deferred.ofValue, eg, h1]
  rw [this, Oper.upon_enter]
  have hp := r1Put_any n w hn
  unfold wv at hp
  refine hp.mono ?_
  rintro e w' ⟨rfl, hb⟩
  exact h w' hb
set_option maxRecDepth 100000 in
set_option maxHeartbeats 12800000 in
theorem image_any {w : World} {ga : Addr} {cap f : Nat} {l : List (Nat × Nat)} (hA : HeadsAt w ga l) (hn : l.length ≤ 64) (hc : l.length ≤ cap) (hf : f < 256) (hl1 : ∀ p ∈ l, p.1 < 18446744073709551616 ∧ p.2 < 18446744073709551616) :
    Calls Tryz.prog 8 #[.slice (some ga) l.length cap, .int .u8 (f : Int)] w (ImPost w l f) := by
  have mixed : Tryz.prog.follows .mixedOrders = true := by kernel_rfl
  obtain ⟨n, hnl⟩ : ∃ n, n = l.length := ⟨_, rfl⟩
  rw [← hnl] at hn hc ⊢
  obtain ⟨Z, hZ⟩ : ∃ Z, Z = 1024 * (n + 1) := ⟨_, rfl⟩
  have hzI : (1024 : Int) + 1024 * (n : Int) = (Z : Int) := by omega
  have hZB : Z ≤ 66560 := by omega
  have HA := Lib.hid hA
  have HN := Lib.hid hnl
  have HZ := Lib.hid hZ
  have HF := Lib.hid hl1
  obtain ⟨gb, hgb⟩ : ∃ gb, gb = w.heap.size := ⟨_, rfl⟩
  have HGB := Lib.hid hgb
  clear hA hnl hZ hl1 hgb
  obtain ⟨i0, hi, hz0, hz1, hz2⟩ := info_parts info5
  have hm1 := fun W : World => run_make (P := Tryz.prog) W 26 5 i0 _ Tryz.underlying26 hi hz0 .i64 .i64 ((Z : Nat) : Int) ((Z : Nat) : Int) (by omega) (by omega) (by rw [hz2]; omega) (by omega)
  simp only [Int.toNat_natCast, hz1, Nat.mul_one] at hm1
  go_enter Tryz.func8, Tryz.ntmps8
  go_wp2
  obtain ⟨W1, hW1⟩ : ∃ W1, W1 = w.alloc (.cells (madeCells #[.int .u8 0] Z) 5) := ⟨_, rfl⟩
  have hr1 : Row W1 gb 5 (part Z (fun j => decide (j < 0)) (fun _ => bv f) (bv 0)) := by
    rw [part_none Z _ _ (by simp), hW1, HGB.out]
    have e : madeCells #[.int .u8 0] Z = Array.replicate Z (bv 0) := by rw [madeCells_one]; simp [bv]
    rw [e]
    exact Row.new _ _ _
  have hb1 : Below w.heap.size w W1 := by rw [hW1]; exact alloc_below _ _
  have HR1 := Lib.hid hr1
  have HB1 := Lib.hid hb1
  rw [← hW1, ← HGB.out]
  clear hr1 hb1 hW1
  go_loopw [6] (fun v wr => ∃ i : Nat, i ≤ Z ∧ v = .int .i64 i ∧ Row wr gb 5 (part Z (fun j => decide (j < i)) (fun _ => bv f) (bv 0)) ∧ Below w.heap.size w wr) (fun v _ => Z - (intOf v).toNat)
  case atStart => exact ⟨0, Nat.zero_le _, rfl, HR1.out, HB1.out⟩
  case round =>
    obtain ⟨i, hiz, rfl, hrow, hb⟩ := hrel
    rename World => wr
    by_cases h8 : i < Z
    · have hc := hrow.cell i
      rw [part_get h8] at hc
      have hfz := hrow.free i
      simp only [decide_eq_true_eq, Nat.lt_irrefl, if_false] at hc
      have HRW := Lib.hid hrow
      have HB := Lib.hid hb
      clear hrow hb HR1 HB1
      go_wp2
      go_roundw
      case rel => exact ⟨i + 1, by omega, by go_num, by
        have h := HRW.out.set i (bv f)
        rw [part_next Z i (fun _ => bv f) (bv 0)] at h
        exact h, HB.out.setCell (p := ⟨gb, i, none⟩) (by rw [HGB.out]; exact Nat.le_refl _) _⟩
      case measure => simp [intOf]; omega
    · obtain rfl : i = Z := by omega
      have hst : Row wr gb 5 (part i (imW 0 0) (imV l f) (bv f)) := by
        have e : part i (imW 0 0) (imV l f) (bv f) = part i (fun j => decide (j < i)) (fun _ => bv f) (bv 0) := by
          rw [part_all _ _ (fun j hj => decide_eq_true hj), part_none i _ _ (by intro j; simp [imW])]
          apply Array.ext <;> simp
        rw [e]; exact hrow
      have HR2 := Lib.hid hst
      have HB2 := Lib.hid hb
      clear hrow hb hst HR1 HB1
      go_wp2
      go_loopw [7] (fun v wr => ∃ q : Nat, q ≤ n ∧ v = .int .i64 q ∧ Row wr gb 5 (part i (imW q 0) (imV l f) (bv f)) ∧ Below w.heap.size w wr) (fun v _ => n - (intOf v).toNat)
      case atStart => exact ⟨0, Nat.zero_le _, rfl, HR2.out, HB2.out⟩
      case round =>
        obtain ⟨q, hqn, rfl, hrow, hb⟩ := hrel
        rename World => wr2
        have HRW := Lib.hid hrow
        have HB := Lib.hid hb
        clear hrow hb HR2 HB2
        by_cases h8 : q < n
        · have hh := HA.out.below HB.out
          obtain ⟨c, hce⟩ : ∃ c, c = (hdAt l q).1 := ⟨_, rfl⟩
          obtain ⟨b, hbe⟩ : ∃ b, b = (hdAt l q).2 := ⟨_, rfl⟩
          have hc1 := hh.cls q (by rw [← HN.out]; exact h8)
          have hb1 := hh.bits q (by rw [← HN.out]; exact h8)
          have hmem : hdAt l q ∈ l := List.mem_of_getElem? (i := q) (by unfold hdAt; rw [List.getD_eq_getElem?_getD, List.getElem?_eq_getElem (by rw [← HN.out]; exact h8)]; rfl)
          have hf2 := HF.out _ hmem
          rw [← hce, ← hbe] at hf2
          rw [← hce] at hc1
          rw [← hbe] at hb1
          have HC := Lib.hid hce
          have HBE := Lib.hid hbe
          have HP1 := Lib.hid fun (W : World) => r1Put_any c W hf2.1
          have HP2 := Lib.hid fun (W : World) => r1Put_any b W hf2.2
          unfold wv at hc1 hb1 HP1 HP2
          have gq : (q : Int) < (n : Int) := by omega
          have STAY := Lib.hid fun W' (hb : Below wr2.heap.size wr2 W') => And.intro ((hb.cell (p := (ga.add (q * 2))) (wr2.block_lt_of_cell? _ hc1)).trans hc1) (And.intro ((hb.cell (p := ⟨(ga.add (q * 2)).block, (ga.add (q * 2)).off + 1, none⟩) (wr2.block_lt_of_cell? _ hb1)).trans hb1) hb)
          have HF2 := Lib.hid hf2
          clear hce hbe hh hmem hf2 hc1 hb1
          go_wp2_with fail
          refine' wp_imR (W := wr2) (c := c) (b := b) ?mono ?walk
          case walk =>
            refine wp_region_noPanic ?_
            refine wp_region_held_drew (S := fun W' => W'.cell? (ga.add (q * 2)) = some (.int .u64 (c : Int)) ∧ W'.cell? ⟨(ga.add (q * 2)).block, (ga.add (q * 2)).off + 1, none⟩ = some (.int .u64 (b : Int)) ∧ Below wr2.heap.size wr2 W') (by kernel_rfl) (STAY.out _ (drew_below _)) (fun hHeld => ?_)
            have L0 : Below wr2.heap.size wr2 wr2.drew := drew_below _
            refine wpAnyH_take (i := 0) (oi := ⟨some 32, _, _, _, _, _⟩) (v := .slice (some ga) n cap) rfl (by kernel_rfl) (by kernel_rfl) (by kernel_rfl) (fun _ _ _ h => h) (Or.inl ⟨by rfl, by intro w hSw; (try dsimp only at hSw); go_simp⟩) (by assumption) ?_
            simp only [Act.put, List.setIfInBounds_toArray, List.set_cons_zero, List.set_cons_succ]
            refine wpAnyH_take (i := 1) (oi := ⟨some 33, _, _, _, _, _⟩) (v := .int .i64 (q : Int)) rfl (by kernel_rfl) (by kernel_rfl) (by kernel_rfl) (fun _ _ _ h => h) (Or.inl ⟨by rfl, by intro w hSw; (try dsimp only at hSw); go_simp⟩) (by assumption) ?_
            simp only [Act.put, List.setIfInBounds_toArray, List.set_cons_zero, List.set_cons_succ]
            refine wpAnyH_take (i := 2) (oi := ⟨some 34, _, _, _, _, _⟩) (v := .pointer (some (ga.add (q * 2)))) rfl (by kernel_rfl) (by kernel_rfl) (by kernel_rfl) (fun _ _ _ h => h) (Or.inl ⟨by rfl, by intro w hSw; (try dsimp only at hSw); go_simp⟩) (by assumption) ?_
            simp only [Act.put, List.setIfInBounds_toArray, List.set_cons_zero, List.set_cons_succ]
            refine wpAnyH_take (i := 3) (oi := ⟨some 35, _, _, _, _, _⟩) (v := .pointer (some (ga.add (q * 2)))) rfl (by kernel_rfl) (by kernel_rfl) (by kernel_rfl) (fun _ _ _ h => h) (Or.inl ⟨by rfl, by intro w hSw; (try dsimp only at hSw); go_simp⟩) (by assumption) ?_
            simp only [Act.put, List.setIfInBounds_toArray, List.set_cons_zero, List.set_cons_succ]
            refine wpAnyH_take (i := 4) (oi := ⟨some 36, _, _, _, _, _⟩) (v := .int .u64 (c : Int)) rfl (by kernel_rfl) (by kernel_rfl) (by kernel_rfl) (fun _ _ _ h => h) (Or.inl ⟨by rfl, by intro w hSw; (try dsimp only at hSw); go_simp⟩) (by assumption) ?_
            simp only [Act.put, List.setIfInBounds_toArray, List.set_cons_zero, List.set_cons_succ]
            refine wpAnyH_take (i := 6) (oi := ⟨some 38, _, _, _, _, _⟩) (v := .slice (some ga) n cap) rfl (by kernel_rfl) (by kernel_rfl) (by kernel_rfl) (fun _ _ _ h => h) (Or.inl ⟨by rfl, by intro w hSw; (try dsimp only at hSw); go_simp⟩) (by assumption) ?_
            simp only [Act.put, List.setIfInBounds_toArray, List.set_cons_zero, List.set_cons_succ]
            refine wpAnyH_take (i := 7) (oi := ⟨some 39, _, _, _, _, _⟩) (v := .int .i64 (q : Int)) rfl (by kernel_rfl) (by kernel_rfl) (by kernel_rfl) (fun _ _ _ h => h) (Or.inl ⟨by rfl, by intro w hSw; (try dsimp only at hSw); go_simp⟩) (by assumption) ?_
            simp only [Act.put, List.setIfInBounds_toArray, List.set_cons_zero, List.set_cons_succ]
            refine wpAnyH_take (i := 8) (oi := ⟨some 40, _, _, _, _, _⟩) (v := .pointer (some (ga.add (q * 2)))) rfl (by kernel_rfl) (by kernel_rfl) (by kernel_rfl) (fun _ _ _ h => h) (Or.inl ⟨by rfl, by intro w hSw; (try dsimp only at hSw); go_simp⟩) (by assumption) ?_
            simp only [Act.put, List.setIfInBounds_toArray, List.set_cons_zero, List.set_cons_succ]
            refine wpAnyH_take (i := 9) (oi := ⟨some 41, _, _, _, _, _⟩) (v := .pointer (some ⟨(ga.add (q * 2)).block, (ga.add (q * 2)).off + 1, none⟩)) rfl (by kernel_rfl) (by kernel_rfl) (by kernel_rfl) (fun _ _ _ h => h) (Or.inl ⟨by rfl, by intro w hSw; (try dsimp only at hSw); go_simp⟩) (by assumption) ?_
            simp only [Act.put, List.setIfInBounds_toArray, List.set_cons_zero, List.set_cons_succ]
            refine wpAnyH_take (i := 10) (oi := ⟨some 42, _, _, _, _, _⟩) (v := .int .u64 (b : Int)) rfl (by kernel_rfl) (by kernel_rfl) (by kernel_rfl) (fun _ _ _ h => h) (Or.inl ⟨by rfl, by intro w hSw; (try dsimp only at hSw); go_simp⟩) (by assumption) ?_
            simp only [Act.put, List.setIfInBounds_toArray, List.set_cons_zero, List.set_cons_succ]
            refine wpAnyH_ready (rs := [5, 12, 13]) (by kernel_rfl) (by simp) ?_
            refine AllReadyH.cons (o := ⟨some 37, _, _, _, _, _⟩) rfl (fun K hK => ?_) (AllReadyH.cons (o := ⟨some 8, _, _, _, _, _⟩) rfl (fun K hK => ?_) (AllReadyH.cons (o := ⟨some 9, _, _, _, _, _⟩) rfl (fun K hK => ?_) (AllReadyH.nil)))
            · skip
              refine step_put (by rfl) (.tmp 36) _ (by rfl) c HF2.out.1 (by rfl) ?_
              intro w1 hb1
              have L1 := Below.and L0 hb1
              refine hK.out _ _ (STAY.out _ L1) (fun hHeld => ?_)
              clear hK K
              simp only [Act.put, List.setIfInBounds_toArray, List.set_cons_zero, List.set_cons_succ]
              refine wpAnyH_ready (rs := [11, 12, 13]) (by kernel_rfl) (by simp) ?_
              refine AllReadyH.cons (o := ⟨some 43, _, _, _, _, _⟩) rfl (fun K hK => ?_) (AllReadyH.cons (o := ⟨some 8, _, _, _, _, _⟩) rfl (fun K hK => ?_) (AllReadyH.cons (o := ⟨some 9, _, _, _, _, _⟩) rfl (fun K hK => ?_) (AllReadyH.nil)))
              · skip
                refine step_put (by rfl) (.tmp 42) _ (by rfl) b HF2.out.2 (by rfl) ?_
                intro w2 hb2
                have L2 := Below.and L1 hb2
                refine hK.out _ _ (STAY.out _ L2) (fun hHeld => ?_)
                clear hK K
                simp only [Act.put, List.setIfInBounds_toArray, List.set_cons_zero, List.set_cons_succ]
                refine wpAnyH_ready (rs := [12, 13]) (by kernel_rfl) (by simp) ?_
                refine AllReadyH.cons (o := ⟨some 8, _, _, _, _, _⟩) rfl (fun K hK => ?_) (AllReadyH.cons (o := ⟨some 9, _, _, _, _, _⟩) rfl (fun K hK => ?_) (AllReadyH.nil))
                · skip
                  refine step_alloc8 (by rfl) 8 (by rfl) (by rfl) ?_
                  intro gx w3 hgx0 hX hb3
                  have hgx : wr2.heap.size ≤ gx := by rw [hgx0]; exact L2.size
                  have L3 := Below.and L2 hb3
                  refine hK.out _ _ (STAY.out _ L3) (fun hHeld => ?_)
                  clear hK K
                  simp only [Act.put, List.setIfInBounds_toArray, List.set_cons_zero, List.set_cons_succ]
                  refine wpAnyH_ready (rs := [13]) (by kernel_rfl) (by simp) ?_
                  refine AllReadyH.cons (o := ⟨some 9, _, _, _, _, _⟩) rfl (fun K hK => ?_) (AllReadyH.nil)
                  · skip
                    refine step_alloc8 (by rfl) 9 (by rfl) (by rfl) ?_
                    intro gy w4 hgy0 hY hb4
                    have hgy : wr2.heap.size ≤ gy := by rw [hgy0]; exact L3.size
                    have L4 := Below.and L3 hb4
                    have hne : gx ≠ gy := by have := hX.lt; omega
                    have hX := hX.below hb4 hX.lt
                    refine hK.out _ _ (STAY.out _ L4) (fun hHeld => ?_)
                    clear hK K
                    simp only [Act.put, List.setIfInBounds_toArray, List.set_cons_zero, List.set_cons_succ]
                    refine wpAnyH_ready (rs := [14]) (by kernel_rfl) (by simp) ?_
                    refine AllReadyH.cons (o := ⟨none, _, _, _, _, _⟩) rfl (fun K hK => ?_) (AllReadyH.nil)
                    · skip
                      refine step_store8 (by rfl) (.tmp 8) (.tmp 37) (by rfl) gx c _ (by rfl) (by rfl) hX (by rfl) ?_
                      intro w5 hX hoth hbs
                      have hY := Row.same hY (hoth gy (Ne.symm hne))
                      have L5 := L4.trans (hbs wr2.heap.size hgx L4.size)
                      refine hK.out _ _ (STAY.out _ L5) (fun hHeld => ?_)
                      clear hK K
                      simp only [Act.put, List.setIfInBounds_toArray, List.set_cons_zero, List.set_cons_succ]
                      refine wpAnyH_ready (rs := [15]) (by kernel_rfl) (by simp) ?_
                      refine AllReadyH.cons (o := ⟨none, _, _, _, _, _⟩) rfl (fun K hK => ?_) (AllReadyH.nil)
                      · skip
                        refine step_store8 (by rfl) (.tmp 9) (.tmp 43) (by rfl) gy b _ (by rfl) (by rfl) hY (by rfl) ?_
                        intro w6 hY hoth hbs
                        have hX := Row.same hX (hoth gx hne)
                        have L6 := L5.trans (hbs wr2.heap.size hgy L5.size)
                        refine hK.out _ _ (STAY.out _ L6) (fun hHeld => ?_)
                        clear hK K
                        simp only [Act.put, List.setIfInBounds_toArray, List.set_cons_zero, List.set_cons_succ]
                        refine wpAnyH_done (by kernel_rfl) ?_ _
                        refine NoPanic.normal ?_
                        exact ⟨rfl, gx, gy, rfl, hX, hY, hgx, hgy, hne, L6⟩
                · skip
                  refine step_alloc8 (by rfl) 9 (by rfl) (by rfl) ?_
                  intro gy w3 hgy0 hY hb3
                  have hgy : wr2.heap.size ≤ gy := by rw [hgy0]; exact L2.size
                  have L3 := Below.and L2 hb3
                  refine hK.out _ _ (STAY.out _ L3) (fun hHeld => ?_)
                  clear hK K
                  simp only [Act.put, List.setIfInBounds_toArray, List.set_cons_zero, List.set_cons_succ]
                  refine wpAnyH_ready (rs := [12]) (by kernel_rfl) (by simp) ?_
                  refine AllReadyH.cons (o := ⟨some 8, _, _, _, _, _⟩) rfl (fun K hK => ?_) (AllReadyH.nil)
                  · skip
                    refine step_alloc8 (by rfl) 8 (by rfl) (by rfl) ?_
                    intro gx w4 hgx0 hX hb4
                    have hgx : wr2.heap.size ≤ gx := by rw [hgx0]; exact L3.size
                    have L4 := Below.and L3 hb4
                    have hne : gx ≠ gy := by have := hY.lt; omega
                    have hY := hY.below hb4 hY.lt
                    refine hK.out _ _ (STAY.out _ L4) (fun hHeld => ?_)
                    clear hK K
                    simp only [Act.put, List.setIfInBounds_toArray, List.set_cons_zero, List.set_cons_succ]
                    refine wpAnyH_ready (rs := [14]) (by kernel_rfl) (by simp) ?_
                    refine AllReadyH.cons (o := ⟨none, _, _, _, _, _⟩) rfl (fun K hK => ?_) (AllReadyH.nil)
                    · skip
                      refine step_store8 (by rfl) (.tmp 8) (.tmp 37) (by rfl) gx c _ (by rfl) (by rfl) hX (by rfl) ?_
                      intro w5 hX hoth hbs
                      have hY := Row.same hY (hoth gy (Ne.symm hne))
                      have L5 := L4.trans (hbs wr2.heap.size hgx L4.size)
                      refine hK.out _ _ (STAY.out _ L5) (fun hHeld => ?_)
                      clear hK K
                      simp only [Act.put, List.setIfInBounds_toArray, List.set_cons_zero, List.set_cons_succ]
                      refine wpAnyH_ready (rs := [15]) (by kernel_rfl) (by simp) ?_
                      refine AllReadyH.cons (o := ⟨none, _, _, _, _, _⟩) rfl (fun K hK => ?_) (AllReadyH.nil)
                      · skip
                        refine step_store8 (by rfl) (.tmp 9) (.tmp 43) (by rfl) gy b _ (by rfl) (by rfl) hY (by rfl) ?_
                        intro w6 hY hoth hbs
                        have hX := Row.same hX (hoth gx hne)
                        have L6 := L5.trans (hbs wr2.heap.size hgy L5.size)
                        refine hK.out _ _ (STAY.out _ L6) (fun hHeld => ?_)
                        clear hK K
                        simp only [Act.put, List.setIfInBounds_toArray, List.set_cons_zero, List.set_cons_succ]
                        refine wpAnyH_done (by kernel_rfl) ?_ _
                        refine NoPanic.normal ?_
                        exact ⟨rfl, gx, gy, rfl, hX, hY, hgx, hgy, hne, L6⟩
              · skip
                refine step_alloc8 (by rfl) 8 (by rfl) (by rfl) ?_
                intro gx w2 hgx0 hX hb2
                have hgx : wr2.heap.size ≤ gx := by rw [hgx0]; exact L1.size
                have L2 := Below.and L1 hb2
                refine hK.out _ _ (STAY.out _ L2) (fun hHeld => ?_)
                clear hK K
                simp only [Act.put, List.setIfInBounds_toArray, List.set_cons_zero, List.set_cons_succ]
                refine wpAnyH_ready (rs := [11, 13]) (by kernel_rfl) (by simp) ?_
                refine AllReadyH.cons (o := ⟨some 43, _, _, _, _, _⟩) rfl (fun K hK => ?_) (AllReadyH.cons (o := ⟨some 9, _, _, _, _, _⟩) rfl (fun K hK => ?_) (AllReadyH.nil))
                · skip
                  refine step_put (by rfl) (.tmp 42) _ (by rfl) b HF2.out.2 (by rfl) ?_
                  intro w3 hb3
                  have L3 := Below.and L2 hb3
                  have hX := hX.below hb3 hX.lt
                  refine hK.out _ _ (STAY.out _ L3) (fun hHeld => ?_)
                  clear hK K
                  simp only [Act.put, List.setIfInBounds_toArray, List.set_cons_zero, List.set_cons_succ]
                  refine wpAnyH_ready (rs := [13]) (by kernel_rfl) (by simp) ?_
                  refine AllReadyH.cons (o := ⟨some 9, _, _, _, _, _⟩) rfl (fun K hK => ?_) (AllReadyH.nil)
                  · skip
                    refine step_alloc8 (by rfl) 9 (by rfl) (by rfl) ?_
                    intro gy w4 hgy0 hY hb4
                    have hgy : wr2.heap.size ≤ gy := by rw [hgy0]; exact L3.size
                    have L4 := Below.and L3 hb4
                    have hne : gx ≠ gy := by have := hX.lt; omega
                    have hX := hX.below hb4 hX.lt
                    refine hK.out _ _ (STAY.out _ L4) (fun hHeld => ?_)
                    clear hK K
                    simp only [Act.put, List.setIfInBounds_toArray, List.set_cons_zero, List.set_cons_succ]
                    refine wpAnyH_ready (rs := [14]) (by kernel_rfl) (by simp) ?_
                    refine AllReadyH.cons (o := ⟨none, _, _, _, _, _⟩) rfl (fun K hK => ?_) (AllReadyH.nil)
                    · skip
                      refine step_store8 (by rfl) (.tmp 8) (.tmp 37) (by rfl) gx c _ (by rfl) (by rfl) hX (by rfl) ?_
                      intro w5 hX hoth hbs
                      have hY := Row.same hY (hoth gy (Ne.symm hne))
                      have L5 := L4.trans (hbs wr2.heap.size hgx L4.size)
                      refine hK.out _ _ (STAY.out _ L5) (fun hHeld => ?_)
                      clear hK K
                      simp only [Act.put, List.setIfInBounds_toArray, List.set_cons_zero, List.set_cons_succ]
                      refine wpAnyH_ready (rs := [15]) (by kernel_rfl) (by simp) ?_
                      refine AllReadyH.cons (o := ⟨none, _, _, _, _, _⟩) rfl (fun K hK => ?_) (AllReadyH.nil)
                      · skip
                        refine step_store8 (by rfl) (.tmp 9) (.tmp 43) (by rfl) gy b _ (by rfl) (by rfl) hY (by rfl) ?_
                        intro w6 hY hoth hbs
                        have hX := Row.same hX (hoth gx hne)
                        have L6 := L5.trans (hbs wr2.heap.size hgy L5.size)
                        refine hK.out _ _ (STAY.out _ L6) (fun hHeld => ?_)
                        clear hK K
                        simp only [Act.put, List.setIfInBounds_toArray, List.set_cons_zero, List.set_cons_succ]
                        refine wpAnyH_done (by kernel_rfl) ?_ _
                        refine NoPanic.normal ?_
                        exact ⟨rfl, gx, gy, rfl, hX, hY, hgx, hgy, hne, L6⟩
                · skip
                  refine step_alloc8 (by rfl) 9 (by rfl) (by rfl) ?_
                  intro gy w3 hgy0 hY hb3
                  have hgy : wr2.heap.size ≤ gy := by rw [hgy0]; exact L2.size
                  have L3 := Below.and L2 hb3
                  have hne : gx ≠ gy := by have := hX.lt; omega
                  have hX := hX.below hb3 hX.lt
                  refine hK.out _ _ (STAY.out _ L3) (fun hHeld => ?_)
                  clear hK K
                  simp only [Act.put, List.setIfInBounds_toArray, List.set_cons_zero, List.set_cons_succ]
                  refine wpAnyH_ready (rs := [11]) (by kernel_rfl) (by simp) ?_
                  refine AllReadyH.cons (o := ⟨some 43, _, _, _, _, _⟩) rfl (fun K hK => ?_) (AllReadyH.nil)
                  · skip
                    refine step_put (by rfl) (.tmp 42) _ (by rfl) b HF2.out.2 (by rfl) ?_
                    intro w4 hb4
                    have L4 := Below.and L3 hb4
                    have hX := hX.below hb4 hX.lt
                    have hY := hY.below hb4 hY.lt
                    refine hK.out _ _ (STAY.out _ L4) (fun hHeld => ?_)
                    clear hK K
                    simp only [Act.put, List.setIfInBounds_toArray, List.set_cons_zero, List.set_cons_succ]
                    refine wpAnyH_ready (rs := [14]) (by kernel_rfl) (by simp) ?_
                    refine AllReadyH.cons (o := ⟨none, _, _, _, _, _⟩) rfl (fun K hK => ?_) (AllReadyH.nil)
                    · skip
                      refine step_store8 (by rfl) (.tmp 8) (.tmp 37) (by rfl) gx c _ (by rfl) (by rfl) hX (by rfl) ?_
                      intro w5 hX hoth hbs
                      have hY := Row.same hY (hoth gy (Ne.symm hne))
                      have L5 := L4.trans (hbs wr2.heap.size hgx L4.size)
                      refine hK.out _ _ (STAY.out _ L5) (fun hHeld => ?_)
                      clear hK K
                      simp only [Act.put, List.setIfInBounds_toArray, List.set_cons_zero, List.set_cons_succ]
                      refine wpAnyH_ready (rs := [15]) (by kernel_rfl) (by simp) ?_
                      refine AllReadyH.cons (o := ⟨none, _, _, _, _, _⟩) rfl (fun K hK => ?_) (AllReadyH.nil)
                      · skip
                        refine step_store8 (by rfl) (.tmp 9) (.tmp 43) (by rfl) gy b _ (by rfl) (by rfl) hY (by rfl) ?_
                        intro w6 hY hoth hbs
                        have hX := Row.same hX (hoth gx hne)
                        have L6 := L5.trans (hbs wr2.heap.size hgy L5.size)
                        refine hK.out _ _ (STAY.out _ L6) (fun hHeld => ?_)
                        clear hK K
                        simp only [Act.put, List.setIfInBounds_toArray, List.set_cons_zero, List.set_cons_succ]
                        refine wpAnyH_done (by kernel_rfl) ?_ _
                        refine NoPanic.normal ?_
                        exact ⟨rfl, gx, gy, rfl, hX, hY, hgx, hgy, hne, L6⟩
              · skip
                refine step_alloc8 (by rfl) 9 (by rfl) (by rfl) ?_
                intro gy w2 hgy0 hY hb2
                have hgy : wr2.heap.size ≤ gy := by rw [hgy0]; exact L1.size
                have L2 := Below.and L1 hb2
                refine hK.out _ _ (STAY.out _ L2) (fun hHeld => ?_)
                clear hK K
                simp only [Act.put, List.setIfInBounds_toArray, List.set_cons_zero, List.set_cons_succ]
                refine wpAnyH_ready (rs := [11, 12]) (by kernel_rfl) (by simp) ?_
                refine AllReadyH.cons (o := ⟨some 43, _, _, _, _, _⟩) rfl (fun K hK => ?_) (AllReadyH.cons (o := ⟨some 8, _, _, _, _, _⟩) rfl (fun K hK => ?_) (AllReadyH.nil))
                · skip
                  refine step_put (by rfl) (.tmp 42) _ (by rfl) b HF2.out.2 (by rfl) ?_
                  intro w3 hb3
                  have L3 := Below.and L2 hb3
                  have hY := hY.below hb3 hY.lt
                  refine hK.out _ _ (STAY.out _ L3) (fun hHeld => ?_)
                  clear hK K
                  simp only [Act.put, List.setIfInBounds_toArray, List.set_cons_zero, List.set_cons_succ]
                  refine wpAnyH_ready (rs := [12]) (by kernel_rfl) (by simp) ?_
                  refine AllReadyH.cons (o := ⟨some 8, _, _, _, _, _⟩) rfl (fun K hK => ?_) (AllReadyH.nil)
                  · skip
                    refine step_alloc8 (by rfl) 8 (by rfl) (by rfl) ?_
                    intro gx w4 hgx0 hX hb4
                    have hgx : wr2.heap.size ≤ gx := by rw [hgx0]; exact L3.size
                    have L4 := Below.and L3 hb4
                    have hne : gx ≠ gy := by have := hY.lt; omega
                    have hY := hY.below hb4 hY.lt
                    refine hK.out _ _ (STAY.out _ L4) (fun hHeld => ?_)
                    clear hK K
                    simp only [Act.put, List.setIfInBounds_toArray, List.set_cons_zero, List.set_cons_succ]
                    refine wpAnyH_ready (rs := [14]) (by kernel_rfl) (by simp) ?_
                    refine AllReadyH.cons (o := ⟨none, _, _, _, _, _⟩) rfl (fun K hK => ?_) (AllReadyH.nil)
                    · skip
                      refine step_store8 (by rfl) (.tmp 8) (.tmp 37) (by rfl) gx c _ (by rfl) (by rfl) hX (by rfl) ?_
                      intro w5 hX hoth hbs
                      have hY := Row.same hY (hoth gy (Ne.symm hne))
                      have L5 := L4.trans (hbs wr2.heap.size hgx L4.size)
                      refine hK.out _ _ (STAY.out _ L5) (fun hHeld => ?_)
                      clear hK K
                      simp only [Act.put, List.setIfInBounds_toArray, List.set_cons_zero, List.set_cons_succ]
                      refine wpAnyH_ready (rs := [15]) (by kernel_rfl) (by simp) ?_
                      refine AllReadyH.cons (o := ⟨none, _, _, _, _, _⟩) rfl (fun K hK => ?_) (AllReadyH.nil)
                      · skip
                        refine step_store8 (by rfl) (.tmp 9) (.tmp 43) (by rfl) gy b _ (by rfl) (by rfl) hY (by rfl) ?_
                        intro w6 hY hoth hbs
                        have hX := Row.same hX (hoth gx hne)
                        have L6 := L5.trans (hbs wr2.heap.size hgy L5.size)
                        refine hK.out _ _ (STAY.out _ L6) (fun hHeld => ?_)
                        clear hK K
                        simp only [Act.put, List.setIfInBounds_toArray, List.set_cons_zero, List.set_cons_succ]
                        refine wpAnyH_done (by kernel_rfl) ?_ _
                        refine NoPanic.normal ?_
                        exact ⟨rfl, gx, gy, rfl, hX, hY, hgx, hgy, hne, L6⟩
                · skip
                  refine step_alloc8 (by rfl) 8 (by rfl) (by rfl) ?_
                  intro gx w3 hgx0 hX hb3
                  have hgx : wr2.heap.size ≤ gx := by rw [hgx0]; exact L2.size
                  have L3 := Below.and L2 hb3
                  have hne : gx ≠ gy := by have := hY.lt; omega
                  have hY := hY.below hb3 hY.lt
                  refine hK.out _ _ (STAY.out _ L3) (fun hHeld => ?_)
                  clear hK K
                  simp only [Act.put, List.setIfInBounds_toArray, List.set_cons_zero, List.set_cons_succ]
                  refine wpAnyH_ready (rs := [11]) (by kernel_rfl) (by simp) ?_
                  refine AllReadyH.cons (o := ⟨some 43, _, _, _, _, _⟩) rfl (fun K hK => ?_) (AllReadyH.nil)
                  · skip
                    refine step_put (by rfl) (.tmp 42) _ (by rfl) b HF2.out.2 (by rfl) ?_
                    intro w4 hb4
                    have L4 := Below.and L3 hb4
                    have hX := hX.below hb4 hX.lt
                    have hY := hY.below hb4 hY.lt
                    refine hK.out _ _ (STAY.out _ L4) (fun hHeld => ?_)
                    clear hK K
                    simp only [Act.put, List.setIfInBounds_toArray, List.set_cons_zero, List.set_cons_succ]
                    refine wpAnyH_ready (rs := [14]) (by kernel_rfl) (by simp) ?_
                    refine AllReadyH.cons (o := ⟨none, _, _, _, _, _⟩) rfl (fun K hK => ?_) (AllReadyH.nil)
                    · skip
                      refine step_store8 (by rfl) (.tmp 8) (.tmp 37) (by rfl) gx c _ (by rfl) (by rfl) hX (by rfl) ?_
                      intro w5 hX hoth hbs
                      have hY := Row.same hY (hoth gy (Ne.symm hne))
                      have L5 := L4.trans (hbs wr2.heap.size hgx L4.size)
                      refine hK.out _ _ (STAY.out _ L5) (fun hHeld => ?_)
                      clear hK K
                      simp only [Act.put, List.setIfInBounds_toArray, List.set_cons_zero, List.set_cons_succ]
                      refine wpAnyH_ready (rs := [15]) (by kernel_rfl) (by simp) ?_
                      refine AllReadyH.cons (o := ⟨none, _, _, _, _, _⟩) rfl (fun K hK => ?_) (AllReadyH.nil)
                      · skip
                        refine step_store8 (by rfl) (.tmp 9) (.tmp 43) (by rfl) gy b _ (by rfl) (by rfl) hY (by rfl) ?_
                        intro w6 hY hoth hbs
                        have hX := Row.same hX (hoth gx hne)
                        have L6 := L5.trans (hbs wr2.heap.size hgy L5.size)
                        refine hK.out _ _ (STAY.out _ L6) (fun hHeld => ?_)
                        clear hK K
                        simp only [Act.put, List.setIfInBounds_toArray, List.set_cons_zero, List.set_cons_succ]
                        refine wpAnyH_done (by kernel_rfl) ?_ _
                        refine NoPanic.normal ?_
                        exact ⟨rfl, gx, gy, rfl, hX, hY, hgx, hgy, hne, L6⟩
            · skip
              refine step_alloc8 (by rfl) 8 (by rfl) (by rfl) ?_
              intro gx w1 hgx0 hX hb1
              have hgx : wr2.heap.size ≤ gx := by rw [hgx0]; exact L0.size
              have L1 := Below.and L0 hb1
              refine hK.out _ _ (STAY.out _ L1) (fun hHeld => ?_)
              clear hK K
              simp only [Act.put, List.setIfInBounds_toArray, List.set_cons_zero, List.set_cons_succ]
              refine wpAnyH_ready (rs := [5, 13]) (by kernel_rfl) (by simp) ?_
              refine AllReadyH.cons (o := ⟨some 37, _, _, _, _, _⟩) rfl (fun K hK => ?_) (AllReadyH.cons (o := ⟨some 9, _, _, _, _, _⟩) rfl (fun K hK => ?_) (AllReadyH.nil))
              · skip
                refine step_put (by rfl) (.tmp 36) _ (by rfl) c HF2.out.1 (by rfl) ?_
                intro w2 hb2
                have L2 := Below.and L1 hb2
                have hX := hX.below hb2 hX.lt
                refine hK.out _ _ (STAY.out _ L2) (fun hHeld => ?_)
                clear hK K
                simp only [Act.put, List.setIfInBounds_toArray, List.set_cons_zero, List.set_cons_succ]
                refine wpAnyH_ready (rs := [11, 13]) (by kernel_rfl) (by simp) ?_
                refine AllReadyH.cons (o := ⟨some 43, _, _, _, _, _⟩) rfl (fun K hK => ?_) (AllReadyH.cons (o := ⟨some 9, _, _, _, _, _⟩) rfl (fun K hK => ?_) (AllReadyH.nil))
                · skip
                  refine step_put (by rfl) (.tmp 42) _ (by rfl) b HF2.out.2 (by rfl) ?_
                  intro w3 hb3
                  have L3 := Below.and L2 hb3
                  have hX := hX.below hb3 hX.lt
                  refine hK.out _ _ (STAY.out _ L3) (fun hHeld => ?_)
                  clear hK K
                  simp only [Act.put, List.setIfInBounds_toArray, List.set_cons_zero, List.set_cons_succ]
                  refine wpAnyH_ready (rs := [13]) (by kernel_rfl) (by simp) ?_
                  refine AllReadyH.cons (o := ⟨some 9, _, _, _, _, _⟩) rfl (fun K hK => ?_) (AllReadyH.nil)
                  · skip
                    refine step_alloc8 (by rfl) 9 (by rfl) (by rfl) ?_
                    intro gy w4 hgy0 hY hb4
                    have hgy : wr2.heap.size ≤ gy := by rw [hgy0]; exact L3.size
                    have L4 := Below.and L3 hb4
                    have hne : gx ≠ gy := by have := hX.lt; omega
                    have hX := hX.below hb4 hX.lt
                    refine hK.out _ _ (STAY.out _ L4) (fun hHeld => ?_)
                    clear hK K
                    simp only [Act.put, List.setIfInBounds_toArray, List.set_cons_zero, List.set_cons_succ]
                    refine wpAnyH_ready (rs := [14]) (by kernel_rfl) (by simp) ?_
                    refine AllReadyH.cons (o := ⟨none, _, _, _, _, _⟩) rfl (fun K hK => ?_) (AllReadyH.nil)
                    · skip
                      refine step_store8 (by rfl) (.tmp 8) (.tmp 37) (by rfl) gx c _ (by rfl) (by rfl) hX (by rfl) ?_
                      intro w5 hX hoth hbs
                      have hY := Row.same hY (hoth gy (Ne.symm hne))
                      have L5 := L4.trans (hbs wr2.heap.size hgx L4.size)
                      refine hK.out _ _ (STAY.out _ L5) (fun hHeld => ?_)
                      clear hK K
                      simp only [Act.put, List.setIfInBounds_toArray, List.set_cons_zero, List.set_cons_succ]
                      refine wpAnyH_ready (rs := [15]) (by kernel_rfl) (by simp) ?_
                      refine AllReadyH.cons (o := ⟨none, _, _, _, _, _⟩) rfl (fun K hK => ?_) (AllReadyH.nil)
                      · skip
                        refine step_store8 (by rfl) (.tmp 9) (.tmp 43) (by rfl) gy b _ (by rfl) (by rfl) hY (by rfl) ?_
                        intro w6 hY hoth hbs
                        have hX := Row.same hX (hoth gx hne)
                        have L6 := L5.trans (hbs wr2.heap.size hgy L5.size)
                        refine hK.out _ _ (STAY.out _ L6) (fun hHeld => ?_)
                        clear hK K
                        simp only [Act.put, List.setIfInBounds_toArray, List.set_cons_zero, List.set_cons_succ]
                        refine wpAnyH_done (by kernel_rfl) ?_ _
                        refine NoPanic.normal ?_
                        exact ⟨rfl, gx, gy, rfl, hX, hY, hgx, hgy, hne, L6⟩
                · skip
                  refine step_alloc8 (by rfl) 9 (by rfl) (by rfl) ?_
                  intro gy w3 hgy0 hY hb3
                  have hgy : wr2.heap.size ≤ gy := by rw [hgy0]; exact L2.size
                  have L3 := Below.and L2 hb3
                  have hne : gx ≠ gy := by have := hX.lt; omega
                  have hX := hX.below hb3 hX.lt
                  refine hK.out _ _ (STAY.out _ L3) (fun hHeld => ?_)
                  clear hK K
                  simp only [Act.put, List.setIfInBounds_toArray, List.set_cons_zero, List.set_cons_succ]
                  refine wpAnyH_ready (rs := [11]) (by kernel_rfl) (by simp) ?_
                  refine AllReadyH.cons (o := ⟨some 43, _, _, _, _, _⟩) rfl (fun K hK => ?_) (AllReadyH.nil)
                  · skip
                    refine step_put (by rfl) (.tmp 42) _ (by rfl) b HF2.out.2 (by rfl) ?_
                    intro w4 hb4
                    have L4 := Below.and L3 hb4
                    have hX := hX.below hb4 hX.lt
                    have hY := hY.below hb4 hY.lt
                    refine hK.out _ _ (STAY.out _ L4) (fun hHeld => ?_)
                    clear hK K
                    simp only [Act.put, List.setIfInBounds_toArray, List.set_cons_zero, List.set_cons_succ]
                    refine wpAnyH_ready (rs := [14]) (by kernel_rfl) (by simp) ?_
                    refine AllReadyH.cons (o := ⟨none, _, _, _, _, _⟩) rfl (fun K hK => ?_) (AllReadyH.nil)
                    · skip
                      refine step_store8 (by rfl) (.tmp 8) (.tmp 37) (by rfl) gx c _ (by rfl) (by rfl) hX (by rfl) ?_
                      intro w5 hX hoth hbs
                      have hY := Row.same hY (hoth gy (Ne.symm hne))
                      have L5 := L4.trans (hbs wr2.heap.size hgx L4.size)
                      refine hK.out _ _ (STAY.out _ L5) (fun hHeld => ?_)
                      clear hK K
                      simp only [Act.put, List.setIfInBounds_toArray, List.set_cons_zero, List.set_cons_succ]
                      refine wpAnyH_ready (rs := [15]) (by kernel_rfl) (by simp) ?_
                      refine AllReadyH.cons (o := ⟨none, _, _, _, _, _⟩) rfl (fun K hK => ?_) (AllReadyH.nil)
                      · skip
                        refine step_store8 (by rfl) (.tmp 9) (.tmp 43) (by rfl) gy b _ (by rfl) (by rfl) hY (by rfl) ?_
                        intro w6 hY hoth hbs
                        have hX := Row.same hX (hoth gx hne)
                        have L6 := L5.trans (hbs wr2.heap.size hgy L5.size)
                        refine hK.out _ _ (STAY.out _ L6) (fun hHeld => ?_)
                        clear hK K
                        simp only [Act.put, List.setIfInBounds_toArray, List.set_cons_zero, List.set_cons_succ]
                        refine wpAnyH_done (by kernel_rfl) ?_ _
                        refine NoPanic.normal ?_
                        exact ⟨rfl, gx, gy, rfl, hX, hY, hgx, hgy, hne, L6⟩
              · skip
                refine step_alloc8 (by rfl) 9 (by rfl) (by rfl) ?_
                intro gy w2 hgy0 hY hb2
                have hgy : wr2.heap.size ≤ gy := by rw [hgy0]; exact L1.size
                have L2 := Below.and L1 hb2
                have hne : gx ≠ gy := by have := hX.lt; omega
                have hX := hX.below hb2 hX.lt
                refine hK.out _ _ (STAY.out _ L2) (fun hHeld => ?_)
                clear hK K
                simp only [Act.put, List.setIfInBounds_toArray, List.set_cons_zero, List.set_cons_succ]
                refine wpAnyH_ready (rs := [5]) (by kernel_rfl) (by simp) ?_
                refine AllReadyH.cons (o := ⟨some 37, _, _, _, _, _⟩) rfl (fun K hK => ?_) (AllReadyH.nil)
                · skip
                  refine step_put (by rfl) (.tmp 36) _ (by rfl) c HF2.out.1 (by rfl) ?_
                  intro w3 hb3
                  have L3 := Below.and L2 hb3
                  have hX := hX.below hb3 hX.lt
                  have hY := hY.below hb3 hY.lt
                  refine hK.out _ _ (STAY.out _ L3) (fun hHeld => ?_)
                  clear hK K
                  simp only [Act.put, List.setIfInBounds_toArray, List.set_cons_zero, List.set_cons_succ]
                  refine wpAnyH_ready (rs := [11]) (by kernel_rfl) (by simp) ?_
                  refine AllReadyH.cons (o := ⟨some 43, _, _, _, _, _⟩) rfl (fun K hK => ?_) (AllReadyH.nil)
                  · skip
                    refine step_put (by rfl) (.tmp 42) _ (by rfl) b HF2.out.2 (by rfl) ?_
                    intro w4 hb4
                    have L4 := Below.and L3 hb4
                    have hX := hX.below hb4 hX.lt
                    have hY := hY.below hb4 hY.lt
                    refine hK.out _ _ (STAY.out _ L4) (fun hHeld => ?_)
                    clear hK K
                    simp only [Act.put, List.setIfInBounds_toArray, List.set_cons_zero, List.set_cons_succ]
                    refine wpAnyH_ready (rs := [14]) (by kernel_rfl) (by simp) ?_
                    refine AllReadyH.cons (o := ⟨none, _, _, _, _, _⟩) rfl (fun K hK => ?_) (AllReadyH.nil)
                    · skip
                      refine step_store8 (by rfl) (.tmp 8) (.tmp 37) (by rfl) gx c _ (by rfl) (by rfl) hX (by rfl) ?_
                      intro w5 hX hoth hbs
                      have hY := Row.same hY (hoth gy (Ne.symm hne))
                      have L5 := L4.trans (hbs wr2.heap.size hgx L4.size)
                      refine hK.out _ _ (STAY.out _ L5) (fun hHeld => ?_)
                      clear hK K
                      simp only [Act.put, List.setIfInBounds_toArray, List.set_cons_zero, List.set_cons_succ]
                      refine wpAnyH_ready (rs := [15]) (by kernel_rfl) (by simp) ?_
                      refine AllReadyH.cons (o := ⟨none, _, _, _, _, _⟩) rfl (fun K hK => ?_) (AllReadyH.nil)
                      · skip
                        refine step_store8 (by rfl) (.tmp 9) (.tmp 43) (by rfl) gy b _ (by rfl) (by rfl) hY (by rfl) ?_
                        intro w6 hY hoth hbs
                        have hX := Row.same hX (hoth gx hne)
                        have L6 := L5.trans (hbs wr2.heap.size hgy L5.size)
                        refine hK.out _ _ (STAY.out _ L6) (fun hHeld => ?_)
                        clear hK K
                        simp only [Act.put, List.setIfInBounds_toArray, List.set_cons_zero, List.set_cons_succ]
                        refine wpAnyH_done (by kernel_rfl) ?_ _
                        refine NoPanic.normal ?_
                        exact ⟨rfl, gx, gy, rfl, hX, hY, hgx, hgy, hne, L6⟩
            · skip
              refine step_alloc8 (by rfl) 9 (by rfl) (by rfl) ?_
              intro gy w1 hgy0 hY hb1
              have hgy : wr2.heap.size ≤ gy := by rw [hgy0]; exact L0.size
              have L1 := Below.and L0 hb1
              refine hK.out _ _ (STAY.out _ L1) (fun hHeld => ?_)
              clear hK K
              simp only [Act.put, List.setIfInBounds_toArray, List.set_cons_zero, List.set_cons_succ]
              refine wpAnyH_ready (rs := [5, 12]) (by kernel_rfl) (by simp) ?_
              refine AllReadyH.cons (o := ⟨some 37, _, _, _, _, _⟩) rfl (fun K hK => ?_) (AllReadyH.cons (o := ⟨some 8, _, _, _, _, _⟩) rfl (fun K hK => ?_) (AllReadyH.nil))
              · skip
                refine step_put (by rfl) (.tmp 36) _ (by rfl) c HF2.out.1 (by rfl) ?_
                intro w2 hb2
                have L2 := Below.and L1 hb2
                have hY := hY.below hb2 hY.lt
                refine hK.out _ _ (STAY.out _ L2) (fun hHeld => ?_)
                clear hK K
                simp only [Act.put, List.setIfInBounds_toArray, List.set_cons_zero, List.set_cons_succ]
                refine wpAnyH_ready (rs := [11, 12]) (by kernel_rfl) (by simp) ?_
                refine AllReadyH.cons (o := ⟨some 43, _, _, _, _, _⟩) rfl (fun K hK => ?_) (AllReadyH.cons (o := ⟨some 8, _, _, _, _, _⟩) rfl (fun K hK => ?_) (AllReadyH.nil))
                · skip
                  refine step_put (by rfl) (.tmp 42) _ (by rfl) b HF2.out.2 (by rfl) ?_
                  intro w3 hb3
                  have L3 := Below.and L2 hb3
                  have hY := hY.below hb3 hY.lt
                  refine hK.out _ _ (STAY.out _ L3) (fun hHeld => ?_)
                  clear hK K
                  simp only [Act.put, List.setIfInBounds_toArray, List.set_cons_zero, List.set_cons_succ]
                  refine wpAnyH_ready (rs := [12]) (by kernel_rfl) (by simp) ?_
                  refine AllReadyH.cons (o := ⟨some 8, _, _, _, _, _⟩) rfl (fun K hK => ?_) (AllReadyH.nil)
                  · skip
                    refine step_alloc8 (by rfl) 8 (by rfl) (by rfl) ?_
                    intro gx w4 hgx0 hX hb4
                    have hgx : wr2.heap.size ≤ gx := by rw [hgx0]; exact L3.size
                    have L4 := Below.and L3 hb4
                    have hne : gx ≠ gy := by have := hY.lt; omega
                    have hY := hY.below hb4 hY.lt
                    refine hK.out _ _ (STAY.out _ L4) (fun hHeld => ?_)
                    clear hK K
                    simp only [Act.put, List.setIfInBounds_toArray, List.set_cons_zero, List.set_cons_succ]
                    refine wpAnyH_ready (rs := [14]) (by kernel_rfl) (by simp) ?_
                    refine AllReadyH.cons (o := ⟨none, _, _, _, _, _⟩) rfl (fun K hK => ?_) (AllReadyH.nil)
                    · skip
                      refine step_store8 (by rfl) (.tmp 8) (.tmp 37) (by rfl) gx c _ (by rfl) (by rfl) hX (by rfl) ?_
                      intro w5 hX hoth hbs
                      have hY := Row.same hY (hoth gy (Ne.symm hne))
                      have L5 := L4.trans (hbs wr2.heap.size hgx L4.size)
                      refine hK.out _ _ (STAY.out _ L5) (fun hHeld => ?_)
                      clear hK K
                      simp only [Act.put, List.setIfInBounds_toArray, List.set_cons_zero, List.set_cons_succ]
                      refine wpAnyH_ready (rs := [15]) (by kernel_rfl) (by simp) ?_
                      refine AllReadyH.cons (o := ⟨none, _, _, _, _, _⟩) rfl (fun K hK => ?_) (AllReadyH.nil)
                      · skip
                        refine step_store8 (by rfl) (.tmp 9) (.tmp 43) (by rfl) gy b _ (by rfl) (by rfl) hY (by rfl) ?_
                        intro w6 hY hoth hbs
                        have hX := Row.same hX (hoth gx hne)
                        have L6 := L5.trans (hbs wr2.heap.size hgy L5.size)
                        refine hK.out _ _ (STAY.out _ L6) (fun hHeld => ?_)
                        clear hK K
                        simp only [Act.put, List.setIfInBounds_toArray, List.set_cons_zero, List.set_cons_succ]
                        refine wpAnyH_done (by kernel_rfl) ?_ _
                        refine NoPanic.normal ?_
                        exact ⟨rfl, gx, gy, rfl, hX, hY, hgx, hgy, hne, L6⟩
                · skip
                  refine step_alloc8 (by rfl) 8 (by rfl) (by rfl) ?_
                  intro gx w3 hgx0 hX hb3
                  have hgx : wr2.heap.size ≤ gx := by rw [hgx0]; exact L2.size
                  have L3 := Below.and L2 hb3
                  have hne : gx ≠ gy := by have := hY.lt; omega
                  have hY := hY.below hb3 hY.lt
                  refine hK.out _ _ (STAY.out _ L3) (fun hHeld => ?_)
                  clear hK K
                  simp only [Act.put, List.setIfInBounds_toArray, List.set_cons_zero, List.set_cons_succ]
                  refine wpAnyH_ready (rs := [11]) (by kernel_rfl) (by simp) ?_
                  refine AllReadyH.cons (o := ⟨some 43, _, _, _, _, _⟩) rfl (fun K hK => ?_) (AllReadyH.nil)
                  · skip
                    refine step_put (by rfl) (.tmp 42) _ (by rfl) b HF2.out.2 (by rfl) ?_
                    intro w4 hb4
                    have L4 := Below.and L3 hb4
                    have hX := hX.below hb4 hX.lt
                    have hY := hY.below hb4 hY.lt
                    refine hK.out _ _ (STAY.out _ L4) (fun hHeld => ?_)
                    clear hK K
                    simp only [Act.put, List.setIfInBounds_toArray, List.set_cons_zero, List.set_cons_succ]
                    refine wpAnyH_ready (rs := [14]) (by kernel_rfl) (by simp) ?_
                    refine AllReadyH.cons (o := ⟨none, _, _, _, _, _⟩) rfl (fun K hK => ?_) (AllReadyH.nil)
                    · skip
                      refine step_store8 (by rfl) (.tmp 8) (.tmp 37) (by rfl) gx c _ (by rfl) (by rfl) hX (by rfl) ?_
                      intro w5 hX hoth hbs
                      have hY := Row.same hY (hoth gy (Ne.symm hne))
                      have L5 := L4.trans (hbs wr2.heap.size hgx L4.size)
                      refine hK.out _ _ (STAY.out _ L5) (fun hHeld => ?_)
                      clear hK K
                      simp only [Act.put, List.setIfInBounds_toArray, List.set_cons_zero, List.set_cons_succ]
                      refine wpAnyH_ready (rs := [15]) (by kernel_rfl) (by simp) ?_
                      refine AllReadyH.cons (o := ⟨none, _, _, _, _, _⟩) rfl (fun K hK => ?_) (AllReadyH.nil)
                      · skip
                        refine step_store8 (by rfl) (.tmp 9) (.tmp 43) (by rfl) gy b _ (by rfl) (by rfl) hY (by rfl) ?_
                        intro w6 hY hoth hbs
                        have hX := Row.same hX (hoth gx hne)
                        have L6 := L5.trans (hbs wr2.heap.size hgy L5.size)
                        refine hK.out _ _ (STAY.out _ L6) (fun hHeld => ?_)
                        clear hK K
                        simp only [Act.put, List.setIfInBounds_toArray, List.set_cons_zero, List.set_cons_succ]
                        refine wpAnyH_done (by kernel_rfl) ?_ _
                        refine NoPanic.normal ?_
                        exact ⟨rfl, gx, gy, rfl, hX, hY, hgx, hgy, hne, L6⟩
              · skip
                refine step_alloc8 (by rfl) 8 (by rfl) (by rfl) ?_
                intro gx w2 hgx0 hX hb2
                have hgx : wr2.heap.size ≤ gx := by rw [hgx0]; exact L1.size
                have L2 := Below.and L1 hb2
                have hne : gx ≠ gy := by have := hY.lt; omega
                have hY := hY.below hb2 hY.lt
                refine hK.out _ _ (STAY.out _ L2) (fun hHeld => ?_)
                clear hK K
                simp only [Act.put, List.setIfInBounds_toArray, List.set_cons_zero, List.set_cons_succ]
                refine wpAnyH_ready (rs := [5]) (by kernel_rfl) (by simp) ?_
                refine AllReadyH.cons (o := ⟨some 37, _, _, _, _, _⟩) rfl (fun K hK => ?_) (AllReadyH.nil)
                · skip
                  refine step_put (by rfl) (.tmp 36) _ (by rfl) c HF2.out.1 (by rfl) ?_
                  intro w3 hb3
                  have L3 := Below.and L2 hb3
                  have hX := hX.below hb3 hX.lt
                  have hY := hY.below hb3 hY.lt
                  refine hK.out _ _ (STAY.out _ L3) (fun hHeld => ?_)
                  clear hK K
                  simp only [Act.put, List.setIfInBounds_toArray, List.set_cons_zero, List.set_cons_succ]
                  refine wpAnyH_ready (rs := [11]) (by kernel_rfl) (by simp) ?_
                  refine AllReadyH.cons (o := ⟨some 43, _, _, _, _, _⟩) rfl (fun K hK => ?_) (AllReadyH.nil)
                  · skip
                    refine step_put (by rfl) (.tmp 42) _ (by rfl) b HF2.out.2 (by rfl) ?_
                    intro w4 hb4
                    have L4 := Below.and L3 hb4
                    have hX := hX.below hb4 hX.lt
                    have hY := hY.below hb4 hY.lt
                    refine hK.out _ _ (STAY.out _ L4) (fun hHeld => ?_)
                    clear hK K
                    simp only [Act.put, List.setIfInBounds_toArray, List.set_cons_zero, List.set_cons_succ]
                    refine wpAnyH_ready (rs := [14]) (by kernel_rfl) (by simp) ?_
                    refine AllReadyH.cons (o := ⟨none, _, _, _, _, _⟩) rfl (fun K hK => ?_) (AllReadyH.nil)
                    · skip
                      refine step_store8 (by rfl) (.tmp 8) (.tmp 37) (by rfl) gx c _ (by rfl) (by rfl) hX (by rfl) ?_
                      intro w5 hX hoth hbs
                      have hY := Row.same hY (hoth gy (Ne.symm hne))
                      have L5 := L4.trans (hbs wr2.heap.size hgx L4.size)
                      refine hK.out _ _ (STAY.out _ L5) (fun hHeld => ?_)
                      clear hK K
                      simp only [Act.put, List.setIfInBounds_toArray, List.set_cons_zero, List.set_cons_succ]
                      refine wpAnyH_ready (rs := [15]) (by kernel_rfl) (by simp) ?_
                      refine AllReadyH.cons (o := ⟨none, _, _, _, _, _⟩) rfl (fun K hK => ?_) (AllReadyH.nil)
                      · skip
                        refine step_store8 (by rfl) (.tmp 9) (.tmp 43) (by rfl) gy b _ (by rfl) (by rfl) hY (by rfl) ?_
                        intro w6 hY hoth hbs
                        have hX := Row.same hX (hoth gx hne)
                        have L6 := L5.trans (hbs wr2.heap.size hgy L5.size)
                        refine hK.out _ _ (STAY.out _ L6) (fun hHeld => ?_)
                        clear hK K
                        simp only [Act.put, List.setIfInBounds_toArray, List.set_cons_zero, List.set_cons_succ]
                        refine wpAnyH_done (by kernel_rfl) ?_ _
                        refine NoPanic.normal ?_
                        exact ⟨rfl, gx, gy, rfl, hX, hY, hgx, hgy, hne, L6⟩
          case mono =>
            rintro e a' w6 ⟨rfl, gx, gy, rfl, hX, hY, hgx, hgy, hne, L6⟩
            have HX := Lib.hid hX
            have HY := Lib.hid hY
            have HGR := Lib.hid (HRW.out.below L6 HRW.out.lt)
            have HLW := Lib.hid (Below.and HB.out L6)
            have hxb : gb ≠ gx := by have := HRW.out.lt; omega
            have hyb : gb ≠ gy := by have := HRW.out.lt; omega
            clear hX hY hgx hgy hne
            go_wp2
            go_loopw [10] (fun v wr3 => ∃ k : Nat, k ≤ 8 ∧ v = .int .i64 k ∧ Row wr3 gb 5 (part i (imW q k) (imV l f) (bv f)) ∧ Row wr3 gx 78 (b8A c) ∧ Row wr3 gy 78 (b8A b) ∧ Below w.heap.size w wr3) (fun v _ => 8 - (intOf v).toNat)
            case atStart => exact ⟨0, Nat.zero_le _, rfl, HGR.out, HX.out, HY.out, HLW.out⟩
            case round =>
              obtain ⟨k, hk, rfl, hrw, hrx, hry, hbl⟩ := hrel
              rename World => wr3
              have HRW3 := Lib.hid hrw
              have HRX3 := Lib.hid hrx
              have HRY3 := Lib.hid hry
              have HBL3 := Lib.hid hbl
              by_cases hk8 : k < 8
              · have hx1 := hrx.cell k
                have hy1 := hry.cell k
                rw [b8A_get hk8] at hx1 hy1
                have hiz2 : 1024 * (q + 1) + 8 + k < i := by rw [HZ.out]; omega
                have hc1 := hrw.cell (1024 * (q + 1) + k)
                rw [part_get (by omega)] at hc1
                have hf1 := hrw.free (1024 * (q + 1) + k)
                obtain ⟨U1, hU1⟩ : ∃ U, U = (if imW q k (1024 * (q + 1) + k) = true then imV l f (1024 * (q + 1) + k) else bv f) := ⟨_, rfl⟩
                rw [← hU1] at hc1
                have hr2 := hrw.set (1024 * (q + 1) + k) (bv (wbyt c k))
                have hy2 : (wr3.setCell ⟨gb, 1024 * (q + 1) + k, none⟩ (bv (wbyt c k))).cell? ⟨gy, k, none⟩ = some (bv (wbyt b k)) := by rw [cell_far hyb]; exact hy1
                have hc2 := hr2.cell (1024 * (q + 1) + 8 + k)
                have hf2 := hr2.free (1024 * (q + 1) + 8 + k)
                rw [Array.getElem?_setIfInBounds_ne (by omega), part_get (by omega)] at hc2
                obtain ⟨U2, hU2⟩ : ∃ U, U = (if imW q k (1024 * (q + 1) + 8 + k) = true then imV l f (1024 * (q + 1) + 8 + k) else bv f) := ⟨_, rfl⟩
                rw [← hU2] at hc2
                have HR4 := Lib.hid (show Row ((wr3.setCell ⟨gb, 1024 * (q + 1) + k, none⟩ (bv (wbyt c k))).setCell ⟨gb, 1024 * (q + 1) + 8 + k, none⟩ (bv (wbyt b k))) gb 5 (part i (imW q (k + 1)) (imV l f) (bv f)) from by
                  have h := hr2.set (1024 * (q + 1) + 8 + k) (bv (wbyt b k))
                  rw [HC.out, HBE.out, im_put hk8] at h
                  rw [HC.out, HBE.out]
                  exact h)
                clear hr2 hrw hrx hry hbl hU1 hU2
                unfold bv at hx1 hy1 hy2 hc2 hf2
                go_wp2
                go_roundw
                case rel => exact ⟨k + 1, by omega, by go_num, HR4.out, (HRX3.out.other (p := ⟨gb, _, none⟩) (Ne.symm hxb) _).other (p := ⟨gb, _, none⟩) (Ne.symm hxb) _, (HRY3.out.other (p := ⟨gb, _, none⟩) (Ne.symm hyb) _).other (p := ⟨gb, _, none⟩) (Ne.symm hyb) _,
                  (HBL3.out.setCell (p := ⟨gb, _, none⟩) (by rw [HGB.out]; exact Nat.le_refl _) _).setCell (p := ⟨gb, _, none⟩) (by rw [HGB.out]; exact Nat.le_refl _) _⟩
                case measure => simp [intOf]; omega
              · obtain rfl : k = 8 := by omega
                have HRE := Lib.hid (show Row wr3 gb 5 (part i (imW (q + 1) 0) (imV l f) (bv f)) from by
                  have h := HRW3.out
                  rw [show imW q 8 = imW (q + 1) 0 from funext fun j => imW_succ q j] at h
                  exact h)
                clear hrw hrx hry hbl
                go_wp2
                go_roundw
                case rel => exact ⟨q + 1, by omega, by go_num, HRE.out, HBL3.out⟩
                case measure => simp [intOf]; omega
        · obtain rfl : q = n := by omega
          have HE := Lib.hid (show ImPost w l f (.returned (.slice (some ⟨gb, 0, none⟩) i i)) wr2 from ⟨gb, by rw [← HN.out, ← HZ.out], by
            have h := HRW.out
            rw [HZ.out, HN.out, im_end] at h
            exact h, HB.out, by rw [HGB.out]; exact Nat.le_refl _⟩)
          go_wp2
          go_ret
          exact HE.out
end Go.Proofs.YtahojhaeebmpoaaGreatDoor
