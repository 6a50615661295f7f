/- Texts of this claim, packed: SnL, SnQ. -/
import Derived.Test.YtaabdmlmemmnaaaPk31
import Derived.Test.YtaabdmlmemmnaaaPk29
import Derived.Test.YtaabdmlmemmnaaaPk35
import Derived.Test.YtaabdmlmemmnaaaPk15
/- The document's stores that lay a node; conditions: the base is small. -/
namespace Go.Proofs.Ytaabdmlmemmnaaa
open Go.RowKit
set_option linter.unusedVariables false
theorem store_w24s (w1 : World) (vs : List Value) (hl : vs.length = 24) : ∃ W2, W2 = (w1.alloc (.cells #[.int .u64 0, .int .u64 0, .int .u64 0, .int .u64 0, .int .u64 0, .int .u64 0, .int .u64 0, .int .u64 0, .int .u64 0, .int .u64 0, .int .u64 0, .int .u64 0, .int .u64 0, .int .u64 0, .int .u64 0, .int .u64 0, .int .u64 0, .int .u64 0, .int .u64 0, .int .u64 0, .int .u64 0, .int .u64 0, .int .u64 0, .int .u64 0] 67)).setCells w1.heap.size 0 vs ∧ Row W2 w1.heap.size 67 vs.toArray ∧ Below w1.heap.size w1 W2 :=
  ⟨_, rfl, row_setCells (Row.new w1 67 zeroW.toArray) hl, setCells_low _ (Nat.le_refl _) (alloc_below _ _)⟩
/-- The stores that lay a node. -/
def layL (base : Int) (n : Nd) : List (Int × Int) := (List.range 24).map fun (i : Nat) => (base + 8 * (i : Int), wAt (wi n) i)
theorem layL_len (base : Int) (n : Nd) : (layL base n).length = 24 := by simp [layL]
theorem layL_at (base : Int) (n : Nd) {i : Nat} (hi : i < 24) : (layL base n)[i]? = some (base + 8 * (i : Int), wAt (wi n) i) := by
  unfold layL
  rw [List.getElem?_map, List.getElem?_range hi]
  rfl
theorem layL_take (base : Int) (n : Nd) {k : Nat} (hk : k < 24) : (layL base n).take (k + 1) = (layL base n).take k ++ [(base + 8 * (k : Int), wAt (wi n) k)] := by
  have h := layL_at base n hk
  have hl : k < (layL base n).length := by rw [layL_len]; exact hk
  rw [List.getElem?_eq_getElem hl] at h
  rw [List.take_succ_eq_append_getElem hl, Option.some.inj h]
theorem infoPut11 : (Try.prog.info? 66).map (fun i => (i.zero, i.size, i.bytes)) = some (some (.agg #[.int .u64 0, .int .u64 0]), 2, 16) := by kernel_rfl
set_option maxRecDepth 100000 in
set_option maxHeartbeats 4000000 in
theorem r11Words_any {base : Int} (hb0 : 0 ≤ base ∧ base ≤ 1099511627776) (n : Nd) (w : World) : Calls Try.prog 32 #[.int .u64 base, n.V] w fun e w' => (∃ v, e = .returned v ∧ w'.ownsRow w.heap.size 66 2 v 24 (flatE (layL base n))) ∧ Below w.heap.size w w' := by
  obtain ⟨i0, hi, hz0, hz1, hz2⟩ := info_parts infoPut11
  have r0 := Row.new w 27 n.cl.toArray
  obtain ⟨Wa, hWa⟩ : ∃ Wa, Wa = w.alloc (.cells n.cl.toArray 27) := ⟨_, rfl⟩
  rw [← hWa] at r0
  have HSa := Lib.hid (show w.heap.size ≤ Wa.heap.size by rw [hWa]; simp)
  have HB0 := Lib.hid (show Below w.heap.size w Wa by rw [hWa]; exact alloc_below _ _)
  have R0 := Lib.hid r0
  have HWa := Lib.hid hWa
  have HW := Lib.hid (r8Words_any n Wa)
  rw [wi_words] at HW
  have hvl : ((wi n).map uw).length = 24 := by rw [List.length_map, wi_len]
  have hv1 : ∀ v ∈ (wi n).map uw, v.oneCell' = true := by
    intro v hv
    obtain ⟨x, _, rfl⟩ := List.mem_map.1 hv
    rfl
  have HGET := Lib.hid (show ∀ k, k < 24 → ((wi n).map uw)[k]? = some (.int .u64 (wAt (wi n) k)) from fun k hk => wAt_get (wi_len n) hk)
  obtain ⟨vs, hV⟩ : ∃ vs, vs = (wi n).map uw := ⟨_, rfl⟩
  rw [← hV] at HW hvl hv1 HGET
  clear r0 hWa hV
  go_enter Try.func32, Try.ntmps32
  go_wp2_with (first
    | (rw [← HWa.out]; refine wpList_load_mid rfl _ _ rfl w.heap.size 0 rfl n.cl _ (ndR R0.out) Try.underlying27 rfl ndI ?_)
    | (go_at_call 51; refine HW.out.mono ?_; rintro e w1 ⟨rfl, hb1⟩)
    | (refine wpList_store_row rfl _ _ _ rfl w1.heap.size vs rfl rfl (Row.new w1 67 zeroW.toArray) hvl (by rw [hvl]; exact w24I) hv1 ?_; obtain ⟨W2, hW2, hn2, hb2⟩ := store_w24s w1 vs hvl; rw [← hW2]; have HB1 := Lib.hid hb1; have HB2 := Lib.hid hb2; have HN2 := Lib.hid hn2; clear hW2 hb1 hb2 hn2))
  have hsz1 : w1.heap.size < W2.heap.size := HN2.out.lt
  go_loopw [5, 7] (fun o i wr => ∃ k : Nat, k ≤ 24 ∧ i = .int .i64 (k : Int) ∧ wr.ownsRow W2.heap.size 66 2 o k (flatE ((layL base n).take k)) ∧ Below W2.heap.size W2 wr) (fun _ i _ => 24 - (intOf i).toNat)
  case atStart => exact ⟨0, by omega, rfl, World.ownsRow_nil _ _ _ _, Below.refl _ _⟩
  case round =>
    rename World => wr
    obtain ⟨k, hk, rfl, ho, hb⟩ := hrel
    have HO := Lib.hid ho
    have HBr := Lib.hid hb
    have HSZ := Lib.hid hb.size
    have hwsz := hb.size
    by_cases hlt : k < 24
    · have hxi : (k : Int) < 24 := by omega
      have cg : wr.cell? ⟨w1.heap.size, k, none⟩ = some (.int .u64 (wAt (wi n) k)) := by
        rw [hb.cell (p := ⟨w1.heap.size, k, none⟩) hsz1, HN2.out.cell, List.getElem?_toArray]
        exact HGET.out k hlt
      have HST := Lib.hid (layL_take base n hlt)
      obtain ⟨x, hx⟩ : ∃ x, x = wAt (wi n) k := ⟨_, rfl⟩
      rw [← hx] at cg HST
      have hw1 : IntKind.u64.wrap (8 * (k : Int)) = 8 * (k : Int) := by rw [IntKind.wrap_u64]; omega
      have hw2 : IntKind.u64.wrap (base + 8 * (k : Int)) = base + 8 * (k : Int) := by rw [IntKind.wrap_u64]; omega
      clear ho hb hx
      go_wp2_with (at_builtin; refine wpList_append_own _ rfl _ _ 61 rfl W2.heap.size 66 i0 (.agg #[.int .u64 0, .int .u64 0]) 2 16 Try.underlying61 hi hz0 hz1 hz2 rfl (by decide) _ _ _ rfl (ownS_low HO.out (alloc_below _ _)) ⟨wr.heap.size, 0, none⟩ 1 1 [.int .u64 (base + 8 * (k : Int)), .int .u64 x] rfl ?qc1 ?qc2 ?qc3 ?qc4 ?qc5 ?qc6 ?_)
      case qc1 => rfl
      case qc2 =>
        intro j u hj
        rw [Addr.add_lit, Nat.zero_add, (Row.new _ _ _).cell, ← Array.getElem?_toList]
        exact hj
      case qc3 => intro u hu; simp at hu; rcases hu with rfl | rfl <;> rfl
      case qc4 => unfold maxLen; omega
      case qc5 => omega
      case qc6 => have := HSZ.out; simp; omega
      intro v' w4 hown hgrow hnil
      have HO4 := Lib.hid hown
      have HB4 := Lib.hid (show Below W2.heap.size W2 w4 from (Below.and HBr.out (alloc_below _ _)).grown hgrow (by have := HSZ.out; simp; omega) (fun g hg => (ownS_from HO.out g hg).1))
      clear hown hgrow hnil
      go_wp2
      exact ⟨⟨k + 1, by omega, by go_num, by rw [HST.out, flatE_snoc]; exact HO4.out, HB4.out⟩, by simp [intOf]; omega⟩
    · obtain rfl : k = 24 := by omega
      go_wp2
      go_ret
      have hs2 := HB2.out.size
      have hs1 := HB1.out.size
      refine ⟨⟨_, rfl, ?_⟩, Below.and HB0.out (Below.and HB1.out (Below.and HB2.out HBr.out))⟩
      have := ownS_mono HO.out (show w.heap.size ≤ W2.heap.size by have := HSa.out; omega)
      rw [List.take_of_length_le (Nat.le_of_eq (layL_len base n))] at this
      exact this
end Go.Proofs.Ytaabdmlmemmnaaa
/- A memory's state behind a few stores, flushes, a fence: what is seen, and that its numbers stay small; plain facts. -/
namespace Go.Proofs.Ytaabdmlmemmnaaa
open Go.RowKit
set_option linter.unusedVariables false
structure Lds (nl n : Nat) (s : St) : Prop where
  nls : s.nl = nl
  ok : s.Ok
  pl : s.pend.length = nl
  few : ∀ j, (s.pend.getD j []).length ≤ n
  vl : s.view.length = 8 * nl
  num : s.ld ≤ n ∧ s.st ≤ n ∧ s.fl ≤ n ∧ s.fe ≤ n
theorem zero_Lds (nl : Nat) : Lds nl 0 (St.zero nl) := by
  refine ⟨rfl, zero_Ok nl, by simp [St.zero], fun j => ?_, by simp [St.zero], Nat.le_refl _, Nat.le_refl _, Nat.le_refl _, Nat.le_refl _⟩
  show ((List.replicate nl ([] : List (Nat × Nat))).getD j []).length ≤ 0
  rw [List.getD_eq_getElem?_getD, List.getElem?_replicate]
  split <;> simp
section
variable {nl n : Nat} {s : St}
theorem Lds.mono (h : Lds nl n s) {m : Nat} (hm : n ≤ m) : Lds nl m s :=
  ⟨h.nls, h.ok, h.pl, fun j => Nat.le_trans (h.few j) hm, h.vl, Nat.le_trans h.num.1 hm, Nat.le_trans h.num.2.1 hm, Nat.le_trans h.num.2.2.1 hm, Nat.le_trans h.num.2.2.2 hm⟩
theorem Lds.store (h : Lds nl n s) (hn : n ≤ 1000000) {a v : Nat} (h8 : a % 8 = 0) (ha : a < 64 * nl) (hv : v < 18446744073709551616) : Lds nl (n + 1) (s.store a v) := by
  have hp : a / 64 < s.pend.length := by rw [h.pl]; omega
  refine ⟨h.nls, store_Ok h.ok h8 hp hv (by have := h.num; omega) (by have := h.few (a / 64); omega), ?_, fun j => ?_, ?_, by have := h.num; show s.ld ≤ _; omega, by have := h.num; show s.st + 1 ≤ _; omega, by have := h.num; show s.fl ≤ _; omega, by have := h.num; show s.fe ≤ _; omega⟩
  · show (s.pend.set _ _).length = nl
    rw [List.length_set]
    exact h.pl
  · show ((s.pend.set (a / 64) (s.pend.getD (a / 64) [] ++ [(a, v)])).getD j []).length ≤ n + 1
    rw [set_getD hp]
    split
    · rw [List.length_append]
      have := h.few (a / 64)
      simp only [List.length_cons, List.length_nil]
      omega
    · have := h.few j
      omega
  · show (s.view.set _ _).length = _
    rw [List.length_set]
    exact h.vl
theorem Lds.flush (h : Lds nl n s) (hn : n ≤ 1000000) (c a : Nat) : Lds nl (n + 1) (s.flush c a) :=
  ⟨h.nls, flush_Ok h.ok (by have := h.num; omega), h.pl, fun j => Nat.le_succ_of_le (h.few j), h.vl, by have := h.num; show s.ld ≤ _; omega, by have := h.num; show s.st ≤ _; omega, by have := h.num; show s.fl + 1 ≤ _; omega, by have := h.num; show s.fe ≤ _; omega⟩
theorem Lds.fence (h : Lds nl n s) (hn : n ≤ 1000000) (c : Nat) : Lds nl (n + 1) (s.fence c) := by
  refine ⟨h.nls, fence_Ok h.ok (by have := h.num; omega), ?_, fun j => ?_, h.vl, by have := h.num; show s.ld ≤ _; omega, by have := h.num; show s.st ≤ _; omega, by have := h.num; show s.fl ≤ _; omega, by have := h.num; show s.fe + 1 ≤ _; omega⟩
  · show (s.pend.mapIdx _).length = nl
    rw [List.length_mapIdx]
    exact h.pl
  · show ((s.pend.mapIdx fun j l => if true = true then l.drop (s.mm j c) else l).getD j []).length ≤ n + 1
    have := h.few j
    rw [List.getD_eq_getElem?_getD] at this ⊢
    rw [List.getElem?_mapIdx]
    cases e : s.pend[j]? with
    | none => exact Nat.zero_le _
    | some l =>
      rw [e] at this
      simp only [Option.map_some, Option.getD_some, if_true, List.length_drop] at this ⊢
      omega
theorem Lds.load (h : Lds nl n s) (hn : n ≤ 1000000) (A : Nat) : Lds nl (n + 1) (ldS s A) := by
  unfold ldS
  split
  · exact ⟨h.nls, ⟨h.ok.las, h.ok.vie, h.ok.put, h.ok.few, h.ok.mks, by have := h.num; exact ⟨by show s.ld + 1 < _; omega, h.ok.num.2⟩⟩, h.pl, fun j => Nat.le_succ_of_le (h.few j), h.vl, by have := h.num; show s.ld + 1 ≤ _; omega, by have := h.num; show s.st ≤ _; omega, by have := h.num; show s.fl ≤ _; omega, by have := h.num; show s.fe ≤ _; omega⟩
  · exact h.mono (Nat.le_succ n)
end
/-- Stores, one behind the other. -/
def stF (s : St) (l : List (Nat × Nat)) : St := l.foldl (fun s p => s.store p.1 p.2) s
theorem stF_snoc (s : St) (l : List (Nat × Nat)) (p : Nat × Nat) : stF s (l ++ [p]) = (stF s l).store p.1 p.2 := by simp [stF]
theorem stF_Lds {nl : Nat} : ∀ (l : List (Nat × Nat)) {n : Nat} {s : St}, Lds nl n s → n + l.length ≤ 1000000 → (∀ p ∈ l, p.1 % 8 = 0 ∧ p.1 < 64 * nl ∧ p.2 < 18446744073709551616) → Lds nl (n + l.length) (stF s l) := by
  intro l
  induction l with
  | nil => exact fun h _ _ => h
  | cons p t ih =>
    intro n s h hn hl
    rw [List.length_cons] at hn ⊢
    have hp := hl p (by simp)
    rw [show n + (t.length + 1) = n + 1 + t.length by omega]
    exact ih (h.store (by omega) hp.1 hp.2.1 hp.2.2) (by omega) (fun q hq => hl q (by simp [hq]))
/-- What is seen behind stores: the last one to a word. -/
def seenV (v : List Nat) (l : List (Nat × Nat)) : List Nat := l.foldl (fun v p => v.set (p.1 / 8) p.2) v
theorem stF_view (l : List (Nat × Nat)) : ∀ s : St, (stF s l).view = seenV s.view l := by
  induction l with
  | nil => exact fun s => rfl
  | cons p t ih => exact fun s => ih (s.store p.1 p.2)
theorem seenV_len (l : List (Nat × Nat)) : ∀ v : List Nat, (seenV v l).length = v.length := by
  induction l with
  | nil => exact fun v => rfl
  | cons p t ih => exact fun v => (ih _).trans List.length_set
theorem seenV_far {k : Nat} : ∀ (l : List (Nat × Nat)) (v : List Nat), (∀ p ∈ l, p.1 / 8 ≠ k) → (seenV v l).getD k 0 = v.getD k 0 := by
  intro l
  induction l with
  | nil => exact fun v _ => rfl
  | cons p t ih =>
    intro v h
    refine (ih (v.set (p.1 / 8) p.2) (fun q hq => h q (by simp [hq]))).trans ?_
    rw [List.getD_eq_getElem?_getD, List.getD_eq_getElem?_getD, List.getElem?_set_ne (h p (by simp))]
theorem seenV_app (v : List Nat) (l m : List (Nat × Nat)) : seenV v (l ++ m) = seenV (seenV v l) m := by simp [seenV]
/-- The stores that lay a node, as numbers that are none below 0. -/
def layN (base : Nat) (n : Nd) : List (Nat × Nat) := (List.range 24).map fun i => (base + 8 * i, (wAt (wi n) i).toNat)
theorem layN_len (base : Nat) (n : Nd) : (layN base n).length = 24 := by simp [layN]
theorem layN_at (base : Nat) (n : Nd) {i : Nat} (hi : i < 24) : (layN base n)[i]? = some (base + 8 * i, (wAt (wi n) i).toNat) := by
  unfold layN
  rw [List.getElem?_map, List.getElem?_range hi]
  rfl
theorem seenV_row (f : Nat → Nat) (b : Nat) : ∀ (k : Nat) (v : List Nat), b + k ≤ v.length → ∀ i, i < k → (seenV v ((List.range k).map fun i => (8 * (b + i), f i))).getD (b + i) 0 = f i := by
  intro k
  induction k with
  | zero => exact fun v h i hi => absurd hi (Nat.not_lt_zero _)
  | succ k ih =>
    intro v h i hi
    rw [List.range_succ, List.map_append, seenV_app]
    simp only [List.map_cons, List.map_nil, seenV, List.foldl_cons, List.foldl_nil]
    rw [show 8 * (b + k) / 8 = b + k by omega, List.getD_eq_getElem?_getD]
    by_cases e : i = k
    · subst e
      rw [List.getElem?_set_self (by
        show b + i < (seenV v _).length
        rw [seenV_len]
        omega)]
      rfl
    · rw [List.getElem?_set_ne (by omega), ← List.getD_eq_getElem?_getD]
      exact ih v (by omega) i (by omega)
theorem seenV_row_far (f : Nat → Nat) (b k j : Nat) (v : List Nat) (h : j < b ∨ b + k ≤ j) : (seenV v ((List.range k).map fun i => (8 * (b + i), f i))).getD j 0 = v.getD j 0 :=
  seenV_far _ v fun p hp => by
    obtain ⟨i, hi, rfl⟩ := List.mem_map.1 hp
    have := List.mem_range.1 hi
    dsimp only
    omega
theorem layN_row {base b : Nat} (h : base = 8 * b) (n : Nd) : layN base n = (List.range 24).map fun i => (8 * (b + i), (wAt (wi n) i).toNat) := by
  subst h
  exact List.map_congr_left fun i _ => by rw [show 8 * b + 8 * i = 8 * (b + i) by omega]
end Go.Proofs.Ytaabdmlmemmnaaa
