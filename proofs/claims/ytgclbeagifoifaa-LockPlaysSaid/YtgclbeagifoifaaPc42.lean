/- Texts of this claim, packed: 7KSame. -/
import Derived.Test.YtgclbeagifoifaaPc41
/- Same of two tables with locks: whether as many clients have, and wait for, the same. -/
namespace Go.Proofs.Ytgclbeagifoifaa
open Go.RowKit
set_option linter.unusedVariables false
theorem kinfA : (Try.prog.info? 34).map (fun i => (i.zero, i.size, i.bytes)) = some (some (.int .u64 0), 1, 8) := by kernel_rfl
theorem kcelA : Try.prog.cellsOf 34 = 1 := by kernel_rfl
theorem kplnA : Try.prog.plainKey 34 = true := by kernel_rfl
def wl7 (f : Nat → Nat) : List Value := (List.range 64).map fun c => wv (f c)
theorem wl7_len (f : Nat → Nat) : (wl7 f).length = 64 := by unfold wl7; rw [List.length_map, List.length_range]
theorem wl7_at (f : Nat → Nat) {i : Nat} (h : i < 64) : (wl7 f)[i]? = some (.int .u64 (f i : Int)) := by
  unfold wl7
  rw [List.getElem?_map, List.getElem?_range h]
  rfl
def all64 (f g : Nat → Nat) : Bool := (List.range 64).all fun i => f i == g i
theorem all64_iff (f g : Nat → Nat) : all64 f g = true ↔ ∀ c, c < 64 → f c = g c := by
  unfold all64
  rw [List.all_eq_true]
  constructor
  · intro h c hc
    exact beq_iff_eq.1 (h c (List.mem_range.2 hc))
  · intro h c hc
    exact beq_iff_eq.2 (h c (List.mem_range.1 hc))
theorem items64 (f g : Nat → Nat) (w : World) : ∀ is : List Nat, (∀ i ∈ is, i < 64) → (Op.eqItems 9999 34 1 (wl7 f).toArray (wl7 g).toArray is).run Try.prog w = .ok (is.all fun i => f i == g i) w
  | [], _ => by simp [Op.eqItems]
  | i :: is, h => by
    have hi0 : i < 64 := h i (by simp)
    have hp := run_part_plain (P := Try.prog) w kplnA (xs := (wl7 f).toArray) (off := i) (by rw [List.getElem?_toArray]; exact wl7_at f hi0)
    have hq := run_part_plain (P := Try.prog) w kplnA (xs := (wl7 g).toArray) (off := i) (by rw [List.getElem?_toArray]; exact wl7_at g hi0)
    have he := run_equalIn_int (P := Try.prog) w 9998 34 .u64 .u64 (f i : Int) (g i : Int) Try.underlying34
    have hi := items64 f g w is (fun j hj => h j (by simp [hj]))
    have hb : (((f i : Int)) == (g i : Int)) = (f i == g i) := by
      rw [Bool.eq_iff_iff, beq_iff_eq, beq_iff_eq]
      omega
    simp only [Op.eqItems, Sem.run_bind, Nat.mul_one, hp, hq, Result.andThen_ok, he, hb, hi, List.all_cons]
    cases hz : (f i == g i) <;> simp [hi]
theorem eq64 (f g : Nat → Nat) (w : World) : (Op.equalIn 10000 53 (.agg (wl7 f).toArray) (.agg (wl7 g).toArray)).run Try.prog w = .ok (all64 f g) w := by
  obtain ⟨i0, hi, hz0, hz1, hz2⟩ := info_parts kinfA
  have h := run_equalIn_array (P := Try.prog) w 9999 (wl7 f).toArray (wl7 g).toArray Try.underlying53 hi
  rw [kcelA, items64 f g w _ (by intro i hi; exact List.mem_range.1 hi)] at h
  exact h
theorem KAt.rng {w : World} {g b : Nat} {s : Lk} (h : KAt w g b s) : w.rangeAt g 2 (wl7 s.wt) := fun j v hv => by
  have hj : j < 64 := by rw [← wl7_len s.wt]; exact (List.getElem?_eq_some_iff.1 hv).1
  rw [wl7_at _ hj] at hv
  rw [← Option.some.inj hv]
  exact h.cw hj
theorem wt_ext {s s' : Lk} (ok : s.Ok) (ok' : s'.Ok) (h : ∀ c, c < 64 → s.wt c = s'.wt c) : s.wt = s'.wt := by
  funext c
  by_cases hc : c < 64
  · exact h c hc
  · rw [ok.wo c (by have := ok.n2; omega), ok'.wo c (by have := ok'.n2; omega)]
set_option maxRecDepth 100000 in
set_option maxHeartbeats 4000000 in
theorem ksame_any {w : World} {g b g' b' : Nat} {s s' : Lk} (h : KAt w g b s) (h' : KAt w g' b' s') {q : Bool} (hq : q = true ↔ (s.n = s'.n ∧ s.wt = s'.wt ∧ s.hm = s'.hm)) :
    Calls Try.prog 12 #[.pointer (some ⟨g, 0, none⟩), .pointer (some ⟨g', 0, none⟩)] w fun e w' => e = .returned (.bool q) ∧ Below w.heap.size w w' := by
  have mixed : Try.prog.follows .mixedOrders = true := by kernel_rfl
  have HN := Lib.hid (knone_yes h)
  have HN' := Lib.hid (knone_yes h')
  obtain ⟨q3, hq3⟩ : ∃ q3 : Bool, q3 = true ↔ s.hm = s'.hm := ⟨@decide (s.hm = s'.hm) (Classical.propDecidable _), by simp⟩
  have HE := Lib.hid (fun p : LowBy w => Calls.low_of (mEq_any (h.below p.low).mp (h'.below p.low).mp (fun id c hc => (h.ok.hc id c hc).2) (fun id c hc => (h'.ok.hc id c hc).2) hq3))
  have x0 := fun p : LowBy w => LowBy.cell h.cn p
  have x1 := fun p : LowBy w => LowBy.cell h.cm p
  have y0 := fun p : LowBy w => LowBy.cell h'.cn p
  have y1 := fun p : LowBy w => LowBy.cell h'.cm p
  have HR1 := Lib.hid (show ∀ W, (∃ p : LowBy w, W = p.W) → W.rangeAt g 2 (wl7 s.wt) from fun W hW => by
    obtain ⟨p, rfl⟩ := hW
    exact (h.below p.low).rng)
  have HR2 := Lib.hid (show ∀ W, (∃ p : LowBy w, W = p.W) → W.rangeAt g' 2 (wl7 s'.wt) from fun W hW => by
    obtain ⟨p, rfl⟩ := hW
    exact (h'.below p.low).rng)
  have E64 := eq64 s.wt s'.wt
  have hu := Try.underlying53
  have hi1 : (Try.prog.info? 53).map (·.size) = some (wl7 s.wt).length := by rw [wl7_len]; kernel_rfl
  have hi2 : (Try.prog.info? 53).map (·.size) = some (wl7 s'.wt).length := by rw [wl7_len]; kernel_rfl
  obtain ⟨ws, hws⟩ : ∃ ws, ws = wl7 s.wt := ⟨_, rfl⟩
  obtain ⟨ws', hws'⟩ : ∃ ws', ws' = wl7 s'.wt := ⟨_, rfl⟩
  obtain ⟨q2, hq2⟩ : ∃ q2, q2 = all64 s.wt s'.wt := ⟨_, rfl⟩
  obtain ⟨n, hn⟩ : ∃ n, n = s.n := ⟨_, rfl⟩
  obtain ⟨n', hn'⟩ : ∃ n', n' = s'.n := ⟨_, rfl⟩
  rw [← hws, ← hws', ← hq2] at E64
  rw [← hws] at HR1 hi1
  rw [← hws'] at HR2 hi2
  rw [← hn] at x0
  rw [← hn'] at y0
  have hfin : q = (decide (n = n') && (q2 && q3)) := by
    rw [Bool.eq_iff_iff, hq, Bool.and_eq_true, Bool.and_eq_true, decide_eq_true_iff, hq3, hq2, all64_iff, hn, hn']
    constructor
    · rintro ⟨a, b, c⟩
      exact ⟨a, fun i _ => by rw [b], c⟩
    · rintro ⟨a, b, c⟩
      exact ⟨a, wt_ext h.ok h'.ok b, c⟩
  have HF := Lib.hid hfin
  have main : ∀ (q1 r : Bool), ((n : Int) == (n' : Int)) = q1 → r = (q1 && (q2 && q3)) → Calls Try.prog 12 #[.pointer (some ⟨g, 0, none⟩), .pointer (some ⟨g', 0, none⟩)] w fun e w' => e = .returned (.bool r) ∧ Below w.heap.size w w' := by
    intro q1 r hq1 hr
    have HRR := Lib.hid hr
    clear HF hfin hr hq hq3 hq2 hws hws' hn hn' h h'
    cases q1 with
    | false =>
      obtain rfl : r = false := HRR.out
      go_enter Try.func12, Try.ntmps12
      go_wp2_with fail
      refine HN.out.mono ?_
      rintro e w1 ⟨rfl, rfl⟩
      go_wp2_with fail
      refine HN'.out.mono ?_
      rintro e w1 ⟨rfl, rfl⟩
      go_upto_region 3 with (fail)
      refine wp_region_quiet_low (by assumption) (by kernel_rfl) ?_
      repeat (first | go_big_quiet_skip | (go_big_quiet_want; go_big_quiet_op; go_big_quiet_on))
      refine wpQuiet_nil ?_
      intro _ hw'
      obtain ⟨p, hw''⟩ := hw'
      subst hw''
      have HP := Lib.hid p.low
      go_wp2
      go_ret
      exact ⟨rfl, HP.out⟩
    | true =>
      cases q2 with
      | false =>
        obtain rfl : r = false := HRR.out
        go_enter Try.func12, Try.ntmps12
        go_wp2_with fail
        refine HN.out.mono ?_
        rintro e w1 ⟨rfl, rfl⟩
        go_wp2_with fail
        refine HN'.out.mono ?_
        rintro e w1 ⟨rfl, rfl⟩
        go_upto_region 3 with (fail)
        refine wp_region_quiet_low (by assumption) (by kernel_rfl) ?_
        repeat (first | go_big_quiet_skip | (go_big_quiet_want; first | (refine quiet_load_mid 53 _ rfl g 2 rfl ws _ HR1.out Try.underlying53 rfl hi1 ?_; simp only [Act.put, List.setIfInBounds_toArray, List.set_cons_succ, List.set_cons_zero]; go_big_quiet_on) | (refine quiet_load_mid 53 _ rfl g' 2 rfl ws' _ HR2.out Try.underlying53 rfl hi2 ?_; simp only [Act.put, List.setIfInBounds_toArray, List.set_cons_succ, List.set_cons_zero]; go_big_quiet_on) | (go_big_quiet_op; go_big_quiet_on)))
        refine wpQuiet_nil ?_
        intro _ hw'
        obtain ⟨p, hw''⟩ := hw'
        subst hw''
        have HP := Lib.hid p.low
        go_wp2
        go_ret
        exact ⟨rfl, HP.out⟩
      | true =>
        obtain rfl : r = q3 := HRR.out
        go_enter Try.func12, Try.ntmps12
        go_wp2_with fail
        refine HN.out.mono ?_
        rintro e w1 ⟨rfl, rfl⟩
        go_wp2_with fail
        refine HN'.out.mono ?_
        rintro e w1 ⟨rfl, rfl⟩
        go_upto_region 3 with (fail)
        refine wp_region_quiet_low (by assumption) (by kernel_rfl) ?_
        repeat (first | go_big_quiet_skip | (go_big_quiet_want; first | (refine quiet_load_mid 53 _ rfl g 2 rfl ws _ HR1.out Try.underlying53 rfl hi1 ?_; simp only [Act.put, List.setIfInBounds_toArray, List.set_cons_succ, List.set_cons_zero]; go_big_quiet_on) | (refine quiet_load_mid 53 _ rfl g' 2 rfl ws' _ HR2.out Try.underlying53 rfl hi2 ?_; simp only [Act.put, List.setIfInBounds_toArray, List.set_cons_succ, List.set_cons_zero]; go_big_quiet_on) | (go_big_quiet_op; first | go_big_quiet_on | go_big_quiet_call ((go_at_call 32; with_reducible exact HE.out _)))))
        refine wpQuiet_nil ?_
        intro _ hw'
        obtain ⟨p, hw''⟩ := hw'
        subst hw''
        have HP := Lib.hid p.low
        go_wp2
        go_ret
        exact ⟨rfl, HP.out⟩
  refine main _ q rfl ?_
  rw [HF.out]
  congr 1
  rw [Bool.eq_iff_iff, decide_eq_true_iff, beq_iff_eq]
  omega
end Go.Proofs.Ytgclbeagifoifaa
