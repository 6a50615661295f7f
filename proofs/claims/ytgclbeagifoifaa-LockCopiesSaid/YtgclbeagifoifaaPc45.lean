/- Texts of this claim, packed: 7SameT. -/
import Derived.Test.YtgclbeagifoifaaPc43
import Derived.Test.YtgclbeagifoifaaPc44
import Derived.Test.YtgclbeagifoifaaPc30
/- The law's own comparison of the table with the document's: true wherever both say the same. -/
namespace Go.Proofs.Ytgclbeagifoifaa
open Go.RowKit
set_option linter.unusedVariables false
theorem runs_none {w : World} {g b : Nat} {s : Lk} (h : KAt w g b s) {c : Int} (hc : isC s c = false) :
    Calls Try.prog 16 #[.pointer (some ⟨g, 0, none⟩), .int .i64 c] w fun e w' => e = .returned (.int .i64 (-1)) ∧ w = w' := by
  have := kis_any h c
  rw [hc] at this
  exact runs_out this
theorem AdrL.nil (w : World) : AdrL w (.slice none 0 0) [] := ⟨none, 0, rfl, fun h => by simp at h⟩
theorem pw_ext7 : ∀ {a b : List Nat}, a.Pairwise (· < ·) → b.Pairwise (· < ·) → (∀ x, x ∈ a ↔ x ∈ b) → a = b
  | [], [], _, _, _ => rfl
  | [], y :: t, _, _, h => by have := (h y).2 List.mem_cons_self; cases this
  | x :: t, [], _, _, h => by have := (h x).1 List.mem_cons_self; cases this
  | x :: t, y :: u, ha, hb, h => by
    rw [List.pairwise_cons] at ha hb
    have e : x = y := by
      rcases List.mem_cons.1 ((h x).1 List.mem_cons_self) with e | e
      · exact e
      · rcases List.mem_cons.1 ((h y).2 List.mem_cons_self) with e2 | e2
        · exact e2.symm
        · have := hb.1 x e
          have := ha.1 y e2
          omega
    subst e
    rw [pw_ext7 ha.2 hb.2 fun z => ?_]
    constructor
    · intro hz
      rcases List.mem_cons.1 ((h z).1 (List.mem_cons_of_mem _ hz)) with e2 | e2
      · subst e2; exact absurd (ha.1 _ hz) (Nat.lt_irrefl _)
      · exact e2
    · intro hz
      rcases List.mem_cons.1 ((h z).2 (List.mem_cons_of_mem _ hz)) with e2 | e2
      · subst e2; exact absurd (hb.1 _ hz) (Nat.lt_irrefl _)
      · exact e2
theorem r7Held_all {w : World} {B gr m : Nat} {s : Lk} {vL vW : Value} (r : RIs w B gr s m vL vW) (hm : m ≤ 1000) (c : Nat) {xs : List Nat} (hx : HeldIs s c xs) :
    Calls Try.prog 26 #[.pointer (some ⟨gr, 0, none⟩), .int .i64 (c : Int)] w (HeldPost w xs) := by
  obtain ⟨l, wt, hR, hI, hn, hl⟩ := r.ex
  have h1 := heldL_is hI hn c
  have e : heldL l c = xs := by
    refine pw_ext7 h1.1 hx.1 fun id => ?_
    rw [h1.2 id, hx.2 id]
  have := rHeld_any hR (by omega) c
  rw [e] at this
  exact this
/-- What the slots of a round's beginning hold. -/
def CSt (n : Nat) (v : Value) : Prop := ∃ z : Int, v = .int .i64 z ∧ -1 ≤ z ∧ z ≤ (n : Int) + 1
set_option maxRecDepth 100000 in
set_option maxHeartbeats 4000000 in
theorem same7_any {w : World} {g b B gr m : Nat} {s : Lk} {vL vW : Value} (h : KAt w g b s) (r : RIs w B gr s m vL vW) (hm : m ≤ 1000) :
    Calls Try.prog 9 #[.pointer (some ⟨g, 0, none⟩), .pointer (some ⟨gr, 0, none⟩)] w fun e w' => e = .returned (.bool true) ∧ Below w.heap.size w w' := by
  have mixed : Try.prog.follows .mixedOrders = true := by kernel_rfl
  have hn1 := h.ok.n1
  obtain ⟨gw, cap, rfl, hnc, hmx, _, c1⟩ := r.wcell (c := 0) (by omega)
  have HK := Lib.hid (fun W (hb : Below w.heap.size w W) => h.below hb)
  have HR := Lib.hid (fun W (hb : Below w.heap.size w W) => r.below hb)
  have HOK := Lib.hid h.ok
  obtain ⟨n, hn⟩ : ∃ n, n = s.n := ⟨_, rfl⟩
  have HN := Lib.hid hn
  rw [← hn] at hnc c1
  have hn64 : n ≤ 64 := by rw [hn]; exact h.ok.n2
  have cl := fun p : LowBy w => Calls.low_of_same (clients_yes (HK.out p.W p.low))
  rw [← hn] at cl
  have x1 := fun p : LowBy w => LowBy.cell c1 p
  have hne : ((n : Int) != (n : Int)) = false := by simp
  have hmax : n ≤ cap := hnc
  clear h r hn hn1
  go_enter Try.func9, Try.ntmps9
  go_upto_region 1 with (fail)
  refine wp_region_quiet_low (by assumption) (by kernel_rfl) ?_
  repeat (go_big_quiet_step (first | (go_at_call 24; with_reducible exact cl _)))
  refine wpQuiet_nil ?_
  intro _ hw'
  obtain ⟨p, hw''⟩ := hw'
  subst hw''
  have hp := Lib.hid p.low
  generalize p.W = W1 at *
  clear x1 cl
  go_wp2
  go_loopw [5] (fun v wr => CSt n v ∧ Below w.heap.size w wr) (fun v _ => ((n : Int) + 2 - intOf v).toNat)
  case atStart => exact ⟨⟨-1, rfl, by omega, by omega⟩, hp.out⟩
  case round =>
    rename World => wr
    obtain ⟨⟨z, rfl, hz1, hz2⟩, hb⟩ := hrel
    have HB := Lib.hid hb
    have c1r : wr.cell? ⟨gr, 1, none⟩ = some (.slice (some ⟨gw, 0, none⟩) n cap) := (hb.cell (w.block_lt_of_cell? _ c1)).trans c1
    have HKr := Lib.hid (HK.out wr hb)
    have HRr := Lib.hid (HR.out wr hb)
    clear hb
    by_cases hle : z ≤ (n : Int)
    · by_cases hin : 0 ≤ z ∧ z < (n : Int)
      · obtain ⟨k, rfl⟩ : ∃ k : Nat, z = (k : Int) := ⟨z.toNat, by omega⟩
        have hk : k < n := by omega
        have hks : k < s.n := by rw [← HN.out]; exact hk
        obtain ⟨xs, hxs⟩ := held_ex HOK.out k
        have HXS := Lib.hid hxs
        have HWT := Lib.hid (wants_any HKr.out hks)
        have HC2 := Lib.hid (fun W (hb : Below w.heap.size w W) => (HR.out W hb).is_ (k : Int))
        have HC3 := Lib.hid (fun W (hb : Below w.heap.size w W) => (show W.cell? ⟨gw, k, none⟩ = some (.int .u64 (s.wt k : Int)) ∧ W.cell? ⟨gr, 1, none⟩ = some (.slice (some ⟨gw, 0, none⟩) n cap) from by
          obtain ⟨gw', cap', hv, _, _, hc, hc1⟩ := (HR.out W hb).wcell hks
          injection hv with hv1 hv2 hv3
          injection hv1 with hv1
          injection hv1 with hv1
          subst hv1 hv3
          rw [← HN.out] at hc1
          exact ⟨hc, hc1⟩))
        obtain ⟨x, hx⟩ : ∃ x, x = s.wt k := ⟨_, rfl⟩
        obtain ⟨q, hq⟩ : ∃ q, q = decide (x ≠ 0) := ⟨_, rfl⟩
        rw [← hx, ← hq] at HWT
        rw [← hx] at HC3
        have hq2 : ((x : Int) != 0) = q := by rw [hq]; by_cases h0 : x = 0 <;> simp [h0]
        have hxx : ((x : Int) != (x : Int)) = false := by simp
        have hqq : (q != q) = false := by simp
        have hkk : ((k : Int) != (k : Int)) = false := by simp
        have hin1 : decide (0 ≤ (k : Int) ∧ (k : Int) < (n : Int)) = true := decide_eq_true (by omega)
        have hkn : (k : Int) < (n : Int) := by omega
        rw [← HN.out, hin1] at HC2
        clear hx hq hin hin1 hxs hks hz1 hz2
        go_wp2_with fail
        refine HWT.out.mono ?_
        rintro e w2 ⟨rfl, hb2⟩
        have HB2 := Lib.hid (Below.and HB.out hb2)
        have HC2b := Lib.hid (HC2.out _ (Below.and HB.out hb2))
        have d2 := (HC3.out _ (Below.and HB.out hb2)).2
        have d3 := (HC3.out _ (Below.and HB.out hb2)).1
        have HHd := Lib.hid (r7Held_all (HR.out _ (Below.and HB.out hb2)) hm k HXS.out)
        clear hb2 HWT
        go_wp2_with fail
        refine HC2b.out.mono ?_
        rintro e w3 ⟨rfl, rfl⟩
        go_wp2_with fail
        refine HHd.out.mono ?_
        rintro e w4 ⟨v4, rfl, ho4, hb4⟩
        obtain ⟨A4, cap4, hv4, hA4⟩ := AdrL.own ho4
        have HA4 := Lib.hid hA4
        have HHk := Lib.hid (held_any (HK.out _ (Below.and HB2.out hb4)) (c := k) (by rw [← HN.out]; exact hk) HXS.out)
        have HB4 := Lib.hid (Below.and HB2.out hb4)
        have HL4 := Lib.hid (own_lenA ho4)
        obtain ⟨L, hL⟩ : ∃ L, L = xs.length := ⟨_, rfl⟩
        have HLL := Lib.hid hL
        have hLm : L ≤ 9223372036854775807 := by rw [hL]; exact own_lenA ho4
        rw [← hL] at hv4
        subst hv4
        clear hb4 ho4 hA4 hL d2 d3
        go_wp2_with fail
        refine HHk.out.mono ?_
        rintro e w5 ⟨v5, rfl, ho5, hb5⟩
        have HS5 := Lib.hid (show Calls Try.prog 27 #[v5, .slice A4 L cap4] w5 _ from r5Same_yes (AdrL.own ho5) (show AdrL w5 (.slice A4 L cap4) xs from AdrL.below ⟨A4, cap4, by rw [HLL.out], HA4.out⟩ hb5) HL4.out)
        have HB5 := Lib.hid (Below.and HB4.out hb5)
        have HA5 := Lib.hid (show AdrL w5 (.slice A4 L cap4) xs from AdrL.below ⟨A4, cap4, by rw [HLL.out], HA4.out⟩ hb5)
        clear hb5 ho5 HHk
        go_wp2_with fail
        refine HS5.out.mono ?_
        rintro e w6 ⟨rfl, hb6⟩
        have HB6 := Lib.hid (Below.and HB5.out hb6)
        have HA6 := Lib.hid (HA5.out.below hb6)
        have HRu := Lib.hid (runs_any (HK.out _ (Below.and HB5.out hb6)) (c := k) (by rw [← HN.out]; exact hk))
        clear hb6 HS5
        go_wp2_with fail
        refine HRu.out.mono ?_
        rintro e w7 ⟨r7, hr7, rfl, hb7⟩
        have HB7 := Lib.hid (Below.and HB6.out hb7)
        have HA7 := Lib.hid (HA6.out.below hb7)
        have HR7 := Lib.hid hr7
        have HRr7 := Lib.hid (rRuns_any (HR.out _ (Below.and HB6.out hb7)) HOK.out (c := k) (by rw [← HN.out]; exact hk))
        clear hb7 hr7 HRu
        go_wp2_with fail
        refine HRr7.out.mono ?_
        rintro e w8 ⟨r8, hr8, rfl, rfl⟩
        obtain rfl := runs_one HR7.out hr8
        have hrr : ((r7 : Int) != (r7 : Int)) = false := by simp
        clear hr8 HR7 HRr7
        go_wp2
        go_loopw [10] (fun v wx => ∃ i : Nat, v = .int .i64 (i : Int) ∧ i ≤ L ∧ w7 = wx) (fun v _ => L - (intOf v).toNat)
        case atStart => exact ⟨0, rfl, Nat.zero_le _, rfl⟩
        case round =>
          obtain ⟨i, rfl, hiL, rfl⟩ := hrel
          by_cases hlt : i < L
          · obtain ⟨A', cap', hv', hA'⟩ := HA7.out
            have hlx : i < xs.length := by rw [← HLL.out]; exact hlt
            obtain ⟨ga, hga, hcells⟩ := hA' (by omega)
            injection hv' with hv1 hv2 hv3
            clear hv2 hv3
            rw [← hv1] at hga
            subst hga
            have hxi : xs[i]? = some (xs[i]'hlx) := List.getElem?_eq_getElem hlx
            obtain ⟨y, hy⟩ : ∃ y, y = xs[i]'hlx := ⟨_, rfl⟩
            rw [← hy] at hxi
            have ci := hcells i y hxi
            have hym : y ∈ xs := List.mem_of_getElem? hxi
            have hhy := (HXS.out.2 y).1 hym
            have hyl := (HOK.out.hc _ _ hhy).2
            have HHo := holder_any (HK.out _ HB7.out) hyl
            rw [hhy, show hV (some k) = .int .i64 (k : Int) from rfl, show (some k).isSome = true from rfl] at HHo
            have HHo := Lib.hid HHo
            clear hA' hv1 hcells hxi hy hym hhy hyl
            go_wp2_with fail
            refine HHo.out.mono ?_
            rintro e w9 ⟨rfl, rfl⟩
            go_wp2
            exact ⟨⟨i + 1, by go_num, by omega, trivial⟩, by simp [intOf]; omega⟩
          · obtain rfl : i = L := by omega
            have hll : decide ((i : Int) < (i : Int)) = false := by simp
            go_wp2
            exact ⟨⟨⟨(k : Int) + 1, by go_num, by omega, by omega⟩, HB7.out⟩, by simp [intOf]; omega⟩
      · have hcf : isC s z = false := by
          simp only [isC, Bool.and_eq_false_iff, decide_eq_false_iff_not]
          have := HN.out
          omega
        have HWT := Lib.hid (wants_out HKr.out hcf)
        have HC2 := HRr.out.is_ z
        have hno : ¬ (0 ≤ z ∧ z < (s.n : Int)) := by have := HN.out; omega
        rw [decide_eq_false hno] at HC2
        have HC2 := Lib.hid HC2
        have HHk := Lib.hid (held_out HKr.out (c := z) fun id d hd e => by
          have := (HOK.out.hc id d hd).1
          exact hno (by omega))
        have HRu := Lib.hid (fun W (hb : Below w.heap.size w W) => runs_none (HK.out W hb) hcf)
        have HRr7 := Lib.hid (fun W (hb : Below w.heap.size w W) => rRuns_out (HR.out W hb) hcf)
        have hz0 : ((0 : Int) != 0) = false := rfl
        have hm1 : ((-1 : Int) != -1) = false := rfl
        clear hno hcf hin c1
        go_wp2_with fail
        refine HWT.out.mono ?_
        rintro e w2 ⟨rfl, rfl⟩
        go_wp2_with fail
        refine HC2.out.mono ?_
        rintro e w3 ⟨rfl, rfl⟩
        go_wp2_with fail
        refine HHk.out.mono ?_
        rintro e w5 ⟨v5, rfl, ho5, hb5⟩
        have HS5 := Lib.hid (show Calls Try.prog 27 #[v5, .slice none 0 0] w5 _ from r5Same_yes (AdrL.own ho5) (AdrL.nil w5) (by simp))
        have HB5 := Lib.hid (Below.and HB.out hb5)
        clear hb5 ho5 HHk
        go_wp2_with fail
        refine HS5.out.mono ?_
        rintro e w6 ⟨rfl, hb6⟩
        have HB6 := Lib.hid (Below.and HB5.out hb6)
        have HRu6 := Lib.hid (HRu.out _ (Below.and HB5.out hb6))
        have HRr6 := Lib.hid (HRr7.out _ (Below.and HB5.out hb6))
        clear hb6 HS5
        go_wp2_with fail
        refine HRu6.out.mono ?_
        rintro e w7 ⟨rfl, rfl⟩
        go_wp2_with fail
        refine HRr6.out.mono ?_
        rintro e w8 ⟨rfl, rfl⟩
        go_wp2
        go_loopw [10] (fun v wx => v = .int .i64 0 ∧ w6 = wx) (fun _ _ => 0)
        case atStart => exact ⟨rfl, rfl⟩
        case round =>
          obtain ⟨rfl, rfl⟩ := hrel
          go_wp2
          exact ⟨⟨⟨z + 1, by go_num, by omega, by omega⟩, HB6.out⟩, by simp [intOf]; omega⟩
    · have hgt : decide (z ≤ (n : Int)) = false := by simpa using hle
      go_wp2
      go_ret
      exact ⟨rfl, HB.out⟩
end Go.Proofs.Ytgclbeagifoifaa
