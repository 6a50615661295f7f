/- RunTwo: two runs in one memory, in lines of their own: what stands while either steps; the law's apart and begins; the walk, for any input. -/
import Derived.Test.YtgapncamnmngeaaRnJ
import Derived.Test.YtgapncamnmngeaaRnW
import Derived.Test.YtgapncamnmngeaaRnB
import Derived.Test.YtgapncamnmngeaaRnR
import Derived.Test.YtgapncamnmngeaaRnS
import Derived.Test.YtgapncamnmngeaaRnG
import Derived.Test.YtgapncamnmngeaaRnLs
import Derived.Deep.Grids
namespace Go.Proofs.Ytgapncamnmngeaa
open Go.RowKit Go.Shelf
set_option linter.unusedVariables false

theorem pend_set_ne (q : List (List (Nat × Nat))) (i j : Nat) (x : List (Nat × Nat)) (h : i ≠ j) : (q.set i x).getD j [] = q.getD j [] := by
  rw [List.getD_eq_getElem?_getD, List.getElem?_set, List.getD_eq_getElem?_getD, if_neg h]
theorem off_store {P : Nat → Prop} {n : Nat} {l : List (Nat × Nat)} {s : St} {r : RS} {t m L b a v : Nat} (h : Inv P n l s r t m L b) (ha : ¬ P (a / 64)) : Inv P n l (s.store a v) r t m L b := by
  refine { hb := h.hb, ht := h.ht, hm := h.hm, left := h.left, view := ?_, las := h.las, pen := ?_, cur := h.cur, mk0 := h.mk0, mk1 := h.mk1, fl := h.fl, st := h.st, en := h.en, dn := h.dn, lines := h.lines, lv := ?_, ll := h.ll, lp := ?_ }
  · intro k hk
    show (s.view.set (a / 8) v).getD k 0 = _
    rw [set_gd, if_neg, h.view k hk]
    rintro ⟨e, _⟩
    apply ha
    have : a / 64 = k / 8 := by omega
    rw [this]
    exact hk
  · intro j hj
    show (s.pend.set (a / 64) (s.pend.getD (a / 64) [] ++ [(a, v)])).getD j [] = _
    have hne : a / 64 ≠ j := fun e => ha (by rw [e]; exact hj)
    rw [pend_set_ne _ _ _ _ hne, h.pen j hj]
  · show (s.view.set (a / 8) v).length = _
    rw [List.length_set]
    exact h.lv
  · show (s.pend.set (a / 64) _).length = _
    rw [List.length_set]
    exact h.lp
theorem off_flush {P : Nat → Prop} {n : Nat} {l : List (Nat × Nat)} {s : St} {r : RS} {t m L b c a : Nat} (h : Inv P n l s r t m L b) (ha : ¬ P (a / 64)) : Inv P n l (s.flush c a) r t m L b := by
  have hmm : ∀ j k, P j → (s.flush c a).mm j k = s.mm j k := fun j k hj => by
    show (if (s.pend.getD (a / 64) []).length = 0 then s.mm else upd s.mm (a / 64) fun k => if k = c then (s.pend.getD (a / 64) []).length else s.mm (a / 64) k) j k = _
    split
    · rfl
    · unfold upd
      have hne : ¬ j = a / 64 := fun e => ha (by rw [← e]; exact hj)
      rw [if_neg hne]
  refine { hb := h.hb, ht := h.ht, hm := h.hm, left := h.left, view := h.view, las := h.las, pen := h.pen, cur := h.cur, mk0 := ?_, mk1 := ?_, fl := h.fl, st := h.st, en := h.en, dn := h.dn, lines := h.lines, lv := h.lv, ll := h.ll, lp := h.lp }
  · intro j c' hj h0
    rw [hmm j c' hj] at h0
    exact h.mk0 j c' hj h0
  · intro h1
    rw [hmm L _ (h.fl (.inr h1)).2.1]
    exact h.mk1 h1
theorem off_fence {P : Nat → Prop} {n : Nat} {l : List (Nat × Nat)} {s : St} {r : RS} {t m L b c : Nat} (h : Inv P n l s r t m L b) (hc : c ≠ r.c.toNat) : Inv P n l (s.fence c) r t m L b := by
  have hz : ∀ j, P j → s.mm j c = 0 := fun j hj => by
    by_cases h0 : s.mm j c = 0
    · exact h0
    · exact absurd (h.mk0 j c hj h0).1 hc
  refine { hb := h.hb, ht := h.ht, hm := h.hm, left := h.left, view := h.view, las := ?_, pen := ?_, cur := h.cur, mk0 := ?_, mk1 := ?_, fl := h.fl, st := h.st, en := h.en, dn := h.dn, lines := h.lines, lv := h.lv, ll := ?_, lp := ?_ }
  · intro k hk
    show (s.lasted.mapIdx fun k x => if (fun _ : Nat => true) (k / 8) = true then (lastW s.lasted ((s.pend.getD (k / 8) []).take (s.mm (k / 8) c))).getD k 0 else x).getD k 0 = _
    rw [← h.las k hk]
    by_cases hkl : k < s.lasted.length
    · rw [List.getD_eq_getElem?_getD, List.getElem?_mapIdx, List.getElem?_eq_getElem hkl]
      simp only [Option.map_some, Option.getD_some, if_true]
      rw [hz _ hk, List.take_zero]
      rfl
    · rw [List.getD_eq_getElem?_getD, List.getElem?_eq_none (by rw [List.length_mapIdx]; omega), List.getD_eq_getElem?_getD, List.getElem?_eq_none (by omega)]
  · intro j hj
    show (s.pend.mapIdx fun j l => if (fun _ : Nat => true) j = true then l.drop (s.mm j c) else l).getD j [] = _
    rw [← h.pen j hj, List.getD_eq_getElem?_getD, List.getElem?_mapIdx, List.getD_eq_getElem?_getD]
    cases e : s.pend[j]? with
    | none => simp
    | some x =>
      simp only [Option.map_some, Option.getD_some, if_true]
      rw [hz j hj, List.drop_zero]
  · intro j c' hj h0
    have h0' : s.mm j c' - s.mm j c ≠ 0 := h0
    exact h.mk0 j c' hj (by omega)
  · intro h1
    show s.mm L r.c.toNat - s.mm L c = m - t
    rw [hz L (h.fl (.inr h1)).2.1]
    exact h.mk1 h1
  · show (s.lasted.mapIdx _).length = _
    rw [List.length_mapIdx]
    exact h.ll
  · show (s.pend.mapIdx _).length = _
    rw [List.length_mapIdx]
    exact h.lp
/-- The other run steps. -/
theorem inv_off {P Q : Nat → Prop} {n : Nat} {l l' : List (Nat × Nat)} {s : St} {r r' : RS} {t m L b t' m' L' b' : Nat} (h : Inv P n l s r t m L b) (h' : Inv Q n l' s r' t' m' L' b') (hPQ : ∀ j, Q j → ¬ P j) (hc : r'.c.toNat ≠ r.c.toNat) : Inv P n l (r'.mem s) r t m L b := by
  cases e : r'.ph with
  | st =>
    cases el : r'.left with
    | nil =>
      have hm : r'.mem s = s := by unfold RS.mem; rw [e, el]
      rw [hm]
      exact h
    | cons av q =>
      obtain ⟨a, v⟩ := av
      have hm : r'.mem s = s.store a v := by unfold RS.mem; rw [e, el]
      rw [hm]
      have hdr : l'.drop m' = (a, v) :: q := by rw [← h'.left, el]
      exact off_store h (hPQ _ (h'.lines (a, v) (List.mem_of_getElem? (drop_head hdr).1)).1)
  | fl =>
    have hm : r'.mem s = s.flush r'.c.toNat r'.line := by unfold RS.mem; rw [e]
    rw [hm]
    obtain ⟨hl, hQ, _⟩ := h'.fl (.inl e)
    exact off_flush h (by rw [hl, show 64 * L' / 64 = L' from by omega]; exact hPQ _ hQ)
  | fe =>
    have hm : r'.mem s = s.fence r'.c.toNat := by unfold RS.mem; rw [e]
    rw [hm]
    exact off_fence h hc
  | en =>
    have hm : r'.mem s = s := by unfold RS.mem; rw [e]
    rw [hm]
    exact h
/-- A line of its own for each store: even lines or odd ones. -/
def aptA (odd n a : Nat) : Nat := (if n ≤ a / 64 / 2 * 2 + odd then odd else a / 64 / 2 * 2 + odd) * 64 + a % 64
def apt (odd n : Nat) (l : List (Nat × Nat)) : List (Nat × Nat) := l.map fun p => (aptA odd n p.1, p.2)
theorem apt_length (odd n : Nat) (l : List (Nat × Nat)) : (apt odd n l).length = l.length := by simp [apt]
theorem aptA_line {odd n a : Nat} (ho : odd < 2) (hn : 2 ≤ n) : aptA odd n a / 64 % 2 = odd ∧ aptA odd n a / 64 < n ∧ aptA odd n a % 64 = a % 64 ∧ aptA odd n a < 64 * n := by
  unfold aptA
  split <;> omega
theorem apt_line {odd n : Nat} {l : List (Nat × Nat)} (ho : odd < 2) (hn : 2 ≤ n) : ∀ p ∈ apt odd n l, p.1 / 64 % 2 = odd ∧ p.1 / 64 < n := by
  intro p hp
  obtain ⟨q, hq, rfl⟩ := List.mem_map.1 hp
  have := aptA_line (a := q.1) ho hn
  exact ⟨this.1, this.2.1⟩
end Go.Proofs.Ytgapncamnmngeaa

namespace Go.Proofs.Ytgapncamnmngeaa
open Go.RowKit Go.Shelf
set_option linter.unusedVariables false

/-- Where its loop stands. -/
def AptR (w : World) (odd n : Nat) (l : List (Nat × Nat)) (o i : Value) (wr : World) : Prop := ∃ k : Nat, k ≤ l.length ∧ i = .int .i64 (k : Int) ∧ wr.ownsRow w.heap.size 32 2 o k (flat ((apt odd n l).take k)) ∧ Below w.heap.size w wr ∧ (k = 0 → o = .slice none 0 0)
set_option maxRecDepth 100000 in
set_option maxHeartbeats 1600000 in
theorem apart_any {w : World} {V : Value} {l : List (Nat × Nat)} (h : Reads w V l) {nl odd : Nat} (h0 : 2 ≤ nl) (h1 : nl ≤ 16) (ho : odd < 2) (hl : l.length ≤ 1000000) (hx : ∀ p ∈ l, p.1 < 1000000 ∧ p.2 < 18446744073709551616) :
    Calls Try.prog 25 #[V, .int .i64 (odd : Int), .int .i64 ((64 * nl : Nat) : Int)] w fun e w' => (∃ v, e = .returned v ∧ w'.ownsRow w.heap.size 32 2 v l.length (flat (apt odd nl l)) ∧ (l = [] → v = .slice none 0 0)) ∧ Below w.heap.size w w' := by
  obtain ⟨i0, hi, hz0, hz1, hz2⟩ := info_parts info32
  obtain ⟨A, cap, rfl, hlc, hcm, h3⟩ := h
  have H := Lib.hid h3
  clear h3
  obtain ⟨n, hn⟩ : ∃ n, n = l.length := ⟨_, rfl⟩
  have HN := Lib.hid hn
  rw [← hn] at hlc hl ⊢
  have HX := Lib.hid hx
  obtain ⟨S, hS⟩ : ∃ S, S = 64 * nl := ⟨_, rfl⟩
  rw [← hS]
  have hS1 : S ≤ 1024 := by omega
  have HS := Lib.hid hS
  clear hn hx hS
  go_enter Try.func25, Try.ntmps25
  go_wp2_with fail
  go_loopw [7, 8] (fun o i wr => AptR w odd nl l o i wr) (fun _ i _ => n - (intOf i).toNat)
  case atStart => exact ⟨0, Nat.zero_le _, rfl, World.ownsRow_nil _ _ _ _, Below.refl _ _, fun _ => rfl⟩
  case round =>
    rename World => wr
    obtain ⟨k, hk, rfl, ho2, hb, hnil⟩ := hrel
    have HO := Lib.hid ho2
    have HB := Lib.hid hb
    clear ho2 hb
    by_cases hlt : k < n
    · obtain ⟨ad, rfl, hc0', hc1'⟩ := H.out k (by rw [← HN.out]; exact hlt)
      have hc0 := (HB.out.cell (block_lt_of_cell hc0')).trans hc0'
      have hc1 := (HB.out.cell (block_lt_of_cell hc1')).trans hc1'
      rw [← add_add ad (k * 2) 1, show (ad.add (k * 2)).add 1 = ⟨(ad.add (k * 2)).block, (ad.add (k * 2)).off + 1, none⟩ from rfl] at hc1
      clear hc0' hc1'
      obtain ⟨a, ha⟩ : ∃ a, a = (l[k]'(by rw [← HN.out]; exact hlt)).1 := ⟨_, rfl⟩
      obtain ⟨v, hv⟩ : ∃ v, v = (l[k]'(by rw [← HN.out]; exact hlt)).2 := ⟨_, rfl⟩
      rw [← ha] at hc0
      rw [← hv] at hc1
      have hklt : decide ((k : Int) < (n : Int)) = true := by rw [decide_eq_true_eq]; omega
      have HSZ := Lib.hid (show w.heap.size ≤ wr.heap.size from HB.out.size)
      have hax : a < 1000000 := by rw [ha]; exact (HX.out _ (List.getElem_mem _)).1
      obtain ⟨ln, hln⟩ : ∃ ln, ln = a / 64 / 2 * 2 + odd := ⟨_, rfl⟩
      have hl9 : ln < 1000000 := by omega
      have hlI : (a : Int) / 64 / 2 * 2 + (odd : Int) = (ln : Int) := by omega
      have HSTA := fun x (hx : x = aptA odd nl a) => Lib.hid (show flat ((apt odd nl l).take (k + 1)) = flat ((apt odd nl l).take k) ++ [wv x, wv v] from by
        have hkl : k < (apt odd nl l).length := by rw [apt_length, ← HN.out]; exact hlt
        rw [List.take_succ_eq_append_getElem hkl, flat_append]
        have e : (apt odd nl l)[k] = (x, v) := by simp only [apt, List.getElem_map, hx, ha, hv]
        rw [e]
        rfl)
      have HSn := HS.out
      by_cases hge : nl ≤ a / 64 / 2 * 2 + odd
      · have hdge : decide ((S : Int) ≤ ((a : Int) / 64 / 2 * 2 + (odd : Int)) * 64) = true := by rw [decide_eq_true_eq]; omega
        obtain ⟨x, hxd⟩ : ∃ x, x = 64 * odd + a % 64 := ⟨_, rfl⟩
        have HST := HSTA x (by rw [hxd]; unfold aptA; rw [if_pos hge]; omega)
        clear ha hv HSTA
        clear hln hlI
        obtain ⟨ln, rfl⟩ : ∃ ln, ln = odd := ⟨_, rfl⟩
        clear HSn hge
        obtain ⟨f, hf⟩ : ∃ f, f = a % 64 := ⟨_, rfl⟩
        have hf9 : f < 64 := by omega
        have htm : (a : Int).tmod 64 = (f : Int) := by rw [Int.tmod_eq_emod_of_nonneg (by omega), hf]; omega
        obtain ⟨y, hy⟩ : ∃ y, y = 64 * ln := ⟨_, rfl⟩
        have hy1 : IntKind.i64.wrap (64 * (ln : Int)) = (y : Int) := by rw [IntKind.wrap_i64]; omega
        have hy2 : IntKind.u64.wrap (y : Int) = (y : Int) := by rw [IntKind.wrap_u64]; omega
        have hy3 : IntKind.u64.wrap ((y : Int) + (f : Int)) = (x : Int) := by rw [IntKind.wrap_u64]; omega
        clear hf hxd hy
        go_wp2_with fail
        go_region_law ((refine step_append_lies _ (by rfl) (.tmp 32) (.tmp 49) _ (by rfl) w.heap.size 32 i0 (.agg #[.int .u64 0, .int .u64 0]) 2 16 rfl hi hz0 hz1 hz2 rfl (by decide) _ _ _ (by rfl) (ownZ_low HO.out (Below.and (alloc_below _ _) (drew_below _))) ⟨wr.heap.size, 0, none⟩ 1 1 [.int .u64 (x : Int), .int .u64 (v : Int)] (by rfl) (by rfl) (World.news_of_block (cs := #[.int .u64 (x : Int), .int .u64 (v : Int)]) (t := 32) (fr := (0, 0)) (heap_alloc_new wr _)) (by intro u hu; simp at hu; rcases hu with rfl | rfl <;> rfl) (by decide) (by unfold maxLen; omega) (by omega) (by simp; have := HSZ.out; omega) (wr.heap.size + 1) (by simp) ?_; intro g4 cap4 w4 hown hgrow hsm hlt2))
        all_goals
          have HO4 := Lib.hid hown
          have HB4 := Lib.hid (show Below w.heap.size w w4 from (Below.and HB.out (Below.and (alloc_below _ _) (drew_below _))).grown hgrow (by have := HSZ.out; simp; omega) (fun g hg => (ownZ_from HO.out g hg).1))
          clear hown hgrow hsm hlt2
          go_wp2
          exact ⟨⟨k + 1, by have := HN.out; omega, by go_num, by rw [HST.out]; exact HO4.out, HB4.out, fun h => by omega⟩, by simp [intOf]; omega⟩
      · have hdge : decide ((S : Int) ≤ ((a : Int) / 64 / 2 * 2 + (odd : Int)) * 64) = false := by rw [decide_eq_false_iff_not]; omega
        obtain ⟨x, hxd⟩ : ∃ x, x = 64 * ln + a % 64 := ⟨_, rfl⟩
        have HST := HSTA x (by rw [hxd]; unfold aptA; rw [if_neg hge, hln]; omega)
        clear ha hv HSTA hln
        go_wp2_with fail
        clear hlI hdge HSn hge
        obtain ⟨f, hf⟩ : ∃ f, f = a % 64 := ⟨_, rfl⟩
        have hf9 : f < 64 := by omega
        have htm : (a : Int).tmod 64 = (f : Int) := by rw [Int.tmod_eq_emod_of_nonneg (by omega), hf]; omega
        obtain ⟨y, hy⟩ : ∃ y, y = 64 * ln := ⟨_, rfl⟩
        have hy1 : IntKind.i64.wrap (64 * (ln : Int)) = (y : Int) := by rw [IntKind.wrap_i64]; omega
        have hy2 : IntKind.u64.wrap (y : Int) = (y : Int) := by rw [IntKind.wrap_u64]; omega
        have hy3 : IntKind.u64.wrap ((y : Int) + (f : Int)) = (x : Int) := by rw [IntKind.wrap_u64]; omega
        clear hf hxd hy
        go_region_law ((refine step_append_lies _ (by rfl) (.tmp 32) (.tmp 49) _ (by rfl) w.heap.size 32 i0 (.agg #[.int .u64 0, .int .u64 0]) 2 16 rfl hi hz0 hz1 hz2 rfl (by decide) _ _ _ (by rfl) (ownZ_low HO.out (Below.and (alloc_below _ _) (drew_below _))) ⟨wr.heap.size, 0, none⟩ 1 1 [.int .u64 (x : Int), .int .u64 (v : Int)] (by rfl) (by rfl) (World.news_of_block (cs := #[.int .u64 (x : Int), .int .u64 (v : Int)]) (t := 32) (fr := (0, 0)) (heap_alloc_new wr _)) (by intro u hu; simp at hu; rcases hu with rfl | rfl <;> rfl) (by decide) (by unfold maxLen; omega) (by omega) (by simp; have := HSZ.out; omega) (wr.heap.size + 1) (by simp) ?_; intro g4 cap4 w4 hown hgrow hsm hlt2))
        all_goals
          have HO4 := Lib.hid hown
          have HB4 := Lib.hid (show Below w.heap.size w w4 from (Below.and HB.out (Below.and (alloc_below _ _) (drew_below _))).grown hgrow (by have := HSZ.out; simp; omega) (fun g hg => (ownZ_from HO.out g hg).1))
          clear hown hgrow hsm hlt2
          go_wp2
          exact ⟨⟨k + 1, by have := HN.out; omega, by go_num, by rw [HST.out]; exact HO4.out, HB4.out, fun h => by omega⟩, by simp [intOf]; omega⟩
    · obtain rfl : k = n := by have := HN.out; omega
      have HNI := Lib.hid hnil
      clear hnil
      go_wp2
      go_ret
      refine ⟨⟨_, rfl, ?_, fun h0 => HNI.out (by rw [HN.out, h0]; rfl)⟩, HB.out⟩
      have := HO.out
      rw [List.take_of_length_le (by rw [apt_length, ← HN.out]; exact Nat.le_refl _)] at this
      exact this
end Go.Proofs.Ytgapncamnmngeaa

namespace Go.Proofs.Ytgapncamnmngeaa
open Go.RowKit Go.Shelf
set_option linter.unusedVariables false

set_option maxRecDepth 100000 in
set_option maxHeartbeats 1600000 in
theorem begins_any {w : World} {V vb : Value} {B : Nat} {l : List (Nat × Nat)} {bs : List Nat} (h : Ahead w V l) {nl odd least most J : Nat} (hb : w.ownsRow B 5 1 vb (64 * nl) (bs.map bv)) (hbl : bs.length = 64 * nl) (h1 : nl ≤ 16) (ho : odd < 2) (hJ0 : least ≤ J) (hJ1 : J ≤ most) (hm : most ≤ l.length) (hm9 : most ≤ 1000000) (hx : ∀ p ∈ l, p.1 % 8 = 0 ∧ p.1 < 64 * nl ∧ p.2 < 18446744073709551616)
    (hJ : ∀ i, i < 64 * nl → i / 64 % 2 = odd → bs[i]? = (bytesL (vw nl (l.take J)))[i]?) :
    Calls Try.prog 26 #[vb, V, .int .i64 (least : Int), .int .i64 (most : Int), .int .i64 (odd : Int)] w fun e w' => e = .returned (.bool true) ∧ Below w.heap.size w w' := by
  have mixed : Try.prog.follows .mixedOrders = true := by kernel_rfl
  obtain ⟨N, hN⟩ : ∃ N, N = 64 * nl := ⟨_, rfl⟩
  have hN1 : N ≤ 1024 := by omega
  have HJ := Lib.hid (show ∀ i, i < N → i / 64 % 2 = odd → bs[i]? = (bytesL (vw nl (l.take J)))[i]? from by rw [hN]; exact hJ)
  have HX := Lib.hid hx
  have H := Lib.hid h
  have HBO := Lib.hid hb
  have HN := Lib.hid hN
  have HBL := Lib.hid hbl
  obtain ⟨A, cap, rfl, hcl, hcm, hsl, _⟩ := own_sl hb
  have HSL := Lib.hid hsl
  rw [← hN] at hcl
  rw [← hN]
  clear hJ hx h hb hsl hN hbl HBO
  go_enter Try.func26, Try.ntmps26
  go_wp2_with fail
  go_loopw [11] (fun j wr => ∃ k : Nat, k ≤ J ∧ j = .int .i64 (k : Int) ∧ Below w.heap.size w wr) (fun j _ => J + 1 - (intOf j).toNat)
  case atStart => exact ⟨least, hJ0, rfl, Below.refl _ _⟩
  case round =>
    rename World => wr
    obtain ⟨k, hk, rfl, hb⟩ := hrel
    have HB := Lib.hid hb
    have y1 : decide ((k : Int) ≤ (most : Int)) = true := by rw [decide_eq_true_eq]; omega
    have HI := Lib.hid (img_any (H.out.below hb) (nl := nl) (many := k) h1 (by omega) (by omega) HX.out)
    rw [← HN.out] at HI
    clear hb
    go_wp2_with fail
    refine HI.out.mono ?_
    rintro e w2 ⟨⟨v, rfl, ho2⟩, hb2⟩
    obtain ⟨ws, hws⟩ : ∃ ws, ws = bytesL (vw nl (l.take k)) := ⟨_, rfl⟩
    rw [← hws] at ho2
    have hwl : ws.length = N := by rw [hws, bytesL_length, vw_length, HN.out]; omega
    rw [hwl] at ho2
    obtain ⟨A2, cap2, rfl, hcl2, hcm2, hsl2, _⟩ := own_sl ho2
    have HSL2 := Lib.hid hsl2
    have HB2 := Lib.hid hb2
    have HWS := Lib.hid hws
    have HWL := Lib.hid hwl
    clear ho2 hsl2 hb2 hws hwl HI
    go_wp2_with fail
    go_loopw [13, 14] (fun s ii wq => ∃ (i : Nat) (b : Bool), i ≤ N ∧ ii = .int .i64 (i : Int) ∧ s = .bool b ∧ (k = J → b = true) ∧ Below w2.heap.size w2 wq) (fun _ ii _ => N - (intOf ii).toNat)
    case atStart => exact ⟨0, true, Nat.zero_le _, rfl, rfl, fun _ => rfl, Below.refl _ _⟩
    case round =>
      rename World => wq
      obtain ⟨i, b, hi, rfl, rfl, hbt, hb3⟩ := hrel
      have HBT := Lib.hid hbt
      have HB3 := Lib.hid hb3
      clear hbt hb3
      by_cases hlt : i < N
      · have hlt' : decide ((i : Int) < (N : Int)) = true := by rw [decide_eq_true_eq]; omega
        have hib : i < bs.length := by rw [HBL.out, ← HN.out]; exact hlt
        have hiw : i < ws.length := by rw [HWL.out]; exact hlt
        obtain ⟨ad, rfl, hc⟩ := HSL.out i (bv bs[i]) (by rw [List.getElem?_map, List.getElem?_eq_getElem hib]; rfl)
        obtain ⟨ad2, rfl, hc2⟩ := HSL2.out i (bv ws[i]) (by rw [List.getElem?_map, List.getElem?_eq_getElem hiw]; rfl)
        have hca := ((Below.and (Below.and HB.out HB2.out) HB3.out).cell (block_lt_of_cell hc)).trans hc
        have hcb := (HB3.out.cell (block_lt_of_cell hc2)).trans hc2
        obtain ⟨x, hx⟩ : ∃ x, x = bs[i] := ⟨_, rfl⟩
        obtain ⟨y, hy⟩ : ∃ y, y = ws[i] := ⟨_, rfl⟩
        rw [← hx] at hca
        rw [← hy] at hcb
        unfold bv at hca hcb
        have HXY := Lib.hid (show k = J → i / 64 % 2 = odd → x = y from by
          intro e1 e2
          have h3 := HJ.out i hlt e2
          subst e1
          rw [← HWS.out, List.getElem?_eq_getElem hib, List.getElem?_eq_getElem hiw, ← hx, ← hy] at h3
          exact Option.some.inj h3)
        clear hc hc2 hx hy hib hiw
        have ca := fun p : LowBy wq => p.cell hca
        have cb := fun p : LowBy wq => p.cell hcb
        clear hca hcb
        obtain ⟨q, hq⟩ : ∃ q, q = i / 64 := ⟨_, rfl⟩
        have hq9 : q < 1000000 := by omega
        have z1 : (i : Int).tdiv 64 = (q : Int) := by rw [Int.tdiv_eq_ediv_of_nonneg (by omega), hq]; omega
        have z2 : IntKind.i64.wrap (q : Int) = (q : Int) := by rw [IntKind.wrap_i64]; omega
        obtain ⟨r, hr⟩ : ∃ r, r = q % 2 := ⟨_, rfl⟩
        have hr9 : r < 2 := by omega
        have z3 : (q : Int).tmod 2 = (r : Int) := by rw [Int.tmod_eq_emod_of_nonneg (by omega), hr]; omega
        have z4 : IntKind.i64.wrap (r : Int) = (r : Int) := by rw [IntKind.wrap_i64]; omega
        have HRO := Lib.hid (show r = i / 64 % 2 from by rw [hr, hq])
        have HK := Lib.hid hk
        clear hq hr
        by_cases ho2 : r = odd
        · have y2 : ((r : Int) == (odd : Int)) = true := by rw [beq_iff_eq]; omega
          have HRO2 := Lib.hid (show i / 64 % 2 = odd from by rw [← HRO.out]; exact ho2)
          clear ho2
          by_cases hxy : x = y
          · have y3 : ((x : Int) != (y : Int)) = false := by simp [bne, hxy]
            clear hxy
            go_wp2_with fail
            refine wp_region_quiet_low (by assumption) (by kernel_rfl) ?_
            repeat (go_big_quiet_step (fail))
            refine wpQuiet_nil ?_
            intro _ hw'
            obtain ⟨p, hw''⟩ := hw'
            subst hw''
            have HBP := Lib.hid (Below.and HB3.out p.low)
            clear ca cb z1 z2 z3 z4 y2
            go_wp2
            exact ⟨⟨i + 1, b, by omega, by go_num, rfl, HBT.out, HBP.out⟩, by simp only [intOf]; omega⟩
          · have y3 : ((x : Int) != (y : Int)) = true := by simp [bne]; omega
            have HNE := Lib.hid hxy
            clear hxy
            go_wp2_with fail
            refine wp_region_quiet_low (by assumption) (by kernel_rfl) ?_
            repeat (go_big_quiet_step (fail))
            refine wpQuiet_nil ?_
            intro _ hw'
            obtain ⟨p, hw''⟩ := hw'
            subst hw''
            have HBP := Lib.hid (Below.and HB3.out p.low)
            clear ca cb z1 z2 z3 z4 y2
            go_wp2
            exact ⟨⟨i + 1, false, by omega, by go_num, rfl, fun e => absurd (HXY.out e HRO2.out) HNE.out, HBP.out⟩, by simp only [intOf]; omega⟩
        · have y2 : ((r : Int) == (odd : Int)) = false := by rw [beq_eq_false_iff_ne]; omega
          clear ho2
          go_wp2_with fail
          refine wp_region_quiet_low (by assumption) (by kernel_rfl) ?_
          repeat (go_big_quiet_step (fail))
          refine wpQuiet_nil ?_
          intro _ hw'
          obtain ⟨p, hw''⟩ := hw'
          subst hw''
          have HBP := Lib.hid (Below.and HB3.out p.low)
          clear ca cb z1 z2 z3 z4 y2
          go_wp2
          exact ⟨⟨i + 1, b, by omega, by go_num, rfl, HBT.out, HBP.out⟩, by simp only [intOf]; omega⟩
      · obtain rfl : i = N := by omega
        cases b with
        | true =>
          go_wp2
          go_ret
          exact ⟨rfl, Below.and (Below.and HB.out HB2.out) HB3.out⟩
        | false =>
          have hkJ : k ≠ J := fun e => by cases HBT.out e
          go_wp2
          exact ⟨⟨k + 1, by omega, by go_num, Below.and (Below.and HB.out HB2.out) HB3.out⟩, by simp only [intOf]; omega⟩
end Go.Proofs.Ytgapncamnmngeaa

namespace Go.Proofs.Ytgapncamnmngeaa
open Go.RowKit Go.Shelf
set_option linter.unusedVariables false

theorem next_c (r : RS) : r.next.c = r.c := by
  obtain ⟨c, left, line, ph, done, code⟩ := r
  cases ph with
  | st => cases left <;> rfl
  | fl => rfl
  | fe => rfl
  | en => rfl
theorem next_code {r : RS} {n : Nat} (g : r.Good n) : r.next.code = 0 := by
  obtain ⟨c, left, line, ph, done, code⟩ := r
  have h := g.cd
  cases ph with
  | st => cases left <;> exact h
  | fl => exact h
  | fe => exact h
  | en => exact h
/-- Stores don't lie in a run's own variable. -/
theorem ahead_not_run {w : World} {V : Value} {l : List (Nat × Nat)} (h : Ahead w V l) (h0 : l ≠ []) {rg b : Nat} {p : Option Addr} {c line code : Int} {V' F : Value} {d : Bool} (hr : Row w rg 66 (rcells p c V' line F d code)) (hV : ∀ k v, V' ≠ .int k v) (hF : ∀ k v, F ≠ .int k v) (hb : V.ownBlock = some b) : b ≠ rg := by
  rintro rfl
  rcases h with ⟨h1, _⟩ | ⟨_, g, off, cap, rfl, _, _, h3⟩
  · exact h0 h1
  · have hg : g = b := by injection hb
    subst hg
    obtain ⟨q, t, rfl⟩ := List.exists_cons_of_ne_nil h0
    have e0 := h3 0 (wv q.1) rfl
    have e1 := h3 1 (wv q.2) rfl
    rw [Nat.add_zero, hr.cell off] at e0
    rw [hr.cell (off + 1)] at e1
    unfold wv at e0 e1
    simp only [rcells, List.getElem?_toArray] at e0 e1
    rcases off with _ | _ | _ | _ | _ | _ | _ | off
    all_goals simp at e0 e1
    all_goals first | exact absurd e0 (hV _ _) | exact absurd e1 (hV _ _) | exact absurd e1 (hF _ _)  | exact absurd e0 (hF _ _)
theorem fn_not_int (p : Ph) (rg : Nat) : ∀ k v, p.fn rg ≠ .int k v := fun k v h => by cases p <;> cases h
theorem ahead_not_int {w : World} {V : Value} {l : List (Nat × Nat)} (h : Ahead w V l) : ∀ k v, V ≠ .int k v := fun k v e => by
  rcases h with ⟨_, A, cap, rfl, _⟩ | ⟨_, g, off, cap, rfl, _⟩ <;> cases e
/-- Another run's step leaves a run as it lies. -/
theorem RunOn.other {w w' : World} {y y' : Lay} {rg rg' : Nat} {r r' : RS} {V V' : Value} (h : RunOn w y rg r V) (h' : RunOn w y rg' r' V') (hne : rg ≠ rg') (T : RT w w' y y' rg') : RunOn w' y' rg r V := by
  have hk : ∀ b, V.ownBlock = some b → r.left ≠ [] → ¬ y.fp b ∧ b ≠ rg' := fun b hb h0 => ⟨(h.vsep b hb h0).1, ahead_not_run h.run.ah h0 h'.run.row (ahead_not_int h'.run.ah) (fn_not_int _ _) hb⟩
  refine ⟨⟨?_, h.run.ah.keep T hk⟩, T.nfp h.lt h.sep, fun b hb h0 => ⟨T.nfp (h.run.ah.lt h0 hb) (hk b hb h0).1, (h.vsep b hb h0).2⟩⟩
  rw [T.g]
  exact T.but.row h.run.row (fun hf => hf.elim h.sep hne)
/-- Where the loop of RunTwo stands. -/
structure W2 (P Q : Nat → Prop) (w wr : World) (n : Nat) (x y : List (Nat × Nat)) (vx vy : Value) (g rg1 rg2 : Nat) (i : Nat) (s : St) (r1 r2 : RS) (ly : Lay) (V1 V2 : Value) (t1 m1 L1 b1 t2 m2 L2 b2 : Nat) : Prop where
  mem : MemAt wr ly s
  ok : s.Ok
  sm : Small s i
  on1 : RunOn wr ly rg1 r1 V1
  on2 : RunOn wr ly rg2 r2 V2
  inv1 : Inv P n x s r1 t1 m1 L1 b1
  inv2 : Inv Q n y s r2 t2 m2 L2 b2
  nl : s.nl = n
  yg : ly.g = g
  low : Below w.heap.size w wr
  fp : ∀ k, ly.fp k → w.heap.size ≤ k
  rgn1 : w.heap.size ≤ rg1
  rgn2 : w.heap.size ≤ rg2
  rne : rg1 ≠ rg2
  cne : r1.c.toNat ≠ r2.c.toNat
  k1 : r1.code = 0
  k2 : r2.code = 0
  gd1 : r1.done = false → r1.Good n
  gd2 : r2.done = false → r2.Good n
  ahx : Ahead wr vx x
  ahy : Ahead wr vy y
  sepx : ∀ b, vx.ownBlock = some b → x ≠ [] → ¬ ly.fp b ∧ b ≠ rg1 ∧ b ≠ rg2
  sepy : ∀ b, vy.ownBlock = some b → y ≠ [] → ¬ ly.fp b ∧ b ≠ rg1 ∧ b ≠ rg2
theorem W2.swap {P Q : Nat → Prop} {w wr : World} {n : Nat} {x y : List (Nat × Nat)} {vx vy : Value} {g rg1 rg2 i : Nat} {s : St} {r1 r2 : RS} {ly : Lay} {V1 V2 : Value} {t1 m1 L1 b1 t2 m2 L2 b2 : Nat} (h : W2 P Q w wr n x y vx vy g rg1 rg2 i s r1 r2 ly V1 V2 t1 m1 L1 b1 t2 m2 L2 b2) : W2 Q P w wr n y x vy vx g rg2 rg1 i s r2 r1 ly V2 V1 t2 m2 L2 b2 t1 m1 L1 b1 :=
  { mem := h.mem, ok := h.ok, sm := h.sm, on1 := h.on2, on2 := h.on1, inv1 := h.inv2, inv2 := h.inv1, nl := h.nl, yg := h.yg, low := h.low, fp := h.fp, rgn1 := h.rgn2, rgn2 := h.rgn1, rne := h.rne.symm, cne := h.cne.symm, k1 := h.k2, k2 := h.k1, gd1 := h.gd2, gd2 := h.gd1, ahx := h.ahy, ahy := h.ahx, sepx := fun b hb h0 => ⟨(h.sepy b hb h0).1, (h.sepy b hb h0).2.2, (h.sepy b hb h0).2.1⟩, sepy := fun b hb h0 => ⟨(h.sepx b hb h0).1, (h.sepx b hb h0).2.2, (h.sepx b hb h0).2.1⟩ }
theorem W2.below {P Q : Nat → Prop} {w wr w' : World} {n : Nat} {x y : List (Nat × Nat)} {vx vy : Value} {g rg1 rg2 i : Nat} {s : St} {r1 r2 : RS} {ly : Lay} {V1 V2 : Value} {t1 m1 L1 b1 t2 m2 L2 b2 : Nat} (h : W2 P Q w wr n x y vx vy g rg1 rg2 i s r1 r2 ly V1 V2 t1 m1 L1 b1 t2 m2 L2 b2) (hb : Below wr.heap.size wr w') : W2 P Q w w' n x y vx vy g rg1 rg2 i s r1 r2 ly V1 V2 t1 m1 L1 b1 t2 m2 L2 b2 :=
  { mem := h.mem.below hb, ok := h.ok, sm := h.sm, on1 := h.on1.below hb, on2 := h.on2.below hb, inv1 := h.inv1, inv2 := h.inv2, nl := h.nl, yg := h.yg, low := Below.and h.low hb, fp := h.fp, rgn1 := h.rgn1, rgn2 := h.rgn2, rne := h.rne, cne := h.cne, k1 := h.k1, k2 := h.k2, gd1 := h.gd1, gd2 := h.gd2, ahx := h.ahx.below hb, ahy := h.ahy.below hb, sepx := h.sepx, sepy := h.sepy }
theorem W2.more {P Q : Nat → Prop} {w wr : World} {n : Nat} {x y : List (Nat × Nat)} {vx vy : Value} {g rg1 rg2 i : Nat} {s : St} {r1 r2 : RS} {ly : Lay} {V1 V2 : Value} {t1 m1 L1 b1 t2 m2 L2 b2 : Nat} (h : W2 P Q w wr n x y vx vy g rg1 rg2 i s r1 r2 ly V1 V2 t1 m1 L1 b1 t2 m2 L2 b2) : W2 P Q w wr n x y vx vy g rg1 rg2 (i + 1) s r1 r2 ly V1 V2 t1 m1 L1 b1 t2 m2 L2 b2 :=
  { h with sm := ⟨Nat.le_succ_of_le h.sm.st, Nat.le_succ_of_le h.sm.fl, Nat.le_succ_of_le h.sm.fe, fun l hl => Nat.le_succ_of_le (h.sm.pe l hl)⟩ }
theorem W2.evict {P Q : Nat → Prop} {w wr w' : World} {n : Nat} {x y : List (Nat × Nat)} {vx vy : Value} {g rg1 rg2 i : Nat} {s s' : St} {r1 r2 : RS} {ly ly' : Lay} {V1 V2 : Value} {t1 m1 L1 b1 t2 m2 L2 b2 : Nat} (h : W2 P Q w wr n x y vx vy g rg1 rg2 i s r1 r2 ly V1 V2 t1 m1 L1 b1 t2 m2 L2 b2) (hm : MemAt w' ly' s') (e : Evd s s') (T : Turn wr w' ly ly') : ∃ t1' t2', W2 P Q w w' n x y vx vy g rg1 rg2 i s' r1 r2 ly' V1 V2 t1' m1 L1 b1 t2' m2 L2 b2 := by
  obtain ⟨t1', hi1⟩ := inv_evd h.inv1 h.ok h.mem.plen e
  obtain ⟨t2', hi2⟩ := inv_evd h.inv2 h.ok h.mem.plen e
  have T1 := RT.of_turn rg1 T
  have F := (Fresh.mk h.low h.fp h.rgn1).step T1
  exact ⟨t1', t2', { mem := hm, ok := evd_Ok h.ok h.mem.plen e, sm := evd_Small h.sm e, on1 := h.on1.turn h.mem T, on2 := h.on2.turn h.mem T, inv1 := hi1, inv2 := hi2, nl := by rw [(evd_nl e).1]; exact h.nl, yg := T.g.trans h.yg, low := F.low, fp := F.fp, rgn1 := h.rgn1, rgn2 := h.rgn2, rne := h.rne, cne := h.cne, k1 := h.k1, k2 := h.k2, gd1 := h.gd1, gd2 := h.gd2, ahx := h.ahx.keep T1 (fun b hb h0 => ⟨(h.sepx b hb h0).1, (h.sepx b hb h0).2.1⟩), ahy := h.ahy.keep T1 (fun b hb h0 => ⟨(h.sepy b hb h0).1, (h.sepy b hb h0).2.1⟩), sepx := fun b hb h0 => ⟨T1.nfp (h.ahx.lt h0 hb) (h.sepx b hb h0).1, (h.sepx b hb h0).2⟩, sepy := fun b hb h0 => ⟨T1.nfp (h.ahy.lt h0 hb) (h.sepy b hb h0).1, (h.sepy b hb h0).2⟩ }⟩
theorem W2.step {P Q : Nat → Prop} {w wr w' : World} {n : Nat} {x y : List (Nat × Nat)} {vx vy : Value} {g rg1 rg2 i : Nat} {s : St} {r1 r2 : RS} {ly : Lay} {V1 V2 : Value} {t1 m1 L1 b1 t2 m2 L2 b2 : Nat} (h : W2 P Q w wr n x y vx vy g rg1 rg2 i s r1 r2 ly V1 V2 t1 m1 L1 b1 t2 m2 L2 b2) (hPQ : ∀ j, P j → ¬ Q j) (hi : i ≤ 1000) (gd : r1.Good n)
    (hp : StepPost wr ly rg1 r1.next (r1.mem s) w') : ∃ ly' V1' t1' m1' L1' b1', W2 P Q w w' n x y vx vy g rg1 rg2 (i + 1) (r1.mem s) r1.next r2 ly' V1' V2 t1' m1' L1' b1' t2 m2 L2 b2 := by
  obtain ⟨y', V', hm', hr', T⟩ := hp
  obtain ⟨t', m', L', b', hinv, hst⟩ := inv_step h.inv1 gd
  have hinv2 := inv_off h.inv2 h.inv1 hPQ h.cne
  have hg : r1.Good s.nl := by rw [h.nl]; exact gd
  have F := (Fresh.mk h.low h.fp h.rgn1).step T
  exact ⟨y', V', t', m', L', b', { mem := hm', ok := mem_Ok h.ok h.sm hi h.mem.plen hg, sm := mem_Small h.sm, on1 := hr', on2 := h.on2.other h.on1 h.rne.symm T, inv1 := hinv, inv2 := hinv2, nl := by rw [mem_nl]; exact h.nl, yg := T.g.trans h.yg, low := F.low, fp := F.fp, rgn1 := h.rgn1, rgn2 := h.rgn2, rne := h.rne, cne := by rw [next_c]; exact h.cne, k1 := next_code gd, k2 := h.k2, gd1 := fun hd => next_Good gd hd, gd2 := h.gd2, ahx := h.ahx.keep T (fun b hb h0 => ⟨(h.sepx b hb h0).1, (h.sepx b hb h0).2.1⟩), ahy := h.ahy.keep T (fun b hb h0 => ⟨(h.sepy b hb h0).1, (h.sepy b hb h0).2.1⟩), sepx := fun b hb h0 => ⟨T.nfp (h.ahx.lt h0 hb) (h.sepx b hb h0).1, (h.sepx b hb h0).2⟩, sepy := fun b hb h0 => ⟨T.nfp (h.ahy.lt h0 hb) (h.sepy b hb h0).1, (h.sepy b hb h0).2⟩ }⟩
end Go.Proofs.Ytgapncamnmngeaa

namespace Go.Proofs.Ytgapncamnmngeaa
open Go.RowKit Go.Shelf
set_option linter.unusedVariables false

/-- Two runs somewhere on their way. -/
def W2E (P Q : Nat → Prop) (w wr : World) (n : Nat) (x y : List (Nat × Nat)) (vx vy : Value) (g rg1 rg2 i : Nat) : Prop := ∃ (s : St) (r1 r2 : RS) (ly : Lay) (V1 V2 : Value) (t1 m1 L1 b1 t2 m2 L2 b2 : Nat), W2 P Q w wr n x y vx vy g rg1 rg2 i s r1 r2 ly V1 V2 t1 m1 L1 b1 t2 m2 L2 b2
theorem W2E.swap {P Q : Nat → Prop} {w wr : World} {n : Nat} {x y : List (Nat × Nat)} {vx vy : Value} {g rg1 rg2 i : Nat} (h : W2E P Q w wr n x y vx vy g rg1 rg2 i) : W2E Q P w wr n y x vy vx g rg2 rg1 i := by
  obtain ⟨s, r1, r2, ly, V1, V2, t1, m1, L1, b1, t2, m2, L2, b2, h⟩ := h
  exact ⟨s, r2, r1, ly, V2, V1, t2, m2, L2, b2, t1, m1, L1, b1, h.swap⟩
theorem fn_next (p : Ph) (rg : Nat) : ∃ f, p.fn rg = nextV f rg := by cases p <;> exact ⟨_, rfl⟩
theorem W2E.step1 {P Q : Nat → Prop} {w wr : World} {n : Nat} {x y : List (Nat × Nat)} {vx vy : Value} {g rg1 rg2 i : Nat} (h : W2E P Q w wr n x y vx vy g rg1 rg2 i) (hPQ : ∀ j, P j → ¬ Q j) (hi : i ≤ 1000) :
    Calls Try.prog 16 #[.pointer (some ⟨rg1, 0, none⟩)] wr fun e w' => (∃ d, e = .returned (.tuple #[.bool d, .int .i64 0])) ∧ W2E P Q w w' n x y vx vy g rg1 rg2 (i + 1) := by
  obtain ⟨s, r1, r2, ly, V1, V2, t1, m1, L1, b1, t2, m2, L2, b2, h⟩ := h
  cases hd : r1.done with
  | false =>
    have gd := h.gd1 hd
    refine (rstep_any h.mem h.ok h.sm hi h.on1 (by rw [h.nl]; exact gd)).mono ?_
    rintro e w' ⟨rfl, hp⟩
    obtain ⟨ly', V1', t1', m1', L1', b1', h'⟩ := h.step hPQ hi gd hp
    exact ⟨⟨_, rfl⟩, _, _, _, _, _, _, _, _, _, _, _, _, _, _, h'⟩
  | true =>
    obtain ⟨f, hf⟩ := fn_next r1.ph rg1
    have hrow := h.on1.run.row
    rw [hd, h.k1, hf] at hrow
    refine (rstep_done hrow).mono ?_
    rintro e w' ⟨rfl, hb⟩
    exact ⟨⟨_, rfl⟩, _, _, _, _, _, _, _, _, _, _, _, _, _, _, (h.below hb).more⟩
theorem W2E.step2 {P Q : Nat → Prop} {w wr : World} {n : Nat} {x y : List (Nat × Nat)} {vx vy : Value} {g rg1 rg2 i : Nat} (h : W2E P Q w wr n x y vx vy g rg1 rg2 i) (hPQ : ∀ j, P j → ¬ Q j) (hi : i ≤ 1000) :
    Calls Try.prog 16 #[.pointer (some ⟨rg2, 0, none⟩)] wr fun e w' => (∃ d, e = .returned (.tuple #[.bool d, .int .i64 0])) ∧ W2E P Q w w' n x y vx vy g rg1 rg2 (i + 1) :=
  (h.swap.step1 (fun j hq hp => hPQ j hp hq) hi).mono fun e w' ⟨he, h'⟩ => ⟨he, h'.swap⟩
theorem W2E.ev {P Q : Nat → Prop} {w wr : World} {n : Nat} {x y : List (Nat × Nat)} {vx vy : Value} {g rg1 rg2 i : Nat} (h : W2E P Q w wr n x y vx vy g rg1 rg2 i) {A K : Int} (hK : K ≤ 9223372036854775807) :
    Calls Try.prog 21 #[.pointer (some ⟨g, 0, none⟩), .agg #[.int .i64 A, .int .i64 K]] wr fun e w' => e = .returned (.tuple #[]) ∧ W2E P Q w w' n x y vx vy g rg1 rg2 i := by
  obtain ⟨s, r1, r2, ly, V1, V2, t1, m1, L1, b1, t2, m2, L2, b2, h⟩ := h
  rw [← h.yg]
  refine (evict_any h.mem h.ok hK).mono ?_
  rintro e w' ⟨rfl, s', y', hm, hev, T⟩
  obtain ⟨t1', t2', h'⟩ := h.evict hm hev T
  rw [h.yg]
  exact ⟨rfl, _, _, _, _, _, _, _, _, _, _, _, _, _, _, h'⟩
theorem W2E.low {P Q : Nat → Prop} {w wr : World} {n : Nat} {x y : List (Nat × Nat)} {vx vy : Value} {g rg1 rg2 i : Nat} (h : W2E P Q w wr n x y vx vy g rg1 rg2 i) : Below w.heap.size w wr := by
  obtain ⟨s, r1, r2, ly, V1, V2, t1, m1, L1, b1, t2, m2, L2, b2, h⟩ := h
  exact h.low
end Go.Proofs.Ytgapncamnmngeaa

namespace Go.Proofs.Ytgapncamnmngeaa
open Go.RowKit Go.Shelf
set_option linter.unusedVariables false

theorem apt_win {n odd : Nat} {l : List (Nat × Nat)} (h0 : 2 ≤ n) (ho : odd < 2) (hx : ∀ p ∈ l, p.1 < 18446744073709551616 ∧ p.2 < 18446744073709551616) :
    ∀ p ∈ apt odd n (win (64 * n) l), p.1 % 8 = 0 ∧ p.1 < 64 * n ∧ p.2 < 18446744073709551616 := by
  intro p hp
  obtain ⟨q, hq, rfl⟩ := List.mem_map.1 hp
  obtain ⟨u, hu, rfl⟩ := List.mem_map.1 hq
  have h1 := aptA_line (a := u.1 % (64 * n) / 8 * 8) ho h0
  have h2 := (hx u hu).2
  refine ⟨?_, h1.2.2.2, h2⟩
  show aptA odd n (u.1 % (64 * n) / 8 * 8) % 8 = 0
  omega
theorem win_small {n : Nat} {l : List (Nat × Nat)} (h0 : 0 < n) (h1 : n ≤ 16) (hx : ∀ p ∈ l, p.1 < 18446744073709551616 ∧ p.2 < 18446744073709551616) : ∀ p ∈ win (64 * n) l, p.1 < 1000000 ∧ p.2 < 18446744073709551616 := by
  intro p hp
  obtain ⟨u, hu, rfl⟩ := List.mem_map.1 hp
  have := Nat.mod_lt u.1 (show 0 < 64 * n by omega)
  exact ⟨by show u.1 % (64 * n) / 8 * 8 < _; omega, (hx u hu).2⟩
/-- A list of turns as an argument. -/
def TurnsIn (w : World) (A : Option Addr) (len : Nat) : Prop := ∀ i, i < len → ∃ a b, A = some a ∧ w.cell? (a.add i) = some (.bool b)
abbrev Ev : Nat → Prop := fun j => j % 2 = 0
abbrev Od : Nat → Prop := fun j => j % 2 = 1
set_option maxRecDepth 100000 in
set_option maxHeartbeats 3200000 in
theorem runTwo_yes {w : World} {VA VB : Value} {la lb : List (Nat × Nat)} (hA : Reads w VA la) (hB : Reads w VB lb) {n : Nat} {AT AE AK : Option Addr} {lenT capT lenE capE capK : Nat} {E : List (Int × Int)} {keep : List Int} (h0 : 2 ≤ n) (h1 : n ≤ 16) (ha40 : la.length ≤ 40) (hb40 : lb.length ≤ 40) (hxa : ∀ p ∈ la, p.1 < 18446744073709551616 ∧ p.2 < 18446744073709551616) (hxb : ∀ p ∈ lb, p.1 < 18446744073709551616 ∧ p.2 < 18446744073709551616)
    (hT : TurnsIn w AT lenT) (hT200 : lenT ≤ 200) (hE : EarlyIn w AE lenE capE E) (hE9 : lenE ≤ 9223372036854775807) (hk : Sl w AK (keep.map iv)) (hk20 : keep.length ≤ 20) (hkw : ∀ z ∈ keep, (Lit.int .i64 z).wf = true) (hkA : ∀ a, AK = some a → keep ≠ [] → a.block < w.heap.size) :
    Calls Try.prog 5 #[.int .i64 (n : Int), VA, VB, .slice AT lenT capT, .slice AE lenE capE, .slice AK keep.length capK] w fun e w' => e = .returned (.bool true) ∧ Below w.heap.size w w' := by
  have HM := Lib.hid (mem10_yes (show 0 < n by omega) h1 w)
  have hA' := hA
  have hB' := hB
  obtain ⟨A0, cap0, rfl, hlc0, hcm0, hrd⟩ := hA'
  obtain ⟨A1, cap1, rfl, hlc1, hcm1, hrd1⟩ := hB'
  have HA := Lib.hid hA
  have HB := Lib.hid hB
  obtain ⟨NA, hNA⟩ : ∃ N, N = la.length := ⟨_, rfl⟩
  have HNA := Lib.hid hNA
  obtain ⟨NB, hNB⟩ : ∃ N, N = lb.length := ⟨_, rfl⟩
  have HNB := Lib.hid hNB
  obtain ⟨KN, hKN⟩ : ∃ KN, KN = keep.length := ⟨_, rfl⟩
  have HKN := Lib.hid hKN
  have HKS := Lib.hid hk
  have HKW := Lib.hid hkw
  have HKA := Lib.hid hkA
  have HE := Lib.hid hE
  have HTU := Lib.hid hT
  rw [← hNA] at hlc0 ha40 ⊢
  rw [← hNB] at hlc1 hb40 ⊢
  rw [← hKN] at hk20 ⊢
  obtain ⟨X, hX⟩ : ∃ X, X = apt 0 n (win (64 * n) la) := ⟨_, rfl⟩
  obtain ⟨Y, hY⟩ : ∃ Y, Y = apt 1 n (win (64 * n) lb) := ⟨_, rfl⟩
  have HXL := Lib.hid (show X.length = NA by rw [hX, apt_length, win_length]; exact hNA.symm)
  have HYL := Lib.hid (show Y.length = NB by rw [hY, apt_length, win_length]; exact hNB.symm)
  have HXP := Lib.hid (show ∀ p ∈ X, p.1 % 8 = 0 ∧ p.1 < 64 * n ∧ p.2 < 18446744073709551616 from by rw [hX]; exact apt_win h0 (by omega) hxa)
  have HYP := Lib.hid (show ∀ p ∈ Y, p.1 % 8 = 0 ∧ p.1 < 64 * n ∧ p.2 < 18446744073709551616 from by rw [hY]; exact apt_win h0 (by omega) hxb)
  have HXE := Lib.hid (show ∀ p ∈ X, Ev (p.1 / 64) ∧ p.1 / 64 < n from by rw [hX]; exact apt_line (by omega) h0)
  have HYE := Lib.hid (show ∀ p ∈ Y, Od (p.1 / 64) ∧ p.1 / 64 < n from by rw [hY]; exact apt_line (by omega) h0)
  have HX := Lib.hid hX
  have HY := Lib.hid hY
  have HXA := Lib.hid hxa
  have HXB := Lib.hid hxb
  have d1 : decide (40 < (NA : Int)) = false := by rw [decide_eq_false_iff_not]; omega
  have d2 : decide (40 < (NB : Int)) = false := by rw [decide_eq_false_iff_not]; omega
  have d3 : decide (200 < (lenT : Int)) = false := by rw [decide_eq_false_iff_not]; omega
  have d4 : decide (20 < (KN : Int)) = false := by rw [decide_eq_false_iff_not]; omega
  have d5 : decide ((n : Int) < 2) = false := by rw [decide_eq_false_iff_not]; omega
  have q3 : IntKind.i64.wrap (64 * (n : Int)) = 64 * (n : Int) := by rw [IntKind.wrap_i64]; omega
  clear hA hB hNA hNB hX hY hxa hxb hrd hrd1 hk hkw hkA hE hKN hT
  go_enter Try.func5, Try.ntmps5
  go_wp2_with fail
  refine HM.out.mono ?_
  rintro e w1 ⟨y, rfl, hm1, hfp, hb1⟩
  have HM1 := Lib.hid hm1
  have HFP := Lib.hid hfp
  have HB1 := Lib.hid hb1
  have HW := Lib.hid (within_any (HA.out.below HB1.out) (size := 64 * n) (by omega) (by omega) (by have := HNA.out; omega) HXA.out)
  rw [← HNA.out, show ((64 * n : Nat) : Int) = 64 * (n : Int) from by omega] at HW
  clear hm1 hfp hb1 HM
  go_wp2_with fail
  refine HW.out.mono ?_
  rintro e w2 ⟨⟨v, rfl, ho, _⟩, hb2⟩
  have hoa := (own_ahead (l := win (64 * n) la) (w := w2) (v := v) (by rw [win_length, ← HNA.out]; exact ho)).1
  have HP := Lib.hid (apart_any (odd := 0) hoa.reads h0 h1 (by omega) (by rw [win_length, ← HNA.out]; omega) (win_small (by omega) h1 HXA.out))
  rw [win_length, ← HNA.out, ← HX.out, show ((64 * n : Nat) : Int) = 64 * (n : Int) from by omega] at HP
  have HB2 := Lib.hid hb2
  clear ho hoa hb2 HW
  go_wp2_with fail
  refine HP.out.mono ?_
  rintro e w3 ⟨⟨vx, rfl, hox, hnx⟩, hb3⟩
  have HOX := Lib.hid (own_ahead (l := X) (w := w3) (v := vx) (by rw [HXL.out]; exact hox))
  have HNX := Lib.hid (show X = [] → vx = .slice none 0 0 from fun h => hnx (List.eq_nil_of_length_eq_zero (by have e := HXL.out; rw [h] at e; rw [win_length, ← HNA.out, ← e]; rfl)))
  have HB3 := Lib.hid (Below.and HB2.out hb3)
  have HW := Lib.hid (within_any ((HB.out.below HB1.out).below HB3.out) (size := 64 * n) (by omega) (by omega) (by have := HNB.out; omega) HXB.out)
  rw [← HNB.out, show ((64 * n : Nat) : Int) = 64 * (n : Int) from by omega] at HW
  have HS2 := Lib.hid HB2.out.size
  clear hox hnx hb3 HP HB2
  go_wp2_with fail
  refine HW.out.mono ?_
  rintro e w4 ⟨⟨v', rfl, ho, _⟩, hb4⟩
  have hoa := (own_ahead (l := win (64 * n) lb) (w := w4) (v := v') (by rw [win_length, ← HNB.out]; exact ho)).1
  have HP := Lib.hid (apart_any (odd := 1) hoa.reads h0 h1 (by omega) (by rw [win_length, ← HNB.out]; omega) (win_small (by omega) h1 HXB.out))
  rw [win_length, ← HNB.out, ← HY.out, show ((64 * n : Nat) : Int) = 64 * (n : Int) from by omega] at HP
  have HB4 := Lib.hid hb4
  clear ho hoa hb4 HW
  go_wp2_with fail
  refine HP.out.mono ?_
  rintro e w5 ⟨⟨vy, rfl, hoy, hny⟩, hb5⟩
  have HOY := Lib.hid (own_ahead (l := Y) (w := w5) (v := vy) (by rw [HYL.out]; exact hoy))
  have HNY := Lib.hid (show Y = [] → vy = .slice none 0 0 from fun h => hny (List.eq_nil_of_length_eq_zero (by have e := HYL.out; rw [h] at e; rw [win_length, ← HNB.out, ← e]; rfl)))
  have HB35 := Lib.hid (Below.and HB4.out hb5)
  have HOY4 := Lib.hid (show ∀ b, vy.ownBlock = some b → w3.heap.size ≤ b from fun b hb => Nat.le_trans HB4.out.size (ownZ_from hoy b hb).1)
  have HAX5 := Lib.hid (HOX.out.1.below HB35.out)
  obtain ⟨Ax, cx, rfl, _, _⟩ : ∃ Av cv, vx = .slice Av NA cv ∧ NA ≤ cv ∧ cv ≤ maxLen := by
    have := HOX.out.1.len
    rw [HXL.out] at this
    exact this
  obtain ⟨Ay, cy, rfl, _, _⟩ : ∃ Av cv, vy = .slice Av NB cv ∧ NB ≤ cv ∧ cv ≤ maxLen := by
    have := HOY.out.1.len
    rw [HYL.out] at this
    exact this
  have HR := Lib.hid (rnew_any (some ⟨y.g, 0, none⟩) 1 HAX5.out (fun h => HNX.out h) (by have := HXL.out; omega))
  clear hoy hny hb5 HP HB4
  go_wp2_with fail
  refine HR.out.mono ?_
  rintro e w6 ⟨⟨rg1, V1, rfl, hr1, hrg1, hV1⟩, hb6⟩
  have HR2 := Lib.hid (rnew_any (some ⟨y.g, 0, none⟩) 2 (HOY.out.1.below hb6) (fun h => HNY.out h) (by have := HYL.out; omega))
  have HR1 := Lib.hid (And.intro hr1 (And.intro hrg1 hV1))
  have HB6 := Lib.hid hb6
  clear hr1 hrg1 hV1 hb6 HR
  go_wp2_with fail
  refine HR2.out.mono ?_
  rintro e w7 ⟨⟨rg2, V2, rfl, hr2, hrg2, hV2⟩, hb7⟩
  have HW2 := Lib.hid (show W2 Ev Od w w7 n X Y (.slice Ax NA cx) (.slice Ay NB cy) y.g rg1 rg2 0 (St.zero n) (RS.new 1 X) (RS.new 2 Y) y V1 V2 0 0 0 0 0 0 0 0 from by
    have hlt1 : ∀ q, y.fp q → q < w1.heap.size := HM1.out.lt
    have s1 := HB1.out.size
    have s3 := HB3.out.size
    have s5 := HB35.out.size
    have s6 := HB6.out.size
    have s7 := hb7.size
    have hb15 := Below.and HB3.out HB35.out
    have hb16 := Below.and hb15 HB6.out
    have hm5 := HM1.out.below hb15
    have hm6 := HM1.out.below hb16
    obtain ⟨hr1, hrg1, hV1⟩ := HR1.out
    have hl1 : rg1 < w6.heap.size := hr1.row.lt
    have s2 := HS2.out
    have hsx : ∀ b, (Value.slice Ax NA cx).ownBlock = some b → X ≠ [] → ¬ y.fp b ∧ b ≠ rg1 ∧ b ≠ rg2 := fun b hb hne => by
      have := HOX.out.2.1 b hb
      exact ⟨fun hf => by have := hlt1 b hf; omega, by omega, by omega⟩
    have hsy : ∀ b, (Value.slice Ay NB cy).ownBlock = some b → Y ≠ [] → ¬ y.fp b ∧ b ≠ rg1 ∧ b ≠ rg2 := fun b hb hne => by
      have := HOY.out.2.1 b hb
      have := HOY4.out b hb
      exact ⟨fun hf => by have := hlt1 b hf; omega, by omega, by omega⟩
    exact { mem := hm6.below hb7, ok := zero_Ok n, sm := zero_Small n, on1 := (RunOn.new hm5 hr1 hrg1 hV1).below hb7, on2 := RunOn.new hm6 hr2 hrg2 hV2, inv1 := zero_inv _ n X 1 HXE.out, inv2 := zero_inv _ n Y 2 HYE.out, nl := rfl, yg := rfl, low := Below.and HB1.out (Below.and hb16 hb7), fp := HFP.out, rgn1 := by omega, rgn2 := by omega, rne := by omega, cne := (by decide : (1 : Int).toNat ≠ (2 : Int).toNat), k1 := rfl, k2 := rfl, gd1 := fun _ => new_Good (by decide) (by decide) (by omega) HXP.out, gd2 := fun _ => new_Good (by decide) (by decide) (by omega) HYP.out, ahx := (HAX5.out.below HB6.out).below hb7, ahy := (HOY.out.1.below HB6.out).below hb7, sepx := hsx, sepy := hsy })
  obtain ⟨gy, hgy⟩ : ∃ gy, gy = y.g := ⟨_, rfl⟩
  rw [← hgy] at HW2
  clear hr2 hrg2 hV2 hb7 HR2 HR1
  go_wp2_with fail
  rw [← hgy]
  clear hgy
  go_loopw [19] (fun iv wr => ∃ i : Nat, iv = .int .i64 ((i : Nat) : Int) ∧ i ≤ lenT ∧ W2E Ev Od w wr n X Y (.slice Ax NA cx) (.slice Ay NB cy) gy rg1 rg2 i) (fun iv _ => lenT - (intOf iv).toNat)
  case atStart => exact ⟨0, rfl, Nat.zero_le _, _, _, _, _, _, _, _, _, _, _, _, _, _, _, HW2.out⟩
  case round =>
    obtain ⟨i, rfl, hiT, hw2⟩ := hrel
    rename World => wr
    by_cases hlt : i < lenT
    · have i1 : decide ((i : Int) < (lenT : Int)) = true := by rw [decide_eq_true_eq]; omega
      by_cases hle : lenE = 0
      · have j1 : decide (0 < (lenE : Int)) = false := by rw [decide_eq_false_iff_not]; omega
        have j1' : decide (0 < lenE) = false := by rw [decide_eq_false_iff_not]; omega
        have j1'' : ¬ 0 < lenE := by omega
        have HE5 := Lib.hid hw2
        clear hle hw2
        obtain ⟨aT, b, rfl, hcT⟩ := HTU.out i hlt
        have hct := (HE5.out.low.cell (block_lt_of_cell hcT)).trans hcT
        have HSP := Lib.hid (HE5.out.step1 (fun j h1 h2 => by simp only [Ev, Od] at h1 h2; omega) (by omega))
        have HSQ := Lib.hid (HE5.out.step2 (fun j h1 h2 => by simp only [Ev, Od] at h1 h2; omega) (by omega))
        clear hcT HE5
        cases b with
        | false =>
          go_wp2_with fail
          refine HSP.out.mono ?_
          rintro e w6 ⟨⟨d, rfl⟩, hw6⟩
          have HF6 := Lib.hid hw6
          clear hw6 HSP HSQ hct
          go_wp2
          exact ⟨⟨i + 1, by go_num, hlt, HF6.out⟩, by simp only [intOf]; omega⟩
        | true =>
          go_wp2_with fail
          refine HSQ.out.mono ?_
          rintro e w6 ⟨⟨d, rfl⟩, hw6⟩
          have HF6 := Lib.hid hw6
          clear hw6 HSP HSQ hct
          go_wp2
          exact ⟨⟨i + 1, by go_num, hlt, HF6.out⟩, by simp only [intOf]; omega⟩
      · have j1 : decide (0 < (lenE : Int)) = true := by rw [decide_eq_true_eq]; omega
        obtain ⟨q, hq⟩ : ∃ q, q = i % lenE := ⟨_, rfl⟩
        have hql : q < lenE := by rw [hq]; exact Nat.mod_lt _ (by omega)
        have j2 : (i : Int).tmod (lenE : Int) = (q : Int) := by rw [Int.tmod_eq_emod_of_nonneg (by omega), hq]; omega
        have j3 : ((lenE : Int) == 0) = false := by rw [beq_eq_false_iff_ne]; omega
        have hEr := HE.out.below hw2.low
        obtain ⟨ad, rfl, s0, s1, e2⟩ := hEr.2.2.2 q (by rw [hEr.1]; exact hql)
        obtain ⟨a1, ha1, e0⟩ : ∃ a1, a1 = (E[q]'(by rw [hEr.1]; exact hql)).1 ∧ wr.cell? (ad.add (q * 2)) = some (.int .i64 a1) := ⟨_, rfl, s0⟩
        obtain ⟨a2, ha2, e1⟩ : ∃ a2, a2 = (E[q]'(by rw [hEr.1]; exact hql)).2 ∧ wr.cell? (ad.add (q * 2 + 1)) = some (.int .i64 a2) := ⟨_, rfl, s1⟩
        rw [← ha2] at e2
        have e3 := e1
        rw [← add_add ad (q * 2) 1] at e3
        have e4 : wr.cell? ⟨(ad.add (q * 2)).block, (ad.add (q * 2)).off + 1, none⟩ = some (.int .i64 a2) := e3
        have HEV := Lib.hid (hw2.ev (A := a1) (K := a2) e2)
        clear s0 s1 ha1 ha2 hq e2 e1 e3 hle hw2
        go_wp2_with fail
        refine HEV.out.mono ?_
        rintro e w5 ⟨rfl, hw5⟩
        have HE5 := Lib.hid hw5
        clear hw5 HEV e0 e4
        obtain ⟨aT, b, rfl, hcT⟩ := HTU.out i hlt
        have hct := (HE5.out.low.cell (block_lt_of_cell hcT)).trans hcT
        have HSP := Lib.hid (HE5.out.step1 (fun j h1 h2 => by simp only [Ev, Od] at h1 h2; omega) (by omega))
        have HSQ := Lib.hid (HE5.out.step2 (fun j h1 h2 => by simp only [Ev, Od] at h1 h2; omega) (by omega))
        clear hcT HE5
        cases b with
        | false =>
          go_wp2_with fail
          refine HSP.out.mono ?_
          rintro e w6 ⟨⟨d, rfl⟩, hw6⟩
          have HF6 := Lib.hid hw6
          clear hw6 HSP HSQ hct
          go_wp2
          exact ⟨⟨i + 1, by go_num, hlt, HF6.out⟩, by simp only [intOf]; omega⟩
        | true =>
          go_wp2_with fail
          refine HSQ.out.mono ?_
          rintro e w6 ⟨⟨d, rfl⟩, hw6⟩
          have HF6 := Lib.hid hw6
          clear hw6 HSP HSQ hct
          go_wp2
          exact ⟨⟨i + 1, by go_num, hlt, HF6.out⟩, by simp only [intOf]; omega⟩
    · obtain rfl : i = lenT := by omega
      have i1 : decide ((i : Int) < (i : Int)) = false := by rw [decide_eq_false_iff_not]; omega
      obtain ⟨s, r1, r2, ly, U1, U2, t1, m1, L1, b1, t2, m2, L2, b2, hw2⟩ := hw2
      have HWL := Lib.hid hw2
      have HCR := Lib.hid (crash_okE hw2.mem hw2.ok keep AK capK (HKS.out.below hw2.low) (fun a ha hke hf => by have h1 := hw2.fp _ hf; have h2 := HKA.out a ha hke; omega) (by rw [← HKN.out]; omega) HKW.out)
      rw [← HKN.out, hw2.yg] at HCR
      clear hw2
      go_wp2_with fail
      refine HCR.out.mono ?_
      rintro e w8 ⟨rfl, y8, hm8, hT8⟩
      have T1 := RT.of_turn rg1 hT8
      have on1 := HWL.out.on1.turn HWL.out.mem hT8
      have on2 := HWL.out.on2.turn HWL.out.mem hT8
      have F := (Fresh.mk HWL.out.low HWL.out.fp HWL.out.rgn1).step T1
      have hax := HWL.out.ahx.keep T1 (fun b hb h0 => ⟨(HWL.out.sepx b hb h0).1, (HWL.out.sepx b hb h0).2.1⟩)
      have hay := HWL.out.ahy.keep T1 (fun b hb h0 => ⟨(HWL.out.sepy b hb h0).1, (HWL.out.sepy b hb h0).2.1⟩)
      have hyg := T1.g.trans HWL.out.yg
      obtain ⟨AU1, cU1, hU1, _, _⟩ := on1.run.ah.len
      obtain ⟨AU2, cU2, hU2, _, _⟩ := on2.run.ah.len
      have hl1 : r1.left.length = NA - m1 := by rw [HWL.out.inv1.left, List.length_drop, HXL.out]
      have hl2 : r2.left.length = NB - m2 := by rw [HWL.out.inv2.left, List.length_drop, HYL.out]
      have hm1 : m1 ≤ NA := by have := HWL.out.inv1.hm; rw [HXL.out] at this; exact this
      have hm2 : m2 ≤ NB := by have := HWL.out.inv2.hm; rw [HYL.out] at this; exact this
      rw [hl1] at hU1
      rw [hl2] at hU2
      have HL1 := Lib.hid (left_any on1.run.row (A := AU1) (cap := cU1) (n := NA - m1) (by rw [hU1]; rfl))
      have HL2 := Lib.hid (left_any on2.run.row (A := AU2) (cap := cU2) (n := NB - m2) (by rw [hU2]; rfl))
      have HIMG := Lib.hid fun W (hb : Below w8.heap.size w8 W) => image_yes (hm8.below hb) (crash_Ok HWL.out.ok keep).las
      rw [hyg] at HIMG
      have HAX := Lib.hid hax
      have HAY := Lib.hid hay
      have HB8 := Lib.hid F.low
      have s1 : IntKind.i64.wrap ((NA : Int) - ((NA - m1 : Nat) : Int)) = (m1 : Int) := by rw [IntKind.wrap_i64]; omega
      have s2 : IntKind.i64.wrap ((NB : Int) - ((NB - m2 : Nat) : Int)) = (m2 : Int) := by rw [IntKind.wrap_i64]; omega
      obtain ⟨ta, a1, a2, a3, a4⟩ := inv_crash HWL.out.inv1 HWL.out.ok keep
      obtain ⟨tb, c1, c2, c3, c4⟩ := inv_crash HWL.out.inv2 HWL.out.ok keep
      have HCA := Lib.hid a4
      have HCB := Lib.hid c4
      have HCL := Lib.hid a3
      have HI1 := Lib.hid HWL.out.inv1
      have HI2 := Lib.hid HWL.out.inv2
      obtain ⟨NL1, hNL1⟩ : ∃ k, k = NA - m1 := ⟨_, rfl⟩
      obtain ⟨NL2, hNL2⟩ : ∃ k, k = NB - m2 := ⟨_, rfl⟩
      rw [← hNL1] at HL1 s1
      rw [← hNL2] at HL2 s2
      clear hm8 hT8 T1 on1 on2 F hax hay hyg hU1 hU2 hl1 hl2 a4 c4 a3 c3 HCR hNL1 hNL2
      go_wp2_with fail
      refine HL1.out.mono ?_
      rintro e w9 ⟨rfl, rfl⟩
      go_wp2_with fail
      refine HL2.out.mono ?_
      rintro e w10 ⟨rfl, rfl⟩
      go_wp2_with fail
      obtain ⟨bs, hbs⟩ : ∃ bs, bs = bytesL (s.crash keep).lasted := ⟨_, rfl⟩
      rw [← hbs] at HIMG
      have hbl : bs.length = 64 * n := by rw [hbs, bytesL_length, HCL.out]; omega
      rw [show BytesPost = BytesPost from rfl] at HIMG
      unfold BytesPost at HIMG
      rw [hbl] at HIMG
      have HBS := Lib.hid hbl
      have key : ∀ (t : Nat) (l : List (Nat × Nat)) (P : Nat → Prop) (odd : Nat), (∀ k, P (k / 8) → (s.crash keep).lasted.getD k 0 = (vw n (l.take t)).getD k 0) → (∀ j, j % 2 = odd → P j) → ∀ i, i < 64 * n → i / 64 % 2 = odd → bs[i]? = (bytesL (vw n (l.take t)))[i]? := fun t l P odd h hP i hi ho => by
        rw [hbs, bytesL_get _ i (by rw [HCL.out]; omega), bytesL_get _ i (by rw [vw_length]; omega), h (i / 8) (hP _ (by omega))]
      have HEQ1 := Lib.hid (key ta X Ev 0 HCA.out (fun j h => h))
      have HEQ2 := Lib.hid (key tb Y Od 1 HCB.out (fun j h => h))
      clear hbs hbl key
      refine (HIMG.out _ (Below.refl _ _)).mono ?_
      rintro e wi1 ⟨⟨vi1, rfl, hoi1⟩, hbi1⟩
      have HOI1 := Lib.hid hoi1
      have HBI1 := Lib.hid (Below.and (Below.refl _ _) hbi1)
      have HFR1 := Lib.hid (from_any (HAX.out.below HBI1.out) (by have := HXL.out; omega) (fun p hp => by have := (HXP.out p hp).2.1; omega) m1)
      clear hoi1 hbi1
      go_wp2_with fail
      refine HFR1.out.mono ?_
      rintro e wf1 ⟨⟨fr1, rfl, hfr1⟩, hbf1⟩
      have hfrb1 := from_le hfr1 (Nat.le_trans HI1.out.hb HI1.out.ht) HI1.out.cur
      have hfrt1 : fr1 ≤ ta := by have := HI1.out.hb; omega
      have HBG1 := Lib.hid (begins_any (odd := 0) (J := ta) ((HAX.out.below HBI1.out).below hbf1) (ownZ_low HOI1.out hbf1) HBS.out h1 (by omega) hfrt1 (by omega) (by have := HXL.out; omega) (by omega) HXP.out (fun i hi ho => HEQ1.out i hi ho))
      have HBF1 := Lib.hid (Below.and HBI1.out hbf1)
      clear hfr1 hfrb1 hbf1 HFR1
      go_wp2_with fail
      refine HBG1.out.mono ?_
      rintro e wg1 ⟨rfl, hbg1⟩
      have HBW1 := Lib.hid (Below.and HBF1.out hbg1)
      clear hbg1 HBG1
      go_wp2_with fail
      refine (HIMG.out _ HBW1.out).mono ?_
      rintro e wi2 ⟨⟨vi2, rfl, hoi2⟩, hbi2⟩
      have HOI2 := Lib.hid hoi2
      have HBI2 := Lib.hid (Below.and HBW1.out hbi2)
      have HFR2 := Lib.hid (from_any (HAY.out.below HBI2.out) (by have := HYL.out; omega) (fun p hp => by have := (HYP.out p hp).2.1; omega) m2)
      clear hoi2 hbi2
      go_wp2_with fail
      refine HFR2.out.mono ?_
      rintro e wf2 ⟨⟨fr2, rfl, hfr2⟩, hbf2⟩
      have hfrb2 := from_le hfr2 (Nat.le_trans HI2.out.hb HI2.out.ht) HI2.out.cur
      have hfrt2 : fr2 ≤ tb := by have := HI2.out.hb; omega
      have HBG2 := Lib.hid (begins_any (odd := 1) (J := tb) ((HAY.out.below HBI2.out).below hbf2) (ownZ_low HOI2.out hbf2) HBS.out h1 (by omega) hfrt2 (by omega) (by have := HYL.out; omega) (by omega) HYP.out (fun i hi ho => HEQ2.out i hi ho))
      have HBF2 := Lib.hid (Below.and HBI2.out hbf2)
      clear hfr2 hfrb2 hbf2 HFR2
      go_wp2_with fail
      refine HBG2.out.mono ?_
      rintro e wg2 ⟨rfl, hbg2⟩
      have HBW2 := Lib.hid (Below.and HBF2.out hbg2)
      clear hbg2 HBG2
      go_wp2_with fail
      refine (k10_any _).mono ?_
      rintro e wk ⟨rfl, hbk⟩
      have HF := Lib.hid (Below.and HB8.out (Below.and HBW2.out hbk))
      clear hbk
      go_wp2
      go_ret
      exact ⟨rfl, HF.out⟩
end Go.Proofs.Ytgapncamnmngeaa

namespace Go.Proofs.Ytgapncamnmngeaa
open Go.RowKit Go.Shelf
set_option linter.unusedVariables false
section
open Go.ChangeShapes Go.WideShapes
theorem open_turns {H : Type} {enc : TypeId × Value → H} {W : World} {held : Bool} {fuel : Nat} {a : Option Addr} {len cap : Nat} {x : DataW H × List MemPlace} (h : DataW.trod enc Try.prog W 0 (fun _ => true) held fuel 58 (Value.slice a len cap).cells.toList = some x) :
    TurnsIn W a len := by
  rcases Go.Deep.open_bools Try.underlying58 Try.underlying4 (by kernel_rfl) h with ⟨hcs, _⟩ | ⟨b, n, c, B, hcs, _, hl, hm, _, hall⟩
  · simp [Value.cells] at hcs
    obtain ⟨rfl, rfl, rfl⟩ := hcs
    exact fun i hi => absurd hi (Nat.not_lt_zero _)
  · simp [Value.cells] at hcs
    obtain ⟨rfl, rfl, rfl⟩ := hcs
    exact fun i hi => ⟨b, B i, rfl, hall i (by omega)⟩
set_option maxRecDepth 100000 in
set_option maxHeartbeats 1600000 in
theorem runTwo_nomem (w : World) {z : Int} {A A1 AT AE AK : Option Addr} {N cap N1 cap1 lenT capT lenE capE lenK capK : Nat} (h : z < 1 ∨ 16 < z) :
    Calls Try.prog 5 #[.int .i64 z, .slice A N cap, .slice A1 N1 cap1, .slice AT lenT capT, .slice AE lenE capE, .slice AK lenK capK] w fun e w' => e = .returned (.bool true) ∧ Below w.heap.size w w' := by
  have HM := Lib.hid (mem10_no h w)
  clear h
  go_enter Try.func5, Try.ntmps5
  go_wp2_with fail
  refine HM.out.mono ?_
  rintro e w1 ⟨rfl, rfl⟩
  go_wp2_with fail
  refine (k10_any _).mono ?_
  rintro e w2 ⟨rfl, hb2⟩
  have HF := Lib.hid hb2
  clear hb2
  go_wp2
  go_ret
  exact ⟨rfl, HF.out⟩
set_option maxRecDepth 100000 in
set_option maxHeartbeats 3200000 in
theorem runTwo_out (w : World) {n : Nat} {A A1 AT AE AK : Option Addr} {N cap N1 cap1 lenT capT lenE capE lenK capK : Nat} (h0 : 0 < n) (h1 : n ≤ 16) {c1 c2 c3 c4 c5 : Bool}
    (e1 : decide ((n : Int) < 2) = c1) (e2 : decide (40 < (N : Int)) = c2) (e3 : decide (40 < (N1 : Int)) = c3) (e4 : decide (200 < (lenT : Int)) = c4) (e5 : decide (20 < (lenK : Int)) = c5)
    (hb : c1 = true ∨ (c1 = false ∧ c2 = true) ∨ (c1 = false ∧ c2 = false ∧ c3 = true) ∨ (c1 = false ∧ c2 = false ∧ c3 = false ∧ c4 = true) ∨ (c1 = false ∧ c2 = false ∧ c3 = false ∧ c4 = false ∧ c5 = true)) :
    Calls Try.prog 5 #[.int .i64 (n : Int), .slice A N cap, .slice A1 N1 cap1, .slice AT lenT capT, .slice AE lenE capE, .slice AK lenK capK] w fun e w' => e = .returned (.bool true) ∧ Below w.heap.size w w' := by
  have HM := Lib.hid (mem10_yes h0 h1 w)
  rcases hb with rfl | ⟨rfl, rfl⟩ | ⟨rfl, rfl, rfl⟩ | ⟨rfl, rfl, rfl, rfl⟩ | ⟨rfl, rfl, rfl, rfl, rfl⟩
  all_goals
    go_enter Try.func5, Try.ntmps5
    go_wp2_with fail
    refine HM.out.mono ?_
    rintro e w1 ⟨y, rfl, _, _, hb1⟩
    have HB1 := Lib.hid hb1
    clear hb1
    go_wp2_with fail
    refine (k10_any _).mono ?_
    rintro e w2 ⟨rfl, hb2⟩
    have HF := Lib.hid (Below.and HB1.out hb2)
    clear hb2
    go_wp2
    go_ret
    exact ⟨rfl, HF.out⟩
theorem runTwo_any (z : Int) (A : Option Addr) (len cap : Nat) (l : List (Int × Int)) (A1 : Option Addr) (len1 cap1 : Nat) (l1 : List (Int × Int)) (AT : Option Addr) (lenT capT : Nat) (AE : Option Addr) (lenE capE : Nat) (E : List (Int × Int)) (AK : Option Addr) (lenK capK : Nat) (zs : List Int) (w : World)
    (hz : (Lit.int .i64 z).wf = true) (hl : PutsIn w A len cap l) (hl1 : PutsIn w A1 len1 cap1 l1) (hT : TurnsIn w AT lenT) (hE : EarlyIn w AE lenE capE E) (hK : InRow .i64 w AK lenK capK zs) :
    Calls Try.prog 5 #[.int .i64 z, .slice A len cap, .slice A1 len1 cap1, .slice AT lenT capT, .slice AE lenE capE, .slice AK lenK capK] w fun e w' => e = .returned (.bool true) ∧ Below w.heap.size w w' := by
  by_cases h : z < 1 ∨ 16 < z
  · exact runTwo_nomem w h
  · obtain ⟨n, rfl⟩ : ∃ n : Nat, z = (n : Int) := ⟨z.toNat, by omega⟩
    by_cases hin : 2 ≤ n ∧ len ≤ 40 ∧ len1 ≤ 40 ∧ lenT ≤ 200 ∧ lenK ≤ 20
    · obtain ⟨b1, b2, b3, b4, b5⟩ := hin
      have hR := puts_reads hl
      have hR1 := puts_reads hl1
      have hlen : (natPuts l).length ≤ 40 := by rw [natPuts_length, hl.1]; omega
      have hlen1 : (natPuts l1).length ≤ 40 := by rw [natPuts_length, hl1.1]; omega
      obtain ⟨keep, hkl, hks, hkw, hka⟩ : ∃ keep : List Int, keep.length = lenK ∧ Sl w AK (keep.map iv) ∧ (∀ z ∈ keep, (Lit.int .i64 z).wf = true) ∧ ∀ a, AK = some a → keep ≠ [] → a.block < w.heap.size := by
        rcases hK with ⟨rfl, rfl, rfl, rfl⟩ | ⟨x, rfl, h1, h2, h3, h4, h5⟩
        · exact ⟨[], rfl, (fun i u hu => by simp at hu), (fun z hz => by cases hz), fun a ha => by cases ha⟩
        · have hcell : ∀ i, i < (zs.take lenK).length → w.cell? (x.add i) = some (iv ((zs.take lenK).getD i 0)) := fun i hi => by
            rw [List.length_take] at hi
            have := h4 i (by omega)
            rw [this]
            unfold iv
            congr 2
            rw [List.getD_eq_getElem?_getD, List.getD_eq_getElem?_getD, List.getElem?_take_of_lt (by omega)]
          refine ⟨zs.take lenK, by rw [List.length_take]; omega, fun i u hu => ?_, fun z hz => h5 z (List.mem_of_mem_take hz), fun a ha hne => ?_⟩
          · rw [List.getElem?_map] at hu
            cases e : (zs.take lenK)[i]? with
            | none => rw [e] at hu; cases hu
            | some q =>
              rw [e] at hu
              cases hu
              have hi := (List.getElem?_eq_some_iff.1 e).1
              refine ⟨x, rfl, ?_⟩
              rw [hcell i hi, List.getD_eq_getElem?_getD, e]
              rfl
          · cases ha
            have := hcell 0 (List.length_pos_iff.2 hne)
            have hb := block_lt_of_cell this
            rw [add_block] at hb
            exact hb
      subst hkl
      exact runTwo_yes hR hR1 b1 (by omega) hlen hlen1 (natPuts_fit hl) (natPuts_fit hl1) hT b4 hE (by have := hE.2.2.1; unfold maxLen at this; have := hE.2.1; omega) hks (by omega) hkw hka
    · have d : ∀ (p : Prop) [Decidable p], decide p = true ∨ decide p = false := fun p _ => by cases decide p <;> simp
      refine runTwo_out w (by omega) (by omega) rfl rfl rfl rfl rfl ?_
      simp only [decide_eq_true_eq, decide_eq_false_iff_not]
      omega
end
end Go.Proofs.Ytgapncamnmngeaa
