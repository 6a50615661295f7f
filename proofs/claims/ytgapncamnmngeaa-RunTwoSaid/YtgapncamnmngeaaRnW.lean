/- The reference's Within: stores, each brought into a memory of so many bytes; for stores that lie in memory. -/
import Derived.Test.YtgapncamnmngeaaRnA
import Derived.Test.YtgapncamnmngeaaRnL
import Derived.Deep.AppendLies
import Derived.Deep.RegionLaw
namespace Go.Proofs.Ytgapncamnmngeaa
open Go.RowKit Go.Shelf
set_option linter.unusedVariables false

theorem ownZ_low {w w' : World} {B s n : Nat} {e : TypeId} {v : Value} {xs : List Value} (h : w.ownsRow B e s v n xs) (hb : Below w.heap.size w w') : w'.ownsRow B e s v n xs := by
  refine ⟨h.1, ?_⟩
  rcases h.2 with h0 | ⟨g, cap, cur, rfl, hg, hh, hr⟩
  · exact .inl h0
  · refine .inr ⟨g, cap, cur, rfl, hg, (hb.block g ?_).trans hh, hr⟩
    exact (Array.getElem?_eq_some_iff.1 hh).1
theorem ownZ_mono {w : World} {B B' s n : Nat} {e : TypeId} {v : Value} {xs : List Value} (h : w.ownsRow B e s v n xs) (hb : B' ≤ B) : w.ownsRow B' e s v n xs := by
  refine ⟨h.1, ?_⟩
  rcases h.2 with h0 | ⟨g, cap, cur, rfl, hg, hr⟩
  · exact .inl h0
  · exact .inr ⟨g, cap, cur, rfl, Nat.le_trans hb hg, hr⟩
theorem ownZ_from {w : World} {B s n : Nat} {e : TypeId} {v : Value} {xs : List Value} (h : w.ownsRow B e s v n xs) : ∀ k, v.ownBlock = some k → B ≤ k ∧ k < w.heap.size := by
  intro k hk
  rcases h.2 with ⟨rfl, _⟩ | ⟨g', cap, cur, rfl, hb, hh, _⟩
  · cases hk
  · have : g' = k := by injection hk
    subst this
    exact ⟨hb, (Array.getElem?_eq_some_iff.1 hh).1⟩
/-- What the call owns of stores reads as them. -/
theorem own_ahead {w : World} {B : Nat} {v : Value} {l : List (Nat × Nat)} (h : w.ownsRow B 32 2 v l.length (flat l)) : Ahead w v l ∧ (∀ k, v.ownBlock = some k → B ≤ k ∧ k < w.heap.size) ∧ (l = [] → v.ownBlock = none → v = .slice none 0 0) := by
  refine ⟨?_, ownZ_from h, ?_⟩
  · rcases h.2 with ⟨rfl, h1⟩ | ⟨g', cap', cur', rfl, hb, hh, h2, h3, h4, h5⟩
    · have : l = [] := by
        cases l with
        | nil => rfl
        | cons a t => cases h1
      subst this
      exact Ahead.nil w
    · by_cases h0 : l = []
      · subst h0
        exact .inl ⟨rfl, _, _, rfl, h3⟩
      · refine .inr ⟨h0, g', 0, cap', rfl, by omega, h3, fun i u hu => ?_⟩
        have := h.cells rfl i u hu
        rw [Addr.add_lit] at this
        exact this
  · intro h0 hn
    rcases h.2 with ⟨rfl, h1⟩ | ⟨g', cap', cur', rfl, hb, hh, h2, h3, h4, h5⟩
    · rfl
    · cases hn
def win (size : Nat) (l : List (Nat × Nat)) : List (Nat × Nat) := l.map fun p => (p.1 % size / 8 * 8, p.2)
theorem win_length (size : Nat) (l : List (Nat × Nat)) : (win size l).length = l.length := by simp [win]
theorem Ahead.at_ {w : World} {V : Value} {l : List (Nat × Nat)} (h : Ahead w V l) {k : Nat} (hk : k < l.length) : ∃ g off cap, V = .slice (some ⟨g, off, none⟩) l.length cap ∧ w.cell? ⟨g, off + k * 2, none⟩ = some (.int .u64 (l[k].1 : Int)) ∧ w.cell? ⟨g, off + k * 2 + 1, none⟩ = some (.int .u64 (l[k].2 : Int)) := by
  rcases h with ⟨rfl, _⟩ | ⟨_, g, off, cap, rfl, h1, h2, h3⟩
  · simp at hk
  · have := flat_get l k hk
    refine ⟨g, off, cap, rfl, ?_, ?_⟩
    · have := h3 (2 * k) _ this.1
      rw [show off + k * 2 = off + 2 * k from by omega]
      exact this
    · have := h3 (2 * k + 1) _ this.2
      rw [show off + k * 2 + 1 = off + (2 * k + 1) from by omega]
      exact this
/-- A slice that reads as these stores, wherever it lies. -/
def Reads (w : World) (V : Value) (l : List (Nat × Nat)) : Prop := ∃ A cap, V = .slice A l.length cap ∧ l.length ≤ cap ∧ cap ≤ maxLen ∧ ∀ k (hk : k < l.length), ∃ a, A = some a ∧ w.cell? (a.add (k * 2)) = some (.int .u64 (l[k].1 : Int)) ∧ w.cell? (a.add (k * 2 + 1)) = some (.int .u64 (l[k].2 : Int))
theorem Reads.below {w w' : World} {V : Value} {l : List (Nat × Nat)} (h : Reads w V l) (hb : Below w.heap.size w w') : Reads w' V l := by
  obtain ⟨A, cap, rfl, h1, h2, h3⟩ := h
  refine ⟨A, cap, rfl, h1, h2, fun k hk => ?_⟩
  obtain ⟨a, ha, e0, e1⟩ := h3 k hk
  exact ⟨a, ha, (hb.cell (block_lt_of_cell e0)).trans e0, (hb.cell (block_lt_of_cell e1)).trans e1⟩
theorem Ahead.reads {w : World} {V : Value} {l : List (Nat × Nat)} (h : Ahead w V l) : Reads w V l := by
  obtain ⟨A, cap, rfl, h1, h2⟩ := h.len
  refine ⟨A, cap, rfl, h1, h2, fun k hk => ?_⟩
  obtain ⟨g, off, cap', he, e0, e1⟩ := h.at_ hk
  injection he with he _ _
  exact ⟨_, he, by rw [Addr.add_lit]; exact e0, by rw [Addr.add_lit, show off + (k * 2 + 1) = off + k * 2 + 1 from by omega]; exact e1⟩
/-- Where its loop stands. -/
def WinR (w : World) (size : Nat) (l : List (Nat × Nat)) (o i : Value) (wr : World) : Prop := ∃ k : Nat, k ≤ l.length ∧ i = .int .i64 (k : Int) ∧ wr.ownsRow w.heap.size 32 2 o k (flat ((win size l).take k)) ∧ Below w.heap.size w wr ∧ (k = 0 → o = .slice none 0 0)
set_option maxRecDepth 100000 in
set_option maxHeartbeats 1600000 in
theorem within_any {w : World} {V : Value} {l : List (Nat × Nat)} (h : Reads w V l) {size : Nat} (h0 : 0 < size) (h1 : size ≤ 1000000) (hl : l.length ≤ 1000000) (hx : ∀ p ∈ l, p.1 < 18446744073709551616 ∧ p.2 < 18446744073709551616) :
    Calls Try.prog 11 #[V, .int .i64 (size : Int)] w fun e w' => (∃ v, e = .returned v ∧ w'.ownsRow w.heap.size 32 2 v l.length (flat (win size l)) ∧ (l = [] → v = .slice none 0 0)) ∧ Below w.heap.size w w' := by
  obtain ⟨i0, hi, hz0, hz1, hz2⟩ := info_parts info32
  obtain ⟨A, cap, rfl, hlc, hcm, h3⟩ := h
  have H := Lib.hid h3
  clear h3
  obtain ⟨n, hn⟩ : ∃ n, n = l.length := ⟨_, rfl⟩
  have HN := Lib.hid hn
  rw [← hn] at hlc hl ⊢
  have HX := Lib.hid hx
  clear hn hx
  go_enter Try.func11, Try.ntmps11
  go_wp2
  go_loopw [5, 6] (fun o i wr => WinR w size l o i wr) (fun _ i _ => n - (intOf i).toNat)
  case atStart => exact ⟨0, Nat.zero_le _, rfl, World.ownsRow_nil _ _ _ _, Below.refl _ _, fun _ => rfl⟩
  case round =>
    rename World => wr
    obtain ⟨k, hk, rfl, ho, hb, hnil⟩ := hrel
    have HO := Lib.hid ho
    have HB := Lib.hid hb
    clear ho hb
    by_cases hlt : k < n
    · obtain ⟨ad, rfl, hc0', hc1'⟩ := H.out k (by rw [← HN.out]; exact hlt)
      have hc0 := (HB.out.cell (block_lt_of_cell hc0')).trans hc0'
      have hc1 := (HB.out.cell (block_lt_of_cell hc1')).trans hc1'
      rw [← add_add ad (k * 2) 1, show (ad.add (k * 2)).add 1 = ⟨(ad.add (k * 2)).block, (ad.add (k * 2)).off + 1, none⟩ from rfl] at hc1
      clear hc0' hc1'
      obtain ⟨a, ha⟩ : ∃ a, a = (l[k]'(by rw [← HN.out]; exact hlt)).1 := ⟨_, rfl⟩
      obtain ⟨v, hv⟩ : ∃ v, v = (l[k]'(by rw [← HN.out]; exact hlt)).2 := ⟨_, rfl⟩
      rw [← ha] at hc0
      rw [← hv] at hc1
      have hklt : decide ((k : Int) < (n : Int)) = true := by rw [decide_eq_true_eq]; omega
      have HSZ := Lib.hid (show w.heap.size ≤ wr.heap.size from HB.out.size)
      have hax : a < 18446744073709551616 := by rw [ha]; exact (HX.out _ (List.getElem_mem _)).1
      have hsz1 : ((size : Int) == 0) = false := by rw [beq_eq_false_iff_ne]; omega
      have hsz2 : IntKind.u64.wrap (size : Int) = (size : Int) := by rw [IntKind.wrap_u64]; omega
      have hsz0 : ¬ size = 0 := by omega
      obtain ⟨q, hq⟩ : ∃ q, q = a % size := ⟨_, rfl⟩
      have hq1 : q < 1000000 := by rw [hq]; have := Nat.mod_lt a h0; omega
      have htm : (a : Int).tmod (size : Int) = (q : Int) := by rw [Int.tmod_eq_emod_of_nonneg (by omega), hq]; omega
      have hw1 : IntKind.u64.wrap ((q : Int) / 8) = (q : Int) / 8 := by rw [IntKind.wrap_u64]; omega
      have hw2 : IntKind.u64.wrap ((q : Int) / 8 * 8) = (q : Int) / 8 * 8 := by rw [IntKind.wrap_u64]; omega
      have HST := Lib.hid (show flat ((win size l).take (k + 1)) = flat ((win size l).take k) ++ [wv (q / 8 * 8), wv v] from by
        rw [hq]
        have hkl : k < (win size l).length := by rw [win_length, ← HN.out]; exact hlt
        rw [List.take_succ_eq_append_getElem hkl, flat_append]
        have e : (win size l)[k] = (a % size / 8 * 8, v) := by simp only [win, List.getElem_map, ha, hv]
        rw [e]
        rfl)
      clear ha hv hq
      go_wp2_with fail
      go_region_law ((refine step_append_lies _ (by rfl) (.tmp 13) (.tmp 30) _ (by rfl) w.heap.size 32 i0 (.agg #[.int .u64 0, .int .u64 0]) 2 16 rfl hi hz0 hz1 hz2 rfl (by decide) _ _ _ (by rfl) (ownZ_low HO.out (Below.and (alloc_below _ _) (drew_below _))) ⟨wr.heap.size, 0, none⟩ 1 1 [.int .u64 ((q : Int) / 8 * 8), .int .u64 (v : Int)] (by rfl) (by rfl) (World.news_of_block (cs := #[.int .u64 ((q : Int) / 8 * 8), .int .u64 (v : Int)]) (t := 32) (fr := (0, 0)) (heap_alloc_new wr _)) (by intro u hu; simp at hu; rcases hu with rfl | rfl <;> rfl) (by decide) (by unfold maxLen; omega) (by omega) (by simp; have := HSZ.out; omega) (wr.heap.size + 1) (by simp) ?_; intro g4 cap4 w4 hown hgrow hsm hlt2))
      all_goals
        have HO4 := Lib.hid hown
        have HB4 := Lib.hid (show Below w.heap.size w w4 from (Below.and HB.out (Below.and (alloc_below _ _) (drew_below _))).grown hgrow (by have := HSZ.out; simp; omega) (fun g hg => (ownZ_from HO.out g hg).1))
        clear hown hgrow hsm hlt2
        go_wp2
        exact ⟨⟨k + 1, by have := HN.out; omega, by go_num, by rw [HST.out]; exact HO4.out, HB4.out, fun h => by omega⟩, by simp [intOf]; omega⟩
    · obtain rfl : k = n := by have := HN.out; omega
      have HNI := Lib.hid hnil
      clear hnil
      go_wp2
      go_ret
      refine ⟨⟨_, rfl, ?_, fun h0 => HNI.out (by rw [HN.out, h0]; rfl)⟩, HB.out⟩
      have := HO.out
      rw [List.take_of_length_le (by rw [win_length, ← HN.out]; exact Nat.le_refl _)] at this
      exact this
end Go.Proofs.Ytgapncamnmngeaa
