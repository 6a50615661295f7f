/- Texts of this claim, packed: 7Keys, 7Sorted. -/
import Derived.Test.YtgclbeagifoifaaPc09
import Derived.Test.YtgclbeagifoifaaPc18
import Derived.RangeFuncFrom
import Derived.RangeFuncBound
import Derived.RangeFuncLeaves
import Derived.RangeFuncBox
import Derived.Sort.MapsRangeIn
import Derived.WalkKit
import Derived.Maps.AppendAt
/- maps.Keys over who has which lock: its iterator tells each key once, in whatever order; slices.AppendSeq, Collect, Sorted over it: the keys, rising, in new memory. -/
namespace Go.Proofs.Ytgclbeagifoifaa
open Go.RowKit Go.Shelf Go.Maps
set_option linter.unusedVariables false
attribute [local go_sem] Oper.semAt_some
/-- These are the keys, in whatever order. -/
def KeysAre (hm : Nat → Option Nat) (ss : List Nat) : Prop := ss.Nodup ∧ ∀ id, id ∈ ss ↔ (id < 18446744073709551616 ∧ (hm id).isSome = true)
/-- What has come. -/
def Came (D : DataW Unit) (left : Lit → Bool) (ss : List Nat) : Prop := ss.Nodup ∧ ∀ id, id ∈ ss ↔ (id < 18446744073709551616 ∧ Maps.has D (akey id) = true ∧ left (akey id) = false)
theorem Came.start (D : DataW Unit) : Came D (Maps.has D) [] := ⟨List.nodup_nil, fun id => by
  constructor
  · intro h; cases h
  · rintro ⟨_, h1, h2⟩
    rw [h1] at h2
    cases h2⟩
theorem akey_same (x y : Nat) : (akey y).sameKey (akey x) = decide (y = x) := by
  unfold akey
  simp [Lit.sameKey]
  try omega
theorem Came.step {D : DataW Unit} {left : Lit → Bool} {ss : List Nat} (h : Came D left ss) {x : Nat} {y : DataW Unit} (hx : x < 18446744073709551616) (hlk : left (akey x) = true) (hat : ∀ zd, D.atKey (akey x) zd = y) :
    Came D (fun z => left z && !z.sameKey (akey x)) (ss ++ [x]) := by
  have hhas : Maps.has D (akey x) = true := has_true_of_atKey hat
  have hnew : x ∉ ss := fun hm => by have := ((h.2 x).1 hm).2.2; rw [hlk] at this; cases this
  refine ⟨List.nodup_append.2 ⟨h.1, by simp, fun a ha b hb => by simp at hb; subst hb; exact fun e => hnew (e ▸ ha)⟩, fun id => ?_⟩
  by_cases e : id = x
  · subst e
    simp [hhas, akey_same, hx]
  · have := h.2 id
    simp [this, e, akey_same]
theorem keyOf_addr_inv {key : Value} {kl : Lit} (h : keyOf Try.prog 34 key = some kl) : ∃ x : Nat, x < 18446744073709551616 ∧ key = .int .u64 (x : Int) ∧ kl = akey x := by
  obtain ⟨z, rfl, rfl, hw⟩ := Maps.keyOf_int_inv Try.underlying34 h
  obtain ⟨x, rfl, hx⟩ := wf_nat hw
  exact ⟨x, hx, rfl, rfl⟩
def encK (x : Nat) : Value := .int .u64 (x : Int)
theorem encK_inj {x y : Nat} (h : encK x = encK y) : x = y := by
  unfold encK at h
  injection h with _ h
  omega
set_option maxRecDepth 100000 in
set_option maxHeartbeats 1000000 in
theorem keys1_in (l bm b sz : Nat) (D : DataW Unit) (J Jx : List Nat → World → Prop)
    (hY : ∀ pre x W, J pre W → pre.length < sz → YieldAt Fence.wide 4 Try.prog l #[encK x] W fun e W' =>
      (e = .returned (.bool true) ∧ J (pre ++ [x]) W' ∧ KeepsWalks W W') ∨ (e = .returned (.bool false) ∧ Jx (pre ++ [x]) W'))
    (W : World) (hJ : AbidesFrom W.heap.size J) (hm : W.cell? ⟨bm, 0, none⟩ = some (.map (some b))) (hown : W.ownsMap Try.prog 34 kR b sz D) (h0 : J [] W) :
    CallsIn Fence.wide 5 Try.prog 44 #[.func (.yield l) #[] #[], .pointer (some ⟨bm, 0, none⟩)] W fun e W' => (∃ v, e = .returned v) ∧
      ((∃ ss : List Nat, (ss.Nodup ∧ ∀ id, id ∈ ss ↔ (id < 18446744073709551616 ∧ Maps.has D (akey id) = true)) ∧ J ss W') ∨ (∃ pre : List Nat, True ∧ Jx pre W')) := by
  have hsz := hown.size_le
  refine callsIn_of_wp Try.func44 rfl trivial ?_ rfl
  simp only [Try.ntmps44, List.size_toArray, List.length_cons, List.length_nil, Nat.reduceAdd, Nat.reduceSub, Array.replicate_succ, Array.replicate_zero, List.push_toArray, List.append_toArray, List.nil_append, List.cons_append]
  gi_wp2_with (first
    | (gi_at_range; refine wpListIn_range_own _ rfl _ 52 rfl 34 3 akeyed Try.underlying52 _ b sz _ rfl hown ?_; intro w0 hrg0 hg0 hs0)
    | gi_in)
  go_frame
  gi_loopw [3] (fun _ wr => ∃ (left : Lit → Bool) (cnt : Nat) (ss : List Nat), wr.ranges Try.prog 34 kR b W.heap.size sz D left cnt ∧ ss.length + cnt ≤ sz ∧ Came D left ss ∧ J ss wr)
    (fun _ wr => wr.rangeLeft b W.heap.size)
  case atStart =>
    exact ⟨_, _, [], hrg0, by simpa using hsz, Came.start D, hJ [] W w0 none h0 hg0 (fun r e => by cases e)⟩
  case round =>
    obtain ⟨left, cnt, ss, hrg, hcs, hC, hJs⟩ := hrel
    gi_wp2_with (first
      | (gi_at_next; refine wpListIn_next_ranges _ rfl _ rfl 34 akeyed kR encK id (fun key kl hk => by obtain ⟨x, _, hx, _⟩ := keyOf_addr_inv hk; exact ⟨x, hx⟩) (fun v _ _ => ⟨v, rfl⟩) b W.heap.size sz _ _ _ rfl hrg ?_ ?_)
      | gi_in)
    · intro hc0 hl0
      gi_wp2
      go_end0
      exact ⟨⟨_, rfl⟩, .inl ⟨ss, ⟨hC.1, fun id => by rw [hC.2 id, hl0]; simp⟩, hJs⟩⟩
    · intro x c kl yd yp w2 cnt2 hkey hlk hv hat hrg2 hlt hg2 hs2 hen
      obtain ⟨x', hx', ex, rfl⟩ := keyOf_addr_inv hkey
      obtain rfl : x = x' := encK_inj ex
      have hJ2 : J ss w2 := hJ ss wr w2 (some W.heap.size) hJs hg2 (fun r e => by cases e; exact ⟨Nat.le_refl _, hrg.iter_walk⟩)
      obtain ⟨fn, tmps, assign, body, hy, hR⟩ := hY ss x w2 hJ2 (by omega)
      unfold encK at hy
      clear hs2
      gi_wp2
      refine hR.mono ?_
      have hC2 := hC.step hx' hlk hat
      rintro e W3 (⟨rfl, hJ3, hk3⟩ | ⟨rfl, hJx3⟩)
      · gi_wp2
        have hrg3 := hrg2.of_walks hk3
        go_roundw
        case rel => exact ⟨_, cnt2, ss ++ [x], hrg3, by simp; omega, hC2, hJ3⟩
        case measure => rw [hrg3.left_eq, hrg.left_eq]; exact hlt
      · gi_wp2
        refine bodyPost_ret (results_none rfl _ _ _) rfl ?_
        exact ⟨⟨_, rfl⟩, .inr ⟨ss ++ [x], trivial, hJx3⟩⟩
/-- The iterator, as its callers take it. -/
theorem keys_stops {bm b sz : Nat} {hm : Nat → Option Nat} {w : World} (hc : w.cell? ⟨bm, 0, none⟩ = some (.map (some b))) (h : HasAt w b hm sz) :
    SeqStopsK Fence.wide 5 Try.prog 44 #[.pointer (some ⟨bm, 0, none⟩)] (fun x : Nat => #[encK x]) KeepsWalks (fun ss => KeysAre hm ss) (fun _ => True) sz w := by
  intro l J Jx W hW hJ _ hY h0
  obtain ⟨D, hown, _, hs, _⟩ := h.same (hW.block b h.lt)
  refine (keys1_in l bm b sz D J Jx hY W hJ ((hW.cell (p := ⟨bm, 0, none⟩) (w.block_lt_of_cell? _ hc)).trans hc) hown h0).mono ?_
  rintro e W' ⟨he, h1 | h1⟩
  · obtain ⟨ss, ⟨hn, hi⟩, hJ'⟩ := h1
    refine ⟨he, .inl ⟨ss, ⟨hn, fun id => ?_⟩, hJ'⟩⟩
    rw [hi id]
    constructor
    · rintro ⟨a1, a2⟩
      exact ⟨a1, by rw [← hs id a1]; exact a2⟩
    · rintro ⟨a1, a2⟩
      exact ⟨a1, by rw [hs id a1]; exact a2⟩
  · exact ⟨he, .inr h1⟩
theorem mkeys_any (m : Option Nat) (w : World) : Calls Try.prog 41 #[.map m] w fun e w' => e = .returned (.func (.func 44) #[] #[.pointer (some ⟨w.heap.size, 0, none⟩)]) ∧ w' = w.alloc (.cells #[.map m] 52) := by
  go_enter Try.func41, Try.ntmps41
  go_wp2
  go_ret
  exact ⟨rfl, rfl⟩
end Go.Proofs.Ytgclbeagifoifaa
/- slices.AppendSeq, Collect, Sorted over maps.Keys: the keys of who has which lock, rising, in new memory. -/
namespace Go.Proofs.Ytgclbeagifoifaa
open Go.RowKit Go.Shelf Go.Maps
set_option linter.unusedVariables false
attribute [local go_sem] Oper.semAt_some
theorem kinfoAddr : (Try.prog.info? 34).map (fun i => (i.zero, i.size, i.bytes)) = some (some (.int .u64 0), 1, 8) := by kernel_rfl
theorem kbelow_t {n : Nat} {A B C : World} (h : Below n A B) (k : Below n B C) : Below n A C := h.trans k
/-- New memory that holds the keys in whatever order. -/
def KeysRow (w : World) (hm : Nat → Option Nat) (e : Ending) (w' : World) : Prop := ∃ (v : Value) (ss : List Nat), e = .returned v ∧ w'.ownsRow w.heap.size 34 1 v ss.length (ss.map wv) ∧ KeysAre hm ss ∧ Below w.heap.size w w'
set_option maxRecDepth 100000 in
set_option maxHeartbeats 2000000 in
theorem appendSeq_any {w : World} {bm b sz : Nat} {hm : Nat → Option Nat} (hc : w.cell? ⟨bm, 0, none⟩ = some (.map (some b))) (h : HasAt w b hm sz) (hz : sz ≤ 1000000) :
    Calls Try.prog 45 #[.slice none 0 0, .func (.func 44) #[] #[.pointer (some ⟨bm, 0, none⟩)]] w (KeysRow w hm) := by
  have HH := Lib.hid h
  have HC := Lib.hid hc
  clear h hc
  obtain ⟨i0, hi, hz0, hz1, hz2⟩ := info_parts kinfoAddr
  refine (callsIn_wide (n := 6)).1 ?_
  refine callsIn_of_wp_marks Try.func45 rfl trivial ?_ rfl
  simp only [Try.ntmps45, List.size_toArray, List.length_cons, List.length_nil, Nat.reduceAdd, Nat.reduceSub, Array.replicate_succ, Array.replicate_zero, List.push_toArray, List.append_toArray, List.nil_append, List.cons_append]
  gi_wp2
  have bO := Boxed.new w 38 (.slice none 0 0)
  have hB0 : Below w.heap.size w (w.alloc (.cells #[.slice none 0 0] 38)) := (Below.refl _ w).alloc (Nat.le_refl _) _
  refine wpIn_rangeFunc_ownG rfl (by omega) (gf := 44) (lb := #[.pointer (some ⟨bm, 0, none⟩)]) rfl trivial (enters_of Try.func44 (by kernel_rfl) rfl)
    (keys_stops ((hB0.cell (p := ⟨bm, 0, none⟩) (w.block_lt_of_cell? _ HC.out)).trans HC.out) (HH.out.same (hB0.block _ HH.out.lt))) walksK_t walksK_b (Below.refl _ _) (fun _ => rfl)
    (fun pre W => (∃ v, Boxed W w.heap.size 38 v ∧ W.ownsRow w.heap.size 34 1 v pre.length (pre.map wv) ∧ True) ∧ Below w.heap.size w W)
    (fun _ _ _ => False)
    (OwnFrom.and (Own.from (holdsRow_own w.heap.size w.heap.size 38 34 1 (fun pre : List Nat => pre.length) (fun pre => pre.map wv) (fun pre v => True)) _) (ownFrom_below (Nat.le_refl _) (by simp)))
    (fun _ _ _ _ _ hs _ _ => hs)
    ⟨⟨_, bO, World.ownsRow_nil _ _ _ _, trivial⟩, hB0⟩
    (fun x => { tmps := #[.slice none 0 0, .func (.func 44) #[] #[.pointer (some ⟨bm, 0, none⟩)], .pointer (some ⟨w.heap.size, 0, none⟩), undef, .slice none 0 0, .int .u64 (x : Int), .func (.func 44) #[] #[.pointer (some ⟨bm, 0, none⟩)], .int .u64 (x : Int), undef, undef, undef, undef, undef], defers := [] }) ?assign ?body ?done ?stop
  case assign =>
    intro l x W K hK
    unfold encK
    gi_wp2
    exact hK
  case body =>
    rintro l pre x W ⟨⟨v, hv, hrow, hnil⟩, hB⟩ hlt
    have hc := hv.cell
    have hml : pre.length + 1 ≤ maxLen := by have : (2000000 : Nat) ≤ maxLen := by decide
                                             omega
    gi_wp2_with (gi_at_builtin; refine wpListIn_append_own _ rfl _ _ 38 rfl w.heap.size 34 i0 (.int .u64 0) 1 8 Try.underlying38 hi hz0 hz1 hz2 rfl (by decide) _ _ _ rfl (hrow.alloc _) ⟨W.heap.size, 0, none⟩ 1 1 [.int .u64 (x : Int)] rfl rfl (cell_one_new _ _ _) (by simp [Value.oneCell']) (by omega) (by omega) (by have := hB.size; simp; omega) ?_; intro v' w1 hown' hgrow _; obtain ⟨g', cap', rfl⟩ := ownsRow_succ hown'; obtain ⟨hv1, hv2, hr2, hk2, hb2⟩ := hv.appended (by decide) hrow hB.size (Nat.le_refl _) hown' hgrow; have hc1 := hv1.cell; have hf1 := hv1.frozen)
    exact ⟨hk2.from _, hk2.walks, ⟨_, hv2, by simpa [wv] using hr2, trivial⟩, hB.trans hb2⟩
  case done =>
    rintro D ys W hD hys ⟨⟨v, hv, hrow, _⟩, hB⟩ hK
    have hc := hv.cell
    gi_wp2
    refine ⟨by simp, .inl ⟨_, _, rfl, run_takeDeferred hK, ?_⟩⟩
    exact ⟨_, results_tmp rfl _ _ _, v, ys, rfl, ownsRow_putObj hrow _ hK rfl, hys, hB.trans (belowK_b (w := w) (Nat.le_refl _) W D _ _ (by simp at hD; omega) hK rfl rfl)⟩
  case stop =>
    rintro D c pre W _ _ h _
    exact h.elim
theorem collect_any {w : World} {bm b sz : Nat} {hm : Nat → Option Nat} (hc : w.cell? ⟨bm, 0, none⟩ = some (.map (some b))) (h : HasAt w b hm sz) (hz : sz ≤ 1000000) :
    Calls Try.prog 42 #[.func (.func 44) #[] #[.pointer (some ⟨bm, 0, none⟩)]] w (KeysRow w hm) := by
  have H := Lib.hid (appendSeq_any hc h hz)
  clear h hc
  go_enter Try.func42, Try.ntmps42
  go_wp2_with fail
  refine H.out.mono ?_
  rintro e w1 ⟨v, ss, rfl, h1, h2, h3⟩
  have HE : Hid (KeysRow w hm (.returned v) w1) := Lib.hid ⟨v, ss, rfl, h1, h2, h3⟩
  obtain ⟨A, cap, hv, _⟩ := own_sl h1
  subst hv
  clear h1 h2 h3
  go_wp2
  go_ret
  exact HE.out
theorem keys_few {hm : Nat → Option Nat} {ss : List Nat} {w : World} {b sz : Nat} (h : HasAt w b hm sz) (hk : KeysAre hm ss) : ss.length ≤ sz := by
  obtain ⟨D, hown, hkk, hs, ha⟩ := h
  have hsz := hown.size_le
  obtain ⟨es, rfl, hp, hl⟩ := hown.entries akeyed
  have h1 : (ss.map akey).Nodup := by
    rw [List.nodup_iff_pairwise_ne, List.pairwise_map]
    exact (List.nodup_iff_pairwise_ne.1 hk.1).imp (fun hne e => hne (akey_inj e))
  have h2 : ss.map akey ⊆ es.map Prod.fst := by
    intro k hk'
    obtain ⟨id, hid, rfl⟩ := List.mem_map.1 hk'
    obtain ⟨a1, a2⟩ := (hk.2 id).1 hid
    have h3 : Maps.has (.map es) (akey id) = true := by rw [hs id a1]; exact a2
    rw [Maps.has_eq, List.any_eq_true] at h3
    obtain ⟨p, hp', he⟩ := h3
    exact List.mem_map.2 ⟨p, hp', WideAt.sameKey_eq he⟩
  have h3 := List.Nodup.length_le_of_subset h1 h2
  simp only [List.length_map] at h3
  have h4 : Maps.size (DataW.map es : DataW Unit) = es.length := by simp [Maps.size_eq]
  omega
/-- New memory that holds the keys, rising. -/
def KeysUp (w : World) (hm : Nat → Option Nat) (e : Ending) (w' : World) : Prop := ∃ (v : Value) (ss : List Nat), e = .returned v ∧ w'.ownsRow w.heap.size 34 1 v ss.length (ss.map wv) ∧ KeysAre hm ss ∧ ss.Pairwise (· ≤ ·) ∧ Below w.heap.size w w'
theorem sorted_any {w : World} {bm b sz : Nat} {hm : Nat → Option Nat} (hc : w.cell? ⟨bm, 0, none⟩ = some (.map (some b))) (h : HasAt w b hm sz) (hz : sz ≤ 1000000) :
    Calls Try.prog 40 #[.func (.func 44) #[] #[.pointer (some ⟨bm, 0, none⟩)]] w (KeysUp w hm) := by
  have HH := Lib.hid h
  have H := Lib.hid (collect_any hc h hz)
  clear h hc
  go_enter Try.func40, Try.ntmps40
  go_wp2_with fail
  refine H.out.mono ?_
  rintro e w1 ⟨v, ss, rfl, h1, h2, h3⟩
  have hlen := keys_few HH.out h2
  have HS := Lib.hid (sortA_own h1 (by omega))
  have H1 := Lib.hid h1
  have H2 := Lib.hid h2
  have H3 := Lib.hid h3
  obtain ⟨A, cap, hv, _⟩ := own_sl h1
  subst hv
  clear h1 h2 h3 hlen
  go_wp2_with fail
  refine HS.out.mono ?_
  rintro e w2 ⟨rfl, l', ho, hp, hso, hb⟩
  have HE : Hid (KeysUp w hm (.returned (.slice A ss.length cap)) w2) := Lib.hid (by
    refine ⟨_, l', rfl, ?_, ⟨hp.nodup_iff.2 H2.out.1, fun id => by rw [hp.mem_iff]; exact H2.out.2 id⟩, hso, H3.out.trans (hb.below H3.out.size (fun k hk => (H1.out.lt k hk).1))⟩
    rw [hp.length_eq]
    exact ho)
  clear ho hp hso hb
  go_wp2
  go_ret
  exact HE.out
end Go.Proofs.Ytgclbeagifoifaa
