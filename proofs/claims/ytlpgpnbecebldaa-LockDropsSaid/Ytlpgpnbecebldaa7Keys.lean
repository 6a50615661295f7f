/- maps.Keys over who has which lock: its iterator tells each key once, in whatever order; slices.AppendSeq, Collect, Sorted over it: the keys, rising, in new memory. -/
import Derived.Test.Ytlpgpnbecebldaa7Iter0
import Derived.Test.YtlpgpnbecebldaaSrtJ
import Derived.RangeFuncFrom
import Derived.RangeFuncBound
import Derived.RangeFuncLeaves
import Derived.RangeFuncBox
import Derived.Sort.MapsRangeIn
import Derived.WalkKit
import Derived.Maps.AppendAt
namespace Go.Proofs.Ytlpgpnbecebldaa
open Go.RowKit Go.Shelf Go.Maps
set_option linter.unusedVariables false
attribute [local go_sem] Oper.semAt_some
/-- These are the keys, in whatever order. -/
def KeysAre (hm : Nat → Option Nat) (ss : List Nat) : Prop := ss.Nodup ∧ ∀ id, id ∈ ss ↔ (id < 18446744073709551616 ∧ (hm id).isSome = true)
/-- What has come. -/
def Came (D : DataW Unit) (left : Lit → Bool) (ss : List Nat) : Prop := ss.Nodup ∧ ∀ id, id ∈ ss ↔ (id < 18446744073709551616 ∧ Maps.has D (akey id) = true ∧ left (akey id) = false)
theorem Came.start (D : DataW Unit) : Came D (Maps.has D) [] := ⟨List.nodup_nil, fun id => by
  constructor
  · intro h; cases h
  · rintro ⟨_, h1, h2⟩
    rw [h1] at h2
    cases h2⟩
theorem akey_same (x y : Nat) : (akey y).sameKey (akey x) = decide (y = x) := by
  unfold akey
  simp [Lit.sameKey]
  try omega
theorem Came.step {D : DataW Unit} {left : Lit → Bool} {ss : List Nat} (h : Came D left ss) {x : Nat} {y : DataW Unit} (hx : x < 18446744073709551616) (hlk : left (akey x) = true) (hat : ∀ zd, D.atKey (akey x) zd = y) :
    Came D (fun z => left z && !z.sameKey (akey x)) (ss ++ [x]) := by
  have hhas : Maps.has D (akey x) = true := has_true_of_atKey hat
  have hnew : x ∉ ss := fun hm => by have := ((h.2 x).1 hm).2.2; rw [hlk] at this; cases this
  refine ⟨List.nodup_append.2 ⟨h.1, by simp, fun a ha b hb => by simp at hb; subst hb; exact fun e => hnew (e ▸ ha)⟩, fun id => ?_⟩
  by_cases e : id = x
  · subst e
    simp [hhas, akey_same, hx]
  · have := h.2 id
    simp [this, e, akey_same]
theorem keyOf_addr_inv {key : Value} {kl : Lit} (h : keyOf Try.prog 34 key = some kl) : ∃ x : Nat, x < 18446744073709551616 ∧ key = .int .u64 (x : Int) ∧ kl = akey x := by
  obtain ⟨z, rfl, rfl, hw⟩ := Maps.keyOf_int_inv Try.underlying34 h
  obtain ⟨x, rfl, hx⟩ := wf_nat hw
  exact ⟨x, hx, rfl, rfl⟩
def encK (x : Nat) : Value := .int .u64 (x : Int)
theorem encK_inj {x y : Nat} (h : encK x = encK y) : x = y := by
  unfold encK at h
  injection h with _ h
  omega
set_option maxRecDepth 100000 in
set_option maxHeartbeats 1000000 in
theorem keys1_in (l bm b sz : Nat) (D : DataW Unit) (J Jx : List Nat → World → Prop)
    (hY : ∀ pre x W, J pre W → pre.length < sz → YieldAt Fence.wide 4 Try.prog l #[encK x] W fun e W' =>
      (e = .returned (.bool true) ∧ J (pre ++ [x]) W' ∧ KeepsWalks W W') ∨ (e = .returned (.bool false) ∧ Jx (pre ++ [x]) W'))
    (W : World) (hJ : AbidesFrom W.heap.size J) (hm : W.cell? ⟨bm, 0, none⟩ = some (.map (some b))) (hown : W.ownsMap Try.prog 34 kR b sz D) (h0 : J [] W) :
    CallsIn Fence.wide 5 Try.prog 45 #[.func (.yield l) #[] #[], .pointer (some ⟨bm, 0, none⟩)] W fun e W' => (∃ v, e = .returned v) ∧
      ((∃ ss : List Nat, (ss.Nodup ∧ ∀ id, id ∈ ss ↔ (id < 18446744073709551616 ∧ Maps.has D (akey id) = true)) ∧ J ss W') ∨ (∃ pre : List Nat, True ∧ Jx pre W')) := by
  have hsz := hown.size_le
  refine callsIn_of_wp Try.func45 rfl trivial ?_ rfl
  simp only [Try.ntmps45, List.size_toArray, List.length_cons, List.length_nil, Nat.reduceAdd, Nat.reduceSub, Array.replicate_succ, Array.replicate_zero, List.push_toArray, List.append_toArray, List.nil_append, List.cons_append]
  gi_wp2_with (first
    | (gi_at_range; refine wpListIn_range_own _ rfl _ 56 rfl 34 3 akeyed Try.underlying56 _ b sz _ rfl hown ?_; intro w0 hrg0 hg0 hs0)
    | gi_in)
  go_frame
  gi_loopw [3] (fun _ wr => ∃ (left : Lit → Bool) (cnt : Nat) (ss : List Nat), wr.ranges Try.prog 34 kR b W.heap.size sz D left cnt ∧ ss.length + cnt ≤ sz ∧ Came D left ss ∧ J ss wr)
    (fun _ wr => wr.rangeLeft b W.heap.size)
  case atStart =>
    exact ⟨_, _, [], hrg0, by simpa using hsz, Came.start D, hJ [] W w0 none h0 hg0 (fun r e => by cases e)⟩
  case round =>
    obtain ⟨left, cnt, ss, hrg, hcs, hC, hJs⟩ := hrel
    gi_wp2_with (first
      | (gi_at_next; refine wpListIn_next_ranges _ rfl _ rfl 34 akeyed kR encK id (fun key kl hk => by obtain ⟨x, _, hx, _⟩ := keyOf_addr_inv hk; exact ⟨x, hx⟩) (fun v _ _ => ⟨v, rfl⟩) b W.heap.size sz _ _ _ rfl hrg ?_ ?_)
      | gi_in)
    · intro hc0 hl0
      gi_wp2
      go_end0
      exact ⟨⟨_, rfl⟩, .inl ⟨ss, ⟨hC.1, fun id => by rw [hC.2 id, hl0]; simp⟩, hJs⟩⟩
    · intro x c kl yd yp w2 cnt2 hkey hlk hv hat hrg2 hlt hg2 hs2 hen
      obtain ⟨x', hx', ex, rfl⟩ := keyOf_addr_inv hkey
      obtain rfl : x = x' := encK_inj ex
      have hJ2 : J ss w2 := hJ ss wr w2 (some W.heap.size) hJs hg2 (fun r e => by cases e; exact ⟨Nat.le_refl _, hrg.iter_walk⟩)
      obtain ⟨fn, tmps, assign, body, hy, hR⟩ := hY ss x w2 hJ2 (by omega)
      unfold encK at hy
      clear hs2
      gi_wp2
      refine hR.mono ?_
      have hC2 := hC.step hx' hlk hat
      rintro e W3 (⟨rfl, hJ3, hk3⟩ | ⟨rfl, hJx3⟩)
      · gi_wp2
        have hrg3 := hrg2.of_walks hk3
        go_roundw
        case rel => exact ⟨_, cnt2, ss ++ [x], hrg3, by simp; omega, hC2, hJ3⟩
        case measure => rw [hrg3.left_eq, hrg.left_eq]; exact hlt
      · gi_wp2
        refine bodyPost_ret (results_none rfl _ _ _) rfl ?_
        exact ⟨⟨_, rfl⟩, .inr ⟨ss ++ [x], trivial, hJx3⟩⟩
/-- The iterator, as its callers take it. -/
theorem keys_stops {bm b sz : Nat} {hm : Nat → Option Nat} {w : World} (hc : w.cell? ⟨bm, 0, none⟩ = some (.map (some b))) (h : HasAt w b hm sz) :
    SeqStopsK Fence.wide 5 Try.prog 45 #[.pointer (some ⟨bm, 0, none⟩)] (fun x : Nat => #[encK x]) KeepsWalks (fun ss => KeysAre hm ss) (fun _ => True) sz w := by
  intro l J Jx W hW hJ _ hY h0
  obtain ⟨D, hown, _, hs, _⟩ := h.same (hW.block b h.lt)
  refine (keys1_in l bm b sz D J Jx hY W hJ ((hW.cell (p := ⟨bm, 0, none⟩) (w.block_lt_of_cell? _ hc)).trans hc) hown h0).mono ?_
  rintro e W' ⟨he, h1 | h1⟩
  · obtain ⟨ss, ⟨hn, hi⟩, hJ'⟩ := h1
    refine ⟨he, .inl ⟨ss, ⟨hn, fun id => ?_⟩, hJ'⟩⟩
    rw [hi id]
    constructor
    · rintro ⟨a1, a2⟩
      exact ⟨a1, by rw [← hs id a1]; exact a2⟩
    · rintro ⟨a1, a2⟩
      exact ⟨a1, by rw [hs id a1]; exact a2⟩
  · exact ⟨he, .inr h1⟩
theorem mkeys_any (m : Option Nat) (w : World) : Calls Try.prog 42 #[.map m] w fun e w' => e = .returned (.func (.func 45) #[] #[.pointer (some ⟨w.heap.size, 0, none⟩)]) ∧ w' = w.alloc (.cells #[.map m] 56) := by
  go_enter Try.func42, Try.ntmps42
  go_wp2
  go_ret
  exact ⟨rfl, rfl⟩
end Go.Proofs.Ytlpgpnbecebldaa
