/- Two lists of addresses that read alike are the same by the document; a law's acts as an argument. -/
import Derived.Test.Ytpdnbojooelmfaa5Dr
import Derived.Deep.SlicePairs
import Derived.OpenShut
namespace Go.Proofs.Ytpdnbojooelmfaa
open Go Go.ChangeShapes Go.WideShapes Go.RowKit
set_option linter.unusedVariables false
theorem RdA.of_adr {w : World} {v : Value} {l : List Nat} (h : Adr w v l) : RdA w v l := by
  rcases h with h | ⟨g, off, cap, cur, rfl, hr, h1, h2, h3, ht⟩
  · exact .inl h
  · refine .inr ⟨_, cap, rfl, fun j a ha => ?_⟩
    have hj := (List.getElem?_eq_some_iff.1 ha).1
    rw [Addr.add_lit, hr.cell, ← Array.getElem?_toList, drop_get ht hj hj]
    simp [gd, ha]
theorem AdAt.rd {w : World} {B gs : Nat} {L : List Nat} {vL : Value} (h : AdAt w B gs L vL) : RdA w vL L := RdA.of_adr (Adr.of_own h.li).1
set_option maxRecDepth 100000 in
set_option maxHeartbeats 1600000 in
theorem r5Same_rd {w : World} {v v' : Value} {xs : List Nat} (h : RdA w v xs) (h' : RdA w v' xs) (hl : xs.length ≤ 1000000000) :
    Calls Try.prog 18 #[v, v'] w fun e w' => e = .returned (.bool true) ∧ Below w.heap.size w w' := by
  obtain ⟨n, hn⟩ : ∃ n, n = xs.length := ⟨_, rfl⟩
  obtain ⟨A, c, hv⟩ : ∃ A c, v = .slice A n c := by
    rcases h with ⟨rfl, h0⟩ | ⟨x, c, rfl, _⟩
    · exact ⟨none, 0, by rw [hn, h0]; rfl⟩
    · exact ⟨_, c, by rw [hn]⟩
  obtain ⟨A', c', hv'⟩ : ∃ A c, v' = .slice A n c := by
    rcases h' with ⟨rfl, h0⟩ | ⟨x, c, rfl, _⟩
    · exact ⟨none, 0, by rw [hn, h0]; rfl⟩
    · exact ⟨_, c, by rw [hn]⟩
  subst hv hv'
  have HX := Lib.hid (fun k (hk : k < n) => (show ∃ x g g', A = some g ∧ A' = some g' ∧ w.cell? (g.add k) = some (.int .u64 ((x : Nat) : Int)) ∧ w.cell? (g'.add k) = some (.int .u64 ((x : Nat) : Int)) by
    obtain ⟨g, e1, _, h1⟩ := h.cell (j := k) (by omega)
    obtain ⟨g', e2, _, h2⟩ := h'.cell (j := k) (by omega)
    exact ⟨_, g, g', e1, e2, h1, h2⟩))
  rw [← hn] at hl
  have hne : ((n : Int) != (n : Int)) = false := by simp
  clear h h' hn
  go_enter Try.func18, Try.ntmps18
  go_wp2_with fail
  go_loopw [5] (fun i wr => ∃ k : Nat, k ≤ n ∧ i = .int .i64 (k : Int) ∧ ∃ q, wr = w.drewN q) (fun i _ => n - (intOf i).toNat)
  case atStart => exact ⟨0, by omega, rfl, 0, rfl⟩
  case round =>
    obtain ⟨k, hk, rfl, q, rfl⟩ := hrel
    by_cases hlt : k < n
    · obtain ⟨x, g, g', rfl, rfl, a1, b1⟩ := HX.out k hlt
      have hxx : ((x : Int) != (x : Int)) = false := by simp
      go_wp2
      go_quiet (fail)
      go_wp2
      exact ⟨⟨k + 1, by omega, by go_num, q + nq, rfl⟩, by simp [intOf]; omega⟩
    · obtain rfl : k = n := by omega
      go_wp2
      go_ret
      exact ⟨rfl, drewN_below _ _⟩
/-- An act. -/
structure Ac5 where
  k : Int
  a : Nat
instance : Inhabited Ac5 := ⟨⟨0, 0⟩⟩
def ac5 (l : List Ac5) (i : Nat) : Ac5 := l.getD i ⟨0, 0⟩
structure Acts5At (w : World) (x : Addr) (l : List Ac5) : Prop where
  c0 : ∀ i, i < l.length → w.cell? (x.add (i * 2)) = some (.int .i64 (ac5 l i).k)
  c1 : ∀ i, i < l.length → w.cell? ⟨(x.add (i * 2)).block, (x.add (i * 2)).off + 1, none⟩ = some (.int .u64 ((ac5 l i).a : Int))
theorem Acts5At.below {w w' : World} {x : Addr} {l : List Ac5} (h : Acts5At w x l) (hb : Below w.heap.size w w') : Acts5At w' x l :=
  ⟨fun i hi => (hb.cell (w.block_lt_of_cell? _ (h.c0 i hi))).trans (h.c0 i hi), fun i hi => (hb.cell (w.block_lt_of_cell? _ (h.c1 i hi))).trans (h.c1 i hi)⟩
def Acts5In (W : World) (A : Option Addr) (n cap : Nat) (l : List Ac5) : Prop := l.length = n ∧ n ≤ cap ∧ n ≤ maxLen ∧ (0 < l.length → ∃ ga, A = some ga ∧ Acts5At W ga l)
set_option maxRecDepth 100000 in
theorem open_acts5 {H : Type} {enc : TypeId × Value → H} {W : World} {held : Bool} {spare : Nat → Bool} {fuel : Nat} {A : Option Addr} {n cap : Nat} {x : DataW H × List MemPlace} (h : DataW.trod enc Try.prog W 0 spare held fuel 23 (Value.slice A n cap).cells.toList = some x) :
    ∃ l, Acts5In W A n cap l := by
  rcases Go.Deep.open_slice_pairs Try.underlying23 Try.underlying34 (by kernel_rfl) rfl rfl (by kernel_rfl) (by kernel_rfl) h with ⟨hcs, _⟩ | ⟨b, n', c, m, k, V0, V1, D0, D1, P0, P1, hcs, _, hl, hm, hmm, _, hall⟩
  · simp [Value.cells] at hcs
    obtain ⟨rfl, rfl, rfl⟩ := hcs
    exact ⟨[], rfl, Nat.le_refl _, by decide, fun h => absurd h (by decide)⟩
  · simp [Value.cells] at hcs
    obtain ⟨rfl, rfl, rfl⟩ := hcs
    have hnm : n ≤ m := by rw [hmm]; split <;> omega
    have hw : ∀ i, i < n → ∃ q : Ac5, W.cell? (b.add (i * 2)) = some (.int .i64 q.k) ∧ W.cell? (b.add (i * 2 + 1)) = some (.int .u64 (q.a : Int)) := fun i hi => by
      obtain ⟨c0, c1, t0, t1⟩ := hall i (by omega)
      obtain ⟨n0, e0, _, f0⟩ := DataW.trod_int (by kernel_rfl) t0
      obtain ⟨n1, e1, _, f1⟩ := DataW.trod_int (by kernel_rfl) t1
      have b1 := bounds_u64 f1
      simp only [List.cons.injEq, and_true] at e0 e1
      refine ⟨⟨n0, n1.toNat⟩, ?_, ?_⟩
      · rw [c0, e0]
      · rw [c1, e1]
        show _ = some (Value.int .u64 ((n1.toNat : Nat) : Int))
        rw [show ((n1.toNat : Nat) : Int) = n1 from by omega]
    obtain ⟨q, hq⟩ := Go.Deep.choose_lt hw
    have hget : ∀ i, i < n → ac5 ((List.range n).map q) i = q i := fun i hi => by
      unfold ac5
      rw [List.getD_eq_getElem?_getD, List.getElem?_map, List.getElem?_range hi]; rfl
    refine ⟨(List.range n).map q, by simp, hl, by omega, fun _ => ⟨b, rfl, ⟨fun i hi => ?_, fun i hi => ?_⟩⟩⟩
    · have hi' : i < n := by simpa using hi
      rw [hget i hi']; exact (hq i hi').1
    · have hi' : i < n := by simpa using hi
      rw [hget i hi', ← (hq i hi').2]
      congr 1
      rw [show i * 2 + 1 = (i * 2) + 1 from rfl, ← Go.Deep.add_add]
      rfl
end Go.Proofs.Ytpdnbojooelmfaa
