/- The document's whole: a change's stores, Count ahead and behind; of any node, any few stores; conditions: a base that may be. -/
import Derived.Test.YtbadlmicbbjkaaaN9Gap
namespace Go.Proofs.Ytbadlmicbbjkaaa
open Go.RowKit
set_option linter.unusedVariables false
theorem own_made {w : World} {B : Nat} (e : TypeId) (cs : List Value) {k s : Nat} (hk : cs.length = k * s) (hB : B ≤ w.heap.size) (hm : k ≤ maxLen) : (w.alloc (.cells cs.toArray e)).ownsRow B e s (.slice (some ⟨w.heap.size, 0, none⟩) k k) k cs :=
  ⟨hk, .inr ⟨w.heap.size, k, cs.toArray, rfl, hB, heap_alloc_new9 _ _, Nat.le_refl _, hm, by simpa using hk, by simp [← hk]⟩⟩
theorem ent_news {w : World} {g o : Nat} : ∀ {l : List (Int × Int)} {k : Nat}, (∀ i e, l[i]? = some e → w.cell? ⟨g, o + (k + i) * 2, none⟩ = some (uw e.1) ∧ w.cell? ⟨g, o + (k + i) * 2 + 1, none⟩ = some (uw e.2)) → ∀ j u, (flatE l)[j]? = some u → w.cell? ⟨g, o + (k * 2 + j), none⟩ = some u
  | [], k, h, j, u, hu => by simp [flatE] at hu
  | a :: t, k, h, j, u, hu => by
    have h0 := h 0 a rfl
    match j, hu with
    | 0, hu => cases hu; rw [Nat.add_zero] at h0 ⊢; exact h0.1
    | 1, hu =>
      cases hu
      have := h0.2
      rw [Nat.add_zero, Nat.add_assoc] at this
      exact this
    | j + 2, hu =>
      have := ent_news (w := w) (g := g) (o := o) (l := t) (k := k + 1) (fun i e he => by
        have := h (i + 1) e he
        rw [show k + (i + 1) = k + 1 + i by omega] at this
        exact this) j u hu
      rw [show k * 2 + (j + 2) = (k + 1) * 2 + j by omega]
      exact this
theorem flatE_ones (l : List (Int × Int)) : ∀ u ∈ flatE l, u.oneCell' = true := by
  intro u hu
  unfold flatE at hu
  rw [List.mem_flatMap] at hu
  obtain ⟨e, _, he⟩ := hu
  simp at he
  rcases he with rfl | rfl <;> rfl
theorem flatE_app (l m : List (Int × Int)) : flatE (l ++ m) = flatE l ++ flatE m := by simp [flatE]
set_option maxRecDepth 100000 in
set_option maxHeartbeats 8000000 in
theorem whole_any {base : Int} (hbse : 0 ≤ base ∧ base ≤ 1099511627776) (n : Nd) {w : World} {v : Value} {l : List (Int × Int)} (h : EntAt w v l) (h0 : 0 < l.length) (hl : l.length ≤ 100) : Calls Try.prog 65 #[.int .u64 base, n.V, v] w fun e w' => (∃ v', e = .returned v' ∧ w'.ownsRow w.heap.size 45 2 v' (wholeL base n l).length (flatE (wholeL base n l))) ∧ Below w.heap.size w w' := by
  obtain ⟨i0, hi, hz0, hz1, hz2⟩ := info_parts infoPut
  have r0 := Row.new w 27 n.cl.toArray
  obtain ⟨Wa, hWa⟩ : ∃ Wa, Wa = w.alloc (.cells n.cl.toArray 27) := ⟨_, rfl⟩
  rw [← hWa] at r0
  have hb0 : Below w.heap.size w Wa := by rw [hWa]; exact alloc_low _ _
  have HB0 := Lib.hid hb0
  have HC3 := Lib.hid (fun W' (hb : Below Wa.heap.size Wa W') => (show W'.cell? ⟨w.heap.size, 3, none⟩ = some (.int .u64 n.ct) from ndAt_at (show NdAt W' w.heap.size n from r0.below hb r0.lt) 3))
  have HWa := Lib.hid hWa
  have HSa := Lib.hid (show w.heap.size ≤ Wa.heap.size from hb0.size)
  have hw24 : IntKind.u64.wrap (base + 24) = base + 24 := by rw [IntKind.wrap_u64]; omega
  obtain ⟨A, cap, rfl, hA⟩ := h
  obtain ⟨g, o, rfl, hc⟩ := hA h0
  obtain ⟨m, hm⟩ : ∃ m, m = l.length := ⟨_, rfl⟩
  have HM := Lib.hid hm
  rw [← hm] at h0 hl ⊢
  have HN := Lib.hid (fun W' (hb : Below w.heap.size w W') => (show ∀ j u, (flatE l)[j]? = some u → W'.cell? ((⟨g, o, none⟩ : Addr).add j) = some u from fun j u hu => by
    have hcell := ent_news (w := w) (g := g) (o := o) (l := l) (k := 0) (fun i e he => by have := hc i e he; rw [Nat.zero_add]; exact this) j u hu
    rw [Nat.zero_mul, Nat.zero_add] at hcell
    rw [Addr.add_mid]
    exact (hb.cell (p := ⟨g, o + j, none⟩) (w.block_lt_of_cell? _ hcell)).trans hcell))
  obtain ⟨x1, hx1⟩ : ∃ x, x = IntKind.u64.wrap (n.ct + 1) := ⟨_, rfl⟩
  obtain ⟨x2, hx2⟩ : ∃ x, x = IntKind.u64.wrap (n.ct + 2) := ⟨_, rfl⟩
  have HWL := Lib.hid (show wholeL base n l = [(base + 24, x1)] ++ l ++ [(base + 24, x2)] by rw [hx1, hx2]; rfl)
  have hx1' := hx1.symm
  have hx2' := hx2.symm
  have c3 := HC3.out Wa (Below.refl _ _)
  obtain ⟨W2, hW2⟩ : ∃ W2, W2 = Wa.alloc (.cells #[.int .u64 (base + 24), .int .u64 x1] 45) := ⟨_, rfl⟩
  have hO2 : W2.ownsRow Wa.heap.size 45 2 (.slice (some ⟨Wa.heap.size, 0, none⟩) 1 1) 1 [.int .u64 (base + 24), .int .u64 x1] := by
    rw [hW2]
    exact own_made 45 [.int .u64 (base + 24), .int .u64 x1] (by simp) (Nat.le_refl _) (by unfold maxLen; omega)
  have hb2 : Below Wa.heap.size Wa W2 := by rw [hW2]; exact alloc_low _ _
  have HO2 := Lib.hid hO2
  have HW2 := Lib.hid hW2
  have HNl := Lib.hid (HN.out W2 (low_and hb0 hb2))
  have hlen : (flatE l).length = m * 2 := by rw [flatE_len, hm]; omega
  have HF := Lib.hid (flatE_ones l)
  obtain ⟨F, hF⟩ : ∃ F, F = flatE l := ⟨_, rfl⟩
  rw [← hF] at HNl hlen HF
  have HFl := Lib.hid hF
  clear r0 hWa hb0 hA hc hm hx1 hx2 hW2 hO2 hF
  go_enter Try.func65, Try.ntmps65
  go_wp2_with (first
    | (rw [← HWa.out])
    | (rw [← HW2.out]; at_builtin; refine wpList_append_own _ rfl _ _ 30 rfl Wa.heap.size 45 i0 (.agg #[.int .u64 0, .int .u64 0]) 2 16 Try.underlying30 hi hz0 hz1 hz2 rfl (by decide) _ 1 _ rfl HO2.out ⟨g, o, none⟩ m cap F rfl hlen HNl.out HF.out (by unfold maxLen; omega) (by omega) hb2.size ?_))
  intro v' w4 hown hgrow hnil
  have HO4 := Lib.hid hown
  have HB4 := Lib.hid (show Below Wa.heap.size Wa w4 from hb2.grown hgrow hb2.size (fun j hj => (ownS_from HO2.out j hj).1))
  have c34 := HC3.out w4 HB4.out
  have hs4 := HB4.out.size
  clear hown hgrow hnil c3 hb2
  go_wp2_with (at_builtin; refine wpList_append_own _ rfl _ _ 30 rfl Wa.heap.size 45 i0 (.agg #[.int .u64 0, .int .u64 0]) 2 16 Try.underlying30 hi hz0 hz1 hz2 rfl (by decide) _ (1 + m) _ rfl (HO4.out.alloc _) ⟨w4.heap.size, 0, none⟩ 1 1 [.int .u64 (base + 24), .int .u64 x2] rfl rfl ?q1 ?q2 ?q3 ?q4 ?q5 ?_)
  case q1 =>
    have hr := Row.new w4 45 #[.int .u64 (base + 24), .int .u64 x2]
    intro j u hj
    rw [Addr.add_lit, hr.cell, Nat.zero_add]
    simpa using hj
  case q2 => simp [Value.oneCell']
  case q3 => unfold maxLen; omega
  case q4 => omega
  case q5 => simp; omega
  intro v5 w5 hown hgrow hnil
  have HO5 := Lib.hid hown
  have HB5 := Lib.hid (show Below Wa.heap.size Wa w5 from (HB4.out.alloc hs4 _).grown hgrow (by simp; omega) (fun j hj => (ownS_from HO4.out j hj).1))
  clear hown hgrow hnil
  go_wp2
  go_ret
  refine ⟨⟨_, rfl, ?_⟩, low_and HB0.out HB5.out⟩
  have hfin := ownS_mono HO5.out HSa.out
  rw [HWL.out, flatE_app, flatE_app, List.length_append, List.length_append, ← HM.out, ← HFl.out]
  exact hfin
end Go.Proofs.Ytbadlmicbbjkaaa
