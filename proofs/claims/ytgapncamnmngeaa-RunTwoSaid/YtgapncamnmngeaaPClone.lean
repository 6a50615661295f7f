/- slices.Clone of words, of stores, maps.Clone of marks: each answers a new one that reads the same; without conditions but on length. -/
import Derived.Test.YtgapncamnmngeaaPLines
import Derived.Lib.SliceRun
import Derived.Shelf.SlMaps.Clone
namespace Go.Proofs.Ytgapncamnmngeaa
open Go.RowKit Go.Shelf
set_option linter.unusedVariables false
def cloneMk_ren : Go.Shelf.Ren := ⟨fun | 5 => 38 | 7 => 49 | n => n, fun | 23 => 74 | 25 => 3 | 3 => 86 | 4 => 4 | 20 => 20 | n => n, fun | n => n⟩
theorem cloneMk : Go.Proofs.SlLaysW.n5 Try.prog cloneMk_ren := {
  mixed := by kernel_rfl
  f5 := ⟨Try.f38.name, by decide, Try.func38.trans (congrArg some (by kernel_rfl))⟩
  f7 := Try.func49.trans (congrArg some (by kernel_rfl))
  t4 := Try.underlying4
  a4 := Try.isAgg4
  z4 := Try.sizeOf4
  v4 := Try.zeroValue4
  t20 := Try.underlying20
  a20 := Try.isAgg20
  z20 := Try.sizeOf20
  v20 := Try.zeroValue20
  t23 := Try.underlying74
  a23 := Try.isAgg74
  z23 := Try.sizeOf74
  v23 := Try.zeroValue74 }
theorem cloneM_any {w : World} {mb n : Nat} {D : DataW Unit} (h : w.ownsMap Try.prog 3 mkR mb n D) :
    Calls Try.prog 38 #[.map (some mb)] w fun e w' => e = .returned (.map (some w.heap.size)) ∧ w'.ownsMap Try.prog 3 mkR w.heap.size n D ∧ w'.ownsMap Try.prog 3 mkR mb n D ∧ Below w.heap.size w w' :=
  AnyW.maps_Clone_owns cloneMk 3 mkR mb n D w h
set_option maxRecDepth 100000 in
set_option maxHeartbeats 1600000 in
theorem cloneW_any (l : List Nat) (g n cap B : Nat) (w : World) (hlen : l.length = n) (hl : n ≤ 131072) (h : w.ownsRow B 29 1 (.slice (some ⟨g, 0, none⟩) n cap) n (l.map wv)) :
    Calls Try.prog 37 #[.slice (some ⟨g, 0, none⟩) n cap] w fun e w' => (∃ v, e = .returned v ∧ w'.ownsRow w.heap.size 29 1 v n (l.map wv)) ∧ Below w.heap.size w w' := by
  obtain ⟨i0, hi, hz0, hz1, hz2⟩ := info_parts info29
  have q22 : ∀ (w : World) (a : Option Addr) (n c n' c' : Nat), (binOp .eql 72 (.slice a n c) (.slice none n' c')).run Try.prog w = .ok (.bool a.isNone) w := fun w a n c n' c' => Lib.run_eql_slice_nil w _ _ a n c n' c' Try.underlying72
  have hc : ∀ (o : Obj) (j : Nat) u, (l.map wv)[j]? = some u → (w.alloc o).cell? ((⟨g, 0, none⟩ : Addr).add j) = some u := by
    intro o j u hu
    exact (own_keep h (alloc_below w o)).cells rfl j u hu
  have HC := Lib.hid hc
  have HL := Lib.hid hl
  have HN := Lib.hid hlen
  clear hc h hl hlen
  go_enter Try.func37, Try.ntmps37
  go_wp2_with (at_builtin; refine wpList_append_own _ rfl _ _ 72 rfl w.heap.size 29 i0 (.int .u64 0) 1 8 Try.underlying72 hi hz0 hz1 hz2 rfl (by decide) _ _ _ rfl (World.ownsRow_made w #[] 0 (Nat.le_refl _) (Nat.zero_le _) rfl) ⟨g, 0, none⟩ n cap (l.map wv) rfl ?qc1 ?qc2 ?qc3 ?qc4 ?qc5 ?qc6 ?_)
  case qc1 => have := HN.out; simp; omega
  case qc2 => intro j u hj; exact HC.out _ j u hj
  case qc3 => exact wv_ones l
  case qc4 => have := HL.out; unfold maxLen; omega
  case qc5 => have := HL.out; omega
  case qc6 => simp
  intro v' w1 hown hgrow hnil
  go_wp2
  go_ret
  refine ⟨⟨v', rfl, by simpa using hown⟩, ?_⟩
  exact ((Below.refl _ w).alloc (Nat.le_refl _) _).grown hgrow (by simp) (by intro k hk; simp [Value.ownBlock] at hk; omega)
set_option maxRecDepth 100000 in
set_option maxHeartbeats 1600000 in
theorem cloneP_any {w : World} {v : Value} {l : List (Nat × Nat)} (h : Tail w v l) (h0 : l ≠ []) (hl : l.length ≤ 1000000000) :
    Calls Try.prog 29 #[v] w fun e w' => (∃ v', e = .returned v' ∧ Tail w' v' l ∧ (∀ k, v'.ownBlock = some k → w.heap.size ≤ k)) ∧ Below w.heap.size w w' := by
  rcases h with ⟨_, hn⟩ | ⟨g, off, cap, cur, rfl, hr, hp, hlc, hcm, hoc, hcur⟩
  · exact absurd hn h0
  obtain ⟨i0, hi, hz0, hz1, hz2⟩ := info_parts info32
  have q22 : ∀ (w : World) (a : Option Addr) (n c n' c' : Nat), (binOp .eql 22 (.slice a n c) (.slice none n' c')).run Try.prog w = .ok (.bool a.isNone) w := fun w a n c n' c' => Lib.run_eql_slice_nil w _ _ a n c n' c' Try.underlying22
  have hc : ∀ (o : Obj) (j : Nat) u, (flat l)[j]? = some u → (w.alloc o).cell? ((⟨g, off, none⟩ : Addr).add j) = some u := by
    intro o j u hu
    rw [Addr.add_lit, (hr.alloc o).cell, ← hu, ← hcur, ← Array.getElem?_toList]
    have hj : j < l.length * 2 := by
      have := (List.getElem?_eq_some_iff.1 hu).1
      rw [flat_length] at this
      omega
    rw [List.getElem?_take_of_lt hj, List.getElem?_drop]
  have HC := Lib.hid hc
  have HL := Lib.hid hl
  have HP := Lib.hid hp
  clear hc hl hr hcur hoc hcm hlc h0 hp
  obtain ⟨n, hn⟩ : ∃ n, n = l.length := ⟨_, rfl⟩
  rw [← hn] at HL HP ⊢
  have HN := Lib.hid hn
  clear hn
  go_enter Try.func29, Try.ntmps29
  go_wp2_with (at_builtin; refine wpList_append_own _ rfl _ _ 22 rfl w.heap.size 32 i0 (.agg #[.int .u64 0, .int .u64 0]) 2 16 Try.underlying22 hi hz0 hz1 hz2 rfl (by decide) _ _ _ rfl (World.ownsRow_made w #[] 0 (Nat.le_refl _) (Nat.zero_le _) rfl) ⟨g, off, none⟩ n cap (flat l) rfl ?qc1 ?qc2 ?qc3 ?qc4 ?qc5 ?qc6 ?_)
  case qc1 => rw [flat_length, HN.out]; omega
  case qc2 => intro j u hj; exact HC.out _ j u hj
  case qc3 => exact flat_ones l
  case qc4 => have := HL.out; unfold maxLen; omega
  case qc5 => have := HL.out; omega
  case qc6 => simp
  intro v' w1 hown hgrow hnil
  go_wp2
  go_ret
  refine ⟨⟨v', rfl, ?_, ?_⟩, ?_⟩
  · rcases hown.2 with ⟨_, h1⟩ | ⟨g', cap', cur', rfl, hb, hh, h2, h3, h4, h5⟩
    · have := HP.out
      omega
    · refine .inr ⟨g', 0, cap', cur', ?_, hh, ?_, ?_, h3, ?_, ?_⟩
      · rw [HN.out]
      · have := HP.out; have := HN.out; omega
      · have := HN.out; omega
      · omega
      · have := HN.out
        simpa [this] using h5
  · intro k hk
    exact (hown.lt k hk).1
  · exact ((Below.refl _ w).alloc (Nat.le_refl _) _).grown hgrow (by simp) (by intro k hk; simp [Value.ownBlock] at hk; omega)
end Go.Proofs.Ytgapncamnmngeaa
