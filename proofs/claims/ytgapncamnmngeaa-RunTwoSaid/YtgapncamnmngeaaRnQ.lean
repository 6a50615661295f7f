/- The reference's Groups and From: where groups begin; for stores that lie in memory. -/
import Derived.Test.YtgapncamnmngeaaRnI
import Derived.Test.YtgapncamnmngeaaRnW
namespace Go.Proofs.Ytgapncamnmngeaa
open Go.RowKit Go.Shelf
set_option linter.unusedVariables false

theorem infoIntR : (Try.prog.info? 3).map (fun i => (i.zero, i.size, i.bytes)) = some (some (.int .i64 0), 1, 8) := by kernel_rfl
/-- x is where a group begins. -/
def GS (l : List (Nat × Nat)) (x : Nat) : Prop := x < l.length ∧ (x = 0 ∨ ∃ p q, l[x - 1]? = some p ∧ l[x]? = some q ∧ p.1 / 64 ≠ q.1 / 64)
def nv (n : Nat) : Value := .int .i64 (n : Int)
theorem nv_ones (l : List Nat) : ∀ u ∈ l.map nv, u.oneCell' = true := by
  intro u hu
  obtain ⟨x, _, rfl⟩ := List.mem_map.1 hu
  rfl
set_option maxRecDepth 100000 in
set_option maxHeartbeats 1600000 in
theorem groups_any {w : World} {V : Value} {l : List (Nat × Nat)} (h : Ahead w V l) (hl : l.length ≤ 1000) (hx : ∀ p ∈ l, p.1 < 18446744073709551616) :
    Calls Try.prog 42 #[V] w fun e w' => (∃ (v : Value) (G : List Nat), e = .returned v ∧ w'.ownsRow w.heap.size 3 1 v G.length (G.map nv) ∧ G.length ≤ l.length ∧ ∀ x ∈ G, GS l x) ∧ Below w.heap.size w w' := by
  obtain ⟨i0, hi, hz0, hz1, hz2⟩ := info_parts infoIntR
  have mixed : Try.prog.follows .mixedOrders = true := by kernel_rfl
  obtain ⟨A, cap, rfl, hlc, hcm⟩ := h.len
  have H := Lib.hid h
  obtain ⟨n, hn⟩ : ∃ n, n = l.length := ⟨_, rfl⟩
  have HN := Lib.hid hn
  rw [← hn] at hlc hl ⊢
  have HX := Lib.hid hx
  clear h hn hx
  go_enter Try.func42, Try.ntmps42
  go_wp2
  go_loopw [3, 4] (fun o i wr => ∃ (k : Nat) (G : List Nat), k ≤ n ∧ i = .int .i64 (k : Int) ∧ wr.ownsRow w.heap.size 3 1 o G.length (G.map nv) ∧ G.length ≤ k ∧ (∀ x ∈ G, GS l x) ∧ Below w.heap.size w wr) (fun _ i _ => n - (intOf i).toNat)
  case atStart => exact ⟨0, [], Nat.zero_le _, rfl, World.ownsRow_nil _ _ _ _, Nat.le_refl _, (fun x hx => by cases hx), Below.refl _ _⟩
  case round =>
    rename World => wr
    obtain ⟨k, G, hk, rfl, ho, hGk, hG, hb⟩ := hrel
    have HO := Lib.hid ho
    have HB := Lib.hid hb
    have HG := Lib.hid hG
    clear ho hb hG
    have HGK := Lib.hid hGk
    by_cases hlt : k < n
    · have hklt : decide ((k : Int) < (n : Int)) = true := by rw [decide_eq_true_eq]; omega
      have hkl : k < l.length := by rw [← HN.out]; exact hlt
      have HKL := Lib.hid hkl
      by_cases hk0' : k = 0
      · subst hk0'
        clear hGk hkl
        go_wp2_with fail
        refine wp_region_quiet_low (by assumption) (by kernel_rfl) ?_
        repeat (go_big_quiet_step (fail))
        refine wpQuiet_nil ?_
        intro _ hw'
        obtain ⟨p, hw''⟩ := hw'
        subst hw''
        go_wp2_with (at_builtin; refine wpList_append_own _ rfl _ _ 49 rfl w.heap.size 3 i0 (.int .i64 0) 1 8 Try.underlying49 hi hz0 hz1 hz2 rfl (by decide) _ G.length _ rfl (ownZ_low HO.out (Below.and p.low (alloc_below _ _))) ⟨p.W.heap.size, 0, none⟩ 1 1 [.int .i64 0] rfl ?qc1 ?qc2 ?qc3 ?qc4 ?qc5 ?qc6 ?_)
        case qc1 => rfl
        case qc2 =>
          intro j u hj
          rw [Addr.add_lit, (Row.new p.W 3 #[.int .i64 0]).cell, Nat.zero_add, ← Array.getElem?_toList]
          exact hj
        case qc3 => intro u hu; simp at hu; subst hu; rfl
        case qc4 => unfold maxLen; have := HGK.out; omega
        case qc5 => have := HGK.out; omega
        case qc6 => have := HB.out.size; have := p.low.size; simp only [World.size_alloc]; omega
        intro v' w4 hown hgrow hnil
        have HO4 := Lib.hid hown
        have HB4 := Lib.hid (show Below w.heap.size w w4 from (Below.and HB.out (Below.and p.low (alloc_below _ _))).grown hgrow (by have := HB.out.size; have := p.low.size; simp only [World.size_alloc]; omega) (fun g hg => (ownZ_from HO.out g hg).1))
        clear hown hgrow hnil
        go_wp2
        refine ⟨⟨0 + 1, G ++ [0], by omega, by go_num, ?_, by rw [List.length_append]; have := HGK.out; simp only [List.length_cons, List.length_nil]; omega, ?_, HB4.out⟩, by simp only [intOf]; omega⟩
        · have := HO4.out
          rw [List.map_append, List.length_append]
          exact this
        · intro x hx
          rcases List.mem_append.1 hx with h1 | h1
          · exact HG.out x h1
          · obtain rfl := List.mem_singleton.1 h1
            exact ⟨HKL.out, .inl rfl⟩
      · obtain ⟨k', hkk⟩ : ∃ k', k = k' + 1 := ⟨k - 1, by omega⟩
        have HKK := Lib.hid hkk
        obtain ⟨g, off, cap', he, s0, s3⟩ := (H.out.below HB.out).at_ hkl
        obtain ⟨g2, off2, cap2, he2, s1, s4⟩ := (H.out.below HB.out).at_ (k := k') (by omega)
        injection he with he1 _ he3
        subst he1 he3
        injection he2 with he4 e5 e6
        clear e5 e6
        cases he4
        have hk0 : k' < l.length := by omega
        obtain ⟨a, ha, c0⟩ : ∃ a, a = (l[k]'hkl).1 ∧ wr.cell? ⟨g, off + k * 2, none⟩ = some (.int .u64 (a : Int)) := ⟨_, rfl, s0⟩
        obtain ⟨b, hb, c1⟩ : ∃ b, b = (l[k']'hk0).1 ∧ wr.cell? ⟨g, off + k' * 2, none⟩ = some (.int .u64 (b : Int)) := ⟨_, rfl, s1⟩
        have ha64 : a < 18446744073709551616 := by rw [ha]; exact HX.out _ (List.getElem_mem _)
        have hb64 : b < 18446744073709551616 := by rw [hb]; exact HX.out _ (List.getElem_mem _)
        have GF := Lib.hid (show a / 64 ≠ b / 64 → GS l k from fun hne => ⟨hkl, .inr ⟨l[k']'hk0, l[k]'hkl, by rw [hkk, Nat.add_sub_cancel]; exact List.getElem?_eq_getElem hk0, List.getElem?_eq_getElem hkl, by rw [← ha, ← hb]; exact fun h => hne h.symm⟩⟩)
        have ca := fun p : LowBy wr => p.cell c0
        have cb := fun p : LowBy wr => p.cell c1
        have z1 : ((k : Int) == 0) = false := by rw [beq_eq_false_iff_ne]; omega
        have z2 : ¬ k = 0 := by omega
        have z3 : IntKind.i64.wrap ((k : Int) - 1) = (k' : Int) := by rw [IntKind.wrap_i64]; omega
        have z4 : k' < n := by omega
        have x1 : IntKind.u64.wrap ((a : Int) / 64) = (a : Int) / 64 := by rw [IntKind.wrap_u64]; omega
        have x2 : IntKind.u64.wrap ((b : Int) / 64) = (b : Int) / 64 := by rw [IntKind.wrap_u64]; omega
        have EQ : ((a : Int) / 64 = (b : Int) / 64) ↔ a / 64 = b / 64 := by omega
        have EQH := Lib.hid EQ
        obtain ⟨X, hX⟩ : ∃ X, X = (a : Int) / 64 := ⟨_, rfl⟩
        obtain ⟨Y, hY⟩ : ∃ Y, Y = (b : Int) / 64 := ⟨_, rfl⟩
        rw [← hX, ← hY] at EQH
        have hX' := hX.symm
        have hY' := hY.symm
        clear s3 s4 s0 s1 c0 c1 hGk ha hb EQ hkk hX hY
        by_cases hxy : X = Y
        · have y1 : (X == Y) = true := by rw [beq_iff_eq]; exact hxy
          have y2 : (X != Y) = false := by simp [bne, y1]
          clear hxy
          go_wp2_with fail
          refine wp_region_quiet_low (by assumption) (by kernel_rfl) ?_
          repeat (go_big_quiet_step (fail))
          refine wpQuiet_nil ?_
          intro _ hw'
          obtain ⟨p, hw''⟩ := hw'
          subst hw''
          have HBP := Lib.hid (Below.and HB.out p.low)
          have HOP := Lib.hid (ownZ_low HO.out p.low)
          clear ca cb z1 z2 z3 z4 x1 x2 hX' hY' y1 y2 EQH GF
          go_wp2
          exact ⟨⟨k + 1, G, by omega, by go_num, HOP.out, by have := HGK.out; omega, HG.out, HBP.out⟩, by simp only [intOf]; omega⟩
        · have y1 : (X == Y) = false := by rw [beq_eq_false_iff_ne]; exact hxy
          have y2 : (X != Y) = true := by simp [bne, y1]
          have HNE := Lib.hid (GF.out (fun h => hxy (EQH.out.2 h)))
          clear hxy
          go_wp2_with fail
          refine wp_region_quiet_low (by assumption) (by kernel_rfl) ?_
          repeat (go_big_quiet_step (fail))
          refine wpQuiet_nil ?_
          intro _ hw'
          obtain ⟨p, hw''⟩ := hw'
          subst hw''
          clear ca cb z1 z2 z3 z4 x1 x2 hX' hY' y1 y2 EQH GF
          go_wp2_with (at_builtin; refine wpList_append_own _ rfl _ _ 49 rfl w.heap.size 3 i0 (.int .i64 0) 1 8 Try.underlying49 hi hz0 hz1 hz2 rfl (by decide) _ G.length _ rfl (ownZ_low HO.out (Below.and p.low (alloc_below _ _))) ⟨p.W.heap.size, 0, none⟩ 1 1 [.int .i64 (k : Int)] rfl ?qc1 ?qc2 ?qc3 ?qc4 ?qc5 ?qc6 ?_)
          case qc1 => rfl
          case qc2 =>
            intro j u hj
            rw [Addr.add_lit, (Row.new p.W 3 #[.int .i64 (k : Int)]).cell, Nat.zero_add, ← Array.getElem?_toList]
            exact hj
          case qc3 => intro u hu; simp at hu; subst hu; rfl
          case qc4 => unfold maxLen; have := HGK.out; omega
          case qc5 => have := HGK.out; omega
          case qc6 => have := HB.out.size; have := p.low.size; simp only [World.size_alloc]; omega
          intro v' w4 hown hgrow hnil
          have HO4 := Lib.hid hown
          have HB4 := Lib.hid (show Below w.heap.size w w4 from (Below.and HB.out (Below.and p.low (alloc_below _ _))).grown hgrow (by have := HB.out.size; have := p.low.size; simp only [World.size_alloc]; omega) (fun g hg => (ownZ_from HO.out g hg).1))
          clear hown hgrow hnil
          go_wp2
          · refine ⟨⟨k + 1, G ++ [k], by omega, by go_num, ?_, by rw [List.length_append]; have := HGK.out; simp only [List.length_cons, List.length_nil]; omega, ?_, HB4.out⟩, by simp only [intOf]; omega⟩
            · have := HO4.out
              rw [List.map_append, List.length_append]
              exact this
            · intro x hx
              rcases List.mem_append.1 hx with h1 | h1
              · exact HG.out x h1
              · obtain rfl := List.mem_singleton.1 h1
                exact HNE.out
    · obtain rfl : k = n := by omega
      have HF := Lib.hid (And.intro hGk (And.intro HG.out HO.out))
      clear hGk
      go_wp2
      go_ret
      exact ⟨⟨_, G, rfl, HF.out.2.2, HF.out.1, HF.out.2.1⟩, HB.out⟩
set_option maxRecDepth 100000 in
set_option maxHeartbeats 1600000 in
theorem from_any {w : World} {V : Value} {l : List (Nat × Nat)} (h : Ahead w V l) (hl : l.length ≤ 1000) (hx : ∀ p ∈ l, p.1 < 18446744073709551616) (many : Nat) :
    Calls Try.prog 24 #[V, .int .i64 (many : Int)] w fun e w' => (∃ fr : Nat, e = .returned (.int .i64 (fr : Int)) ∧ (fr = 0 ∨ (GS l fr ∧ fr < many))) ∧ Below w.heap.size w w' := by
  have HGR := Lib.hid (groups_any h hl hx)
  have HLL := Lib.hid hl
  clear h hl hx
  go_enter Try.func24, Try.ntmps24
  go_wp2_with fail
  refine HGR.out.mono ?_
  rintro e w1 ⟨⟨v, G, rfl, ho, hGl, hG⟩, hb1⟩
  obtain ⟨m, hm⟩ : ∃ m, m = G.length := ⟨_, rfl⟩
  have HM := Lib.hid hm
  obtain ⟨A, cap, rfl, hmc, hcap, hsl, _⟩ := own_sl ho
  have HSL := Lib.hid hsl
  have HB1 := Lib.hid hb1
  have HG := Lib.hid hG
  have hm9 : m ≤ 1000 := by rw [hm]; exact Nat.le_trans hGl HLL.out
  rw [← hm] at hmc ⊢
  clear ho hsl hb1 hG hGl hm HGR
  go_wp2_with fail
  go_loopw [5, 7] (fun at_ i wr => ∃ (k fr : Nat), k ≤ m ∧ i = .int .i64 (k : Int) ∧ at_ = .int .i64 (fr : Int) ∧ (fr = 0 ∨ (GS l fr ∧ fr < many)) ∧ Below w1.heap.size w1 wr) (fun _ i _ => m - (intOf i).toNat)
  case atStart => exact ⟨0, 0, Nat.zero_le _, rfl, rfl, .inl rfl, Below.refl _ _⟩
  case round =>
    rename World => wr
    obtain ⟨k, fr, hk, rfl, rfl, hfr, hb⟩ := hrel
    have HFR := Lib.hid hfr
    have HB := Lib.hid hb
    clear hfr hb
    by_cases hlt : k < m
    · have hklt : decide ((k : Int) < (m : Int)) = true := by rw [decide_eq_true_eq]; omega
      have hkg : k < G.length := by rw [← HM.out]; exact hlt
      obtain ⟨ad, rfl, hc⟩ := HSL.out k (nv G[k]) (by rw [List.getElem?_map, List.getElem?_eq_getElem hkg]; rfl)
      have hcc := (HB.out.cell (block_lt_of_cell hc)).trans hc
      obtain ⟨x, hx⟩ : ∃ x, x = G[k] := ⟨_, rfl⟩
      have HGS := Lib.hid (show GS l x from by rw [hx]; exact HG.out _ (List.getElem_mem _))
      rw [← hx] at hcc
      unfold nv at hcc
      clear hx hc
      by_cases hxm : x < many
      · have y1 : decide ((x : Int) < (many : Int)) = true := by rw [decide_eq_true_eq]; omega
        have HN := Lib.hid hxm
        clear hxm
        go_wp2
        exact ⟨⟨k + 1, x, by omega, by go_num, rfl, .inr ⟨HGS.out, HN.out⟩, HB.out⟩, by simp only [intOf]; omega⟩
      · have y1 : decide ((x : Int) < (many : Int)) = false := by rw [decide_eq_false_iff_not]; omega
        go_wp2
        exact ⟨⟨k + 1, fr, by omega, by go_num, rfl, HFR.out, HB.out⟩, by simp only [intOf]; omega⟩
    · obtain rfl : k = m := by omega
      go_wp2
      go_ret
      exact ⟨⟨fr, rfl, HFR.out⟩, Below.and HB1.out HB.out⟩
/-- Where a group begins lies no later than where the one that is under way began. -/
theorem from_le {l : List (Nat × Nat)} {fr many b L : Nat} (hf : fr = 0 ∨ (GS l fr ∧ fr < many)) (hbm : b ≤ many) (hc : ∀ i, b ≤ i → i < many → ∀ p, l[i]? = some p → p.1 / 64 = L) : fr ≤ b := by
  rcases hf with rfl | ⟨⟨h1, h2⟩, h3⟩
  · exact Nat.zero_le _
  · rcases h2 with rfl | ⟨p, q, hp, hq, hne⟩
    · exact Nat.zero_le _
    · rcases Nat.lt_or_ge b fr with h4 | h4
      · exact absurd ((hc (fr - 1) (by omega) (by omega) p hp).trans (hc fr (by omega) h3 q hq).symm) hne
      · exact h4
end Go.Proofs.Ytgapncamnmngeaa
