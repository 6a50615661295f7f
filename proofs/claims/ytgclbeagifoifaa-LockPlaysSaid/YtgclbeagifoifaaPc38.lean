/- Texts of this claim, packed: 7RCopy. -/
import Derived.Test.YtgclbeagifoifaaPc37
/- The document's Copy: the same in new memory; for any table of few locks. -/
namespace Go.Proofs.Ytgclbeagifoifaa
open Go.RowKit
set_option linter.unusedVariables false
def RdsH (w : World) (X : Value) (l : List (Nat × Nat)) : Prop := (X = .slice none 0 0 ∧ l = []) ∨ ∃ ad c, X = .slice (some ad) l.length c ∧ ∀ j u, (flatH l)[j]? = some u → w.cell? (ad.add j) = some u
theorem flatH_one (l : List (Nat × Nat)) : ∀ u ∈ flatH l, u.oneCell' = true := by
  intro u hu
  unfold flatH at hu
  obtain ⟨p, _, hp⟩ := List.mem_flatMap.1 hu
  simp at hp
  rcases hp with rfl | rfl <;> rfl
theorem step_appH {ops : Array Oper} {o : Oper} {a : Act} {w : World} {K : Act → World → Prop} {Q : Exit → Act → World → Prop} {E : Prop} (hw : Region.wanted o (yielded ops a.tmps) = true) (s x : Operand)
    (ho : o.op = .call { callee := .builtin .append, args := #[s, x], argTypes := #[37, 37] }) (B : Nat) (V : Value) (n : Nat) (xs : List Value) (hs : a.eval s = V) (hown : w.ownsRow B 67 2 V n xs) (X : Value) (l : List (Nat × Nat)) (hx : a.eval x = X) (hrd : RdsH w X l) (hn : n + l.length ≤ 1000000) (hB : B ≤ w.heap.size)
    (h : ∀ v' w', w'.ownsRow B 67 2 v' (n + l.length) (xs ++ flatH l) → w.grownBy w' V.ownBlock → K (a.put o.dst v') w') : if Region.wanted o (yielded ops a.tmps) = true then Oper.wp Try.prog o a w K Q else E := by
  rw [if_pos hw]
  obtain ⟨i0, hi, hz0, hz1, hz2⟩ := info_parts kinfoHas
  rcases hrd with ⟨rfl, rfl⟩ | ⟨ad, c, rfl, hc⟩
  · have hrun := run_append_owned_none (P := Try.prog) (w := w) B 37 o.type 67 i0 2 Try.underlying37 hi V n xs hown
    unfold Oper.wp execOp
    simp only [ho, resolve, invoke, builtin, Sem.run_bind, Sem.run_pure, Result.andThen_ok, List.map_toArray, List.map_cons, List.map_nil, hs, hx, hrun]
    exact h V w (by simpa [flatH] using hown) ⟨rfl, rfl, rfl, Nat.le_refl _, fun _ _ _ => rfl⟩
  · obtain ⟨v', w', hr, h2, h3, _⟩ := run_append_own_at (P := Try.prog) (w := w) B 37 o.type 67 i0 (.agg #[.int .u64 0, .int .i64 0]) 2 16 Try.underlying37 hi hz0 hz1 hz2 rfl (by decide) V n xs hown ad l.length c (flatH l) (by rw [flatH_len]; omega) hc (flatH_one l) (by unfold maxLen; omega) (by omega) hB
    unfold Oper.wp execOp
    simp only [ho, resolve, invoke, builtin, Sem.run_bind, Sem.run_pure, Result.andThen_ok, List.map_toArray, List.map_cons, List.map_nil, hs, hx, hr]
    exact h v' w' h2 h3
theorem rdsH_own {w : World} {B : Nat} {v : Value} {l : List (Nat × Nat)} (h : w.ownsRow B 67 2 v l.length (flatH l)) : RdsH w v l := by
  rcases h.2 with ⟨rfl, h0⟩ | ⟨g, cap, cur, rfl, hg, hh, hnc, hm, hs, ht⟩
  · exact .inl ⟨rfl, List.eq_nil_of_length_eq_zero h0⟩
  · refine .inr ⟨_, cap, rfl, fun j u hu => ?_⟩
    rw [Addr.add_lit, Nat.zero_add, Row.cell (show Row w g 67 cur from hh), ← Array.getElem?_toList]
    have hu2 := hu
    rw [← ht, List.getElem?_take] at hu2
    split at hu2
    · exact hu2
    · cases hu2
theorem rdsA_own {w : World} {B n : Nat} {v : Value} {xs : List Value} (h : w.ownsRow B 34 1 v n xs) : RdsA w v xs := by
  have hl : xs.length = n := by have := h.1; omega
  rcases h.2 with ⟨rfl, h0⟩ | ⟨g, cap, cur, rfl, hg, hh, hnc, hm, hs, ht⟩
  · exact .inl ⟨rfl, List.eq_nil_of_length_eq_zero (by omega)⟩
  · refine .inr ⟨⟨g, 0, none⟩, cap, by rw [hl], fun j u hu => ?_⟩
    rw [Addr.add_lit, Nat.zero_add, Row.cell (show Row w g 34 cur from hh), ← Array.getElem?_toList]
    have hu2 := hu
    rw [← ht, List.getElem?_take] at hu2
    split at hu2
    · exact hu2
    · cases hu2
theorem RdsH.below {w w' : World} {v : Value} {l : List (Nat × Nat)} (h : RdsH w v l) (hb : Below w.heap.size w w') : RdsH w' v l := by
  rcases h with h | ⟨ad, c, h1, h2⟩
  · exact .inl h
  · exact .inr ⟨ad, c, h1, fun j u hu => (hb.cell (w.block_lt_of_cell? _ (h2 j u hu))).trans (h2 j u hu)⟩
theorem RdsA.below {w w' : World} {v : Value} {l : List Value} (h : RdsA w v l) (hb : Below w.heap.size w w') : RdsA w' v l := by
  rcases h with h | ⟨ad, c, h1, h2⟩
  · exact .inl h
  · exact .inr ⟨ad, c, h1, fun j u hu => (hb.cell (w.block_lt_of_cell? _ (h2 j u hu))).trans (h2 j u hu)⟩
theorem own_grow7 {w w' : World} {B n s : Nat} {e : TypeId} {v : Value} {xs : List Value} (h : w.ownsRow B e s v n xs) (hg : w.grownBy w' none) : w'.ownsRow B e s v n xs := by
  refine ⟨h.1, ?_⟩
  rcases h.2 with h0 | ⟨g, cap, cur, rfl, hb, hh, hr⟩
  · exact .inl h0
  · exact .inr ⟨g, cap, cur, rfl, hb, (hg.block g (Array.getElem?_eq_some_iff.1 hh).1 (by simp)).trans hh, hr⟩
theorem own2_lt {w : World} {B n s : Nat} {e : TypeId} {v : Value} {xs : List Value} (h : w.ownsRow B e s v n xs) : ∀ g, v.ownBlock = some g → g < w.heap.size := fun g hg => by
  obtain ⟨cs, hcs⟩ := own_tg h hg
  exact (Array.getElem?_eq_some_iff.1 hcs).1
set_option maxRecDepth 100000 in
set_option maxHeartbeats 3200000 in
theorem rCopy_any {w : World} {B gr n : Nat} {l : List (Nat × Nat)} {wt : Nat → Nat} {vL vW : Value} (h : RefAt w B gr n l wt vL vW) (hl : l.length ≤ 1000) (hn64 : n ≤ 64) :
    Calls Try.prog 11 #[.pointer (some ⟨gr, 0, none⟩)] w fun e w' => ∃ gr' vL' vW', e = .returned (.pointer (some ⟨gr', 0, none⟩)) ∧ RefAt w' w.heap.size gr' n l wt vL' vW' ∧ w.heap.size ≤ gr' ∧ Below w.heap.size w w' := by
  have mixed : Try.prog.follows .mixedOrders = true := by kernel_rfl
  obtain ⟨AL, cL, hvL, _⟩ := own2_sl h.li
  obtain ⟨AW, cW, hvW, _, _, _, hwl⟩ := own_sl h.wa
  have HLI := Lib.hid (rdsH_own h.li)
  have HWA := Lib.hid (rdsA_own h.wa)
  obtain ⟨m, hm⟩ : ∃ m, m = l.length := ⟨_, rfl⟩
  obtain ⟨ws, hws⟩ : ∃ ws, ws = (List.range n).map fun c => wv (wt c) := ⟨_, rfl⟩
  have hwsl : ws.length = n := by rw [hws]; simp
  have hw1 : ∀ u ∈ ws, u.oneCell' = true := by
    intro u hu
    rw [hws] at hu
    obtain ⟨c, _, rfl⟩ := List.mem_map.1 hu
    rfl
  have HM := Lib.hid hm
  have HWS := Lib.hid hws
  have c0 := h.row.cell 0
  have c1 := h.row.cell 1
  simp only [List.getElem?_toArray, List.getElem?_cons_succ, List.getElem?_cons_zero] at c0 c1
  rw [← hws] at HWA
  subst hvL hvW
  rw [← hm] at c0 HLI
  have STAY := Lib.hid fun W' (hb : Below w.heap.size w W') => And.intro ((hb.cell (p := ⟨gr, 0, none⟩) (w.block_lt_of_cell? _ c0)).trans c0) (And.intro ((hb.cell (p := ⟨gr, 1, none⟩) (w.block_lt_of_cell? _ c1)).trans c1) hb)
  have HFIN := Lib.hid (show ∀ (W : World) (v1 v2 : Value), W.ownsRow w.heap.size 67 2 v1 m (flatH l) → W.ownsRow w.heap.size 34 1 v2 n ws → Below w.heap.size w W → ∃ gr' vL' vW', Ending.returned (.pointer (some ⟨W.heap.size, 0, none⟩)) = .returned (.pointer (some ⟨gr', 0, none⟩)) ∧ RefAt (W.alloc (.cells #[v1, v2] 40)) w.heap.size gr' n l wt vL' vW' ∧ w.heap.size ≤ gr' ∧ Below w.heap.size w (W.alloc (.cells #[v1, v2] 40)) from
    fun W v1 v2 h1 h2 hb => ⟨W.heap.size, v1, v2, rfl, ⟨Row.new W _ _, by rw [← HM.out]; exact own_same h1 (fun g hg => Below.heap_alloc W _ _ (own2_lt h1 g hg)), by rw [← HWS.out]; exact own_same h2 (fun g hg => Below.heap_alloc W _ _ (own_fromA h2 g hg).2)⟩, hb.size, Below.and hb (alloc_below _ _)⟩)
  clear h hm hws hwl
  go_enter Try.func11, Try.ntmps11
  go_upto_region 1 with (fail)
  refine wp_region_noPanic ?_
  refine wp_region_held_drew (S := fun W' => W'.cell? ⟨gr, 0, none⟩ = some (.slice AL m cL) ∧ W'.cell? ⟨gr, 1, none⟩ = some (.slice AW n cW) ∧ Below w.heap.size w W') (by kernel_rfl) (STAY.out _ (drew_below _)) (fun hHeld => ?_)
  have L0 : Below w.heap.size w w.drew := drew_below _
  refine wpAnyH_take (i := 0) (oi := ⟨some 3, _, _, _, _, _⟩) (v := .pointer (some ⟨gr, 0, none⟩)) rfl (by kernel_rfl) (by kernel_rfl) (by kernel_rfl) (fun _ _ _ h => h) (Or.inl ⟨by kernel_rfl, by intro WW hSw; (try dsimp only at hSw); obtain ⟨hS1, hS2, hS3⟩ := hSw; go_simp⟩) (by assumption) ?_
  (try simp only [Act.put, List.setIfInBounds_toArray, List.set_cons_zero, List.set_cons_succ])
  refine wpAnyH_take (i := 1) (oi := ⟨some 4, _, _, _, _, _⟩) (v := .pointer (some ⟨gr, 0, none⟩)) rfl (by kernel_rfl) (by kernel_rfl) (by kernel_rfl) (fun _ _ _ h => h) (Or.inl ⟨by kernel_rfl, by intro WW hSw; (try dsimp only at hSw); obtain ⟨hS1, hS2, hS3⟩ := hSw; go_simp⟩) (by assumption) ?_
  (try simp only [Act.put, List.setIfInBounds_toArray, List.set_cons_zero, List.set_cons_succ])
  refine wpAnyH_take (i := 2) (oi := ⟨some 5, _, _, _, _, _⟩) (v := .pointer (some ⟨gr, 0, none⟩)) rfl (by kernel_rfl) (by kernel_rfl) (by kernel_rfl) (fun _ _ _ h => h) (Or.inl ⟨by kernel_rfl, by intro WW hSw; (try dsimp only at hSw); obtain ⟨hS1, hS2, hS3⟩ := hSw; go_simp⟩) (by assumption) ?_
  (try simp only [Act.put, List.setIfInBounds_toArray, List.set_cons_zero, List.set_cons_succ])
  refine wpAnyH_take (i := 3) (oi := ⟨some 6, _, _, _, _, _⟩) (v := .slice AL m cL) rfl (by kernel_rfl) (by kernel_rfl) (by kernel_rfl) (fun _ _ _ h => h) (Or.inl ⟨by kernel_rfl, by intro WW hSw; (try dsimp only at hSw); obtain ⟨hS1, hS2, hS3⟩ := hSw; go_simp⟩) (by assumption) ?_
  (try simp only [Act.put, List.setIfInBounds_toArray, List.set_cons_zero, List.set_cons_succ])
  refine wpAnyH_take (i := 5) (oi := ⟨some 8, _, _, _, _, _⟩) (v := .pointer (some ⟨gr, 0, none⟩)) rfl (by kernel_rfl) (by kernel_rfl) (by kernel_rfl) (fun _ _ _ h => h) (Or.inl ⟨by kernel_rfl, by intro WW hSw; (try dsimp only at hSw); obtain ⟨hS1, hS2, hS3⟩ := hSw; go_simp⟩) (by assumption) ?_
  (try simp only [Act.put, List.setIfInBounds_toArray, List.set_cons_zero, List.set_cons_succ])
  refine wpAnyH_take (i := 6) (oi := ⟨some 9, _, _, _, _, _⟩) (v := .pointer (some ⟨gr, 0, none⟩)) rfl (by kernel_rfl) (by kernel_rfl) (by kernel_rfl) (fun _ _ _ h => h) (Or.inl ⟨by kernel_rfl, by intro WW hSw; (try dsimp only at hSw); obtain ⟨hS1, hS2, hS3⟩ := hSw; go_simp⟩) (by assumption) ?_
  (try simp only [Act.put, List.setIfInBounds_toArray, List.set_cons_zero, List.set_cons_succ])
  refine wpAnyH_take (i := 7) (oi := ⟨some 10, _, _, _, _, _⟩) (v := .pointer (some ⟨gr, 1, none⟩)) rfl (by kernel_rfl) (by kernel_rfl) (by kernel_rfl) (fun _ _ _ h => h) (Or.inl ⟨by kernel_rfl, by intro WW hSw; (try dsimp only at hSw); obtain ⟨hS1, hS2, hS3⟩ := hSw; go_simp⟩) (by assumption) ?_
  (try simp only [Act.put, List.setIfInBounds_toArray, List.set_cons_zero, List.set_cons_succ])
  refine wpAnyH_take (i := 8) (oi := ⟨some 11, _, _, _, _, _⟩) (v := .slice AW n cW) rfl (by kernel_rfl) (by kernel_rfl) (by kernel_rfl) (fun _ _ _ h => h) (Or.inl ⟨by kernel_rfl, by intro WW hSw; (try dsimp only at hSw); obtain ⟨hS1, hS2, hS3⟩ := hSw; go_simp⟩) (by assumption) ?_
  (try simp only [Act.put, List.setIfInBounds_toArray, List.set_cons_zero, List.set_cons_succ])
  refine wpAnyH_ready (rs := [4]) (by kernel_rfl) (by simp) ?_
  refine AllReadyH.cons (o := ⟨some 7, _, _, _, _, _⟩) rfl (fun K hK => ?_) AllReadyH.nil
  · skip
    refine step_appH (by rfl) (.const (.slice none 0 0)) (.tmp 6) (by rfl) w.heap.size _ 0 [] (by rfl) (World.ownsRow_nil _ _ _ _) _ l (by rfl) (HLI.out.below L0) (by omega) (L0.size) ?_
    intro vH wa oH gH
    have La : Below w.heap.size w wa := L0.grown gH L0.size (fun q hq => by cases hq)
    refine hK.out _ _ (STAY.out _ La) (fun hHeld => ?_)
    clear hK K
    (try simp only [Act.put, List.setIfInBounds_toArray, List.set_cons_zero, List.set_cons_succ])
    refine wpAnyH_ready (rs := [9]) (by kernel_rfl) (by simp) ?_
    refine AllReadyH.cons (o := ⟨some 12, _, _, _, _, _⟩) rfl (fun K hK => ?_) AllReadyH.nil
    refine step_appA (by rfl) (.const (.slice none 0 0)) (.tmp 11) (by rfl) w.heap.size _ 0 [] (by rfl) (World.ownsRow_nil _ _ _ _) _ ws (by rfl) (HWA.out.below La) hw1 (by omega) (La.size) ?_
    intro vA wb oA gA
    have Lb : Below w.heap.size w wb := La.grown gA La.size (fun q hq => by cases hq)
    refine hK.out _ _ (STAY.out _ Lb) (fun hHeld => ?_)
    clear hK K
    (try simp only [Act.put, List.setIfInBounds_toArray, List.set_cons_zero, List.set_cons_succ])
    have oHb := own_grow7 oH gA
    obtain ⟨A1, c1x, rfl, _⟩ := own2_sl oHb
    obtain ⟨A2, c2x, rfl, _, _, _, _⟩ := own_sl oA
    have HE := Lib.hid (HFIN.out wb _ _ (by have := oHb; simpa [HM.out] using this) (by have := oA; simpa [hwsl] using this) Lb)
    refine wpAnyH_take (i := 10) (oi := ⟨some 13, _, _, _, _, _⟩) (v := .agg #[.slice A1 (0 + l.length) c1x, .slice A2 (0 + ws.length) c2x]) rfl (by kernel_rfl) (by kernel_rfl) (by kernel_rfl) (fun _ _ _ h => h) (Or.inl ⟨by kernel_rfl, by intro WW hSw; (try dsimp only at hSw); obtain ⟨hS1, hS2, hS3⟩ := hSw; go_simp⟩) (by assumption) ?_
    (try simp only [Act.put, List.setIfInBounds_toArray, List.set_cons_zero, List.set_cons_succ])
    refine wpAnyH_ready (rs := [11]) (by kernel_rfl) (by simp) ?_
    refine AllReadyH.cons (o := ⟨some 14, _, _, _, _, _⟩) rfl (fun K hK => ?_) AllReadyH.nil
    go_simp
    refine hK.out _ _ (STAY.out _ (Below.and Lb (alloc_below _ _))) (fun hHeld => ?_)
    clear hK K
    (try simp only [Act.put, List.setIfInBounds_toArray, List.set_cons_zero, List.set_cons_succ])
    refine wpAnyH_take (i := 12) (oi := ⟨some 2, _, _, _, _, _⟩) (v := .pointer (some ⟨wb.heap.size, 0, none⟩)) rfl (by kernel_rfl) (by kernel_rfl) (by kernel_rfl) (fun _ _ _ h => h) (Or.inl ⟨by kernel_rfl, by intro WW hSw; (try dsimp only at hSw); obtain ⟨hS1, hS2, hS3⟩ := hSw; go_simp⟩) (by assumption) ?_
    (try simp only [Act.put, List.setIfInBounds_toArray, List.set_cons_zero, List.set_cons_succ])
    refine wpAnyH_done (by kernel_rfl) ?_ _
    go_wp2_with fail
    (try (refine (‹∀ (a : Act) (w : World), Code.wp Try.prog _ _ a w → _›) _ _ ?_; go_wp2_with fail))
    go_ret
    have := HE.out
    simp only [Nat.zero_add, HM.out, hwsl] at this ⊢
    exact this
end Go.Proofs.Ytgclbeagifoifaa
