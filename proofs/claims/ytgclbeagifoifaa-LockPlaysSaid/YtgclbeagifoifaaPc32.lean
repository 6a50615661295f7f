/- Texts of this claim, packed: 7RHeld. -/
import Derived.Test.YtgclbeagifoifaaPc27
import Derived.Test.YtgclbeagifoifaaPc31
import Derived.Laws.AppendOwnNone
import Derived.Deep.QuietTactic
import Derived.Deep.DeepCutAuto
import Derived.Deep.CutBlock
/- The document's Held: what a client has, in new memory, rising; for any list of few locks. -/
namespace Go.Proofs.Ytgclbeagifoifaa
open Go.RowKit
set_option linter.unusedVariables false
theorem infoAdr : (Try.prog.info? 34).map (fun i => (i.zero, i.size, i.bytes)) = some (some (.int .u64 0), 1, 8) := by kernel_rfl
/-- A slice that reads as a list, wherever it lies. -/
def RdsA (w : World) (X : Value) (news : List Value) : Prop := (X = .slice none 0 0 ∧ news = []) ∨ ∃ ad c, X = .slice (some ad) news.length c ∧ ∀ j u, news[j]? = some u → w.cell? (ad.add j) = some u
/-- Addresses are appended to a slice of one's own, in a region that draws its order. -/
theorem step_appA {ops : Array Oper} {o : Oper} {a : Act} {w : World} {K : Act → World → Prop} {Q : Exit → Act → World → Prop} {E : Prop} (hw : Region.wanted o (yielded ops a.tmps) = true) (s x : Operand)
    (ho : o.op = .call { callee := .builtin .append, args := #[s, x], argTypes := #[38, 38] }) (B : Nat) (V : Value) (n : Nat) (xs : List Value) (hs : a.eval s = V) (hown : w.ownsRow B 34 1 V n xs) (X : Value) (news : List Value) (hx : a.eval x = X) (hrd : RdsA w X news) (h1 : ∀ u ∈ news, u.oneCell' = true) (hn : n + news.length ≤ 1000000) (hB : B ≤ w.heap.size)
    (h : ∀ v' w', w'.ownsRow B 34 1 v' (n + news.length) (xs ++ news) → w.grownBy w' V.ownBlock → K (a.put o.dst v') w') : if Region.wanted o (yielded ops a.tmps) = true then Oper.wp Try.prog o a w K Q else E := by
  rw [if_pos hw]
  obtain ⟨i0, hi, hz0, hz1, hz2⟩ := info_parts infoAdr
  rcases hrd with ⟨rfl, rfl⟩ | ⟨ad, c, rfl, hc⟩
  · have hrun := run_append_owned_none (P := Try.prog) (w := w) B 38 o.type 34 i0 1 Try.underlying38 hi V n xs hown
    unfold Oper.wp execOp
    simp only [ho, resolve, invoke, builtin, Sem.run_bind, Sem.run_pure, Result.andThen_ok, List.map_toArray, List.map_cons, List.map_nil, hs, hx, hrun]
    exact h V w (by simpa using hown) ⟨rfl, rfl, rfl, Nat.le_refl _, fun _ _ _ => rfl⟩
  · obtain ⟨v', w', hr, h2, h3, _⟩ := run_append_own_at (P := Try.prog) w B 38 o.type 34 i0 (.int .u64 0) 1 8 Try.underlying38 hi hz0 hz1 hz2 rfl (by decide) V n xs hown ad news.length c news (by omega) hc h1 (by unfold maxLen; omega) (by omega) hB
    unfold Oper.wp execOp
    simp only [ho, resolve, invoke, builtin, Sem.run_bind, Sem.run_pure, Result.andThen_ok, List.map_toArray, List.map_cons, List.map_nil, hs, hx, hr]
    exact h v' w' h2 h3
theorem size_A (w : World) : (sizeOf (Try.prog.elem 38)).run Try.prog w = .ok 1 w := by kernel_rfl
theorem under_A : Try.prog.underlying 38 = some (.slice (Try.prog.elem 38)) := by kernel_rfl
theorem own_lowA {w w' : World} {B n : Nat} {V : Value} {xs : List Value} (h : w.ownsRow B 34 1 V n xs) (hb : Below w.heap.size w w') : w'.ownsRow B 34 1 V n xs := own_keep h hb
theorem add_atA (g j : Nat) : (⟨g, 0, none⟩ : Addr).add j = ⟨g, j, none⟩ := by rw [Addr.add_lit, Nat.zero_add]
/-- A slice of one's own, cut in two. -/
theorem own_cut {w : World} {B n : Nat} {V : Value} {xs : List Value} (h : w.ownsRow B 34 1 V n xs) {j : Nat} (hj : j ≤ n) : ∃ AY mY cY AX mX cX,
    (∀ W, (Instr.slice 38 V none (some (.int .i64 (j : Int))) none).run Try.prog W = .ok (.slice AY mY cY) W) ∧ (∀ W, (Instr.slice 38 V (some (.int .i64 (j : Int))) none none).run Try.prog W = .ok (.slice AX mX cX) W) ∧
    (∀ W, Below w.heap.size w W → RdsA W (.slice AY mY cY) (xs.take j) ∧ RdsA W (.slice AX mX cX) (xs.drop j)) := by
  have h1 := h.1
  rcases h.2 with ⟨rfl, rfl⟩ | ⟨g, cap, cur, rfl, _, _, hc, hm, _⟩
  · obtain rfl : j = 0 := by omega
    have e : xs = [] := List.eq_nil_of_length_eq_zero (by omega)
    subst e
    refine ⟨none, 0, 0, none, 0, 0, fun W => ?_, fun W => ?_, fun W _ => ⟨.inl ⟨rfl, rfl⟩, .inl ⟨rfl, rfl⟩⟩⟩
    · have := run_slice_h (P := Try.prog) (w := W) 38 none 0 0 under_A .i64 0 (by omega) (by omega)
      rw [size_A] at this
      refine Eq.trans this ?_
      simp [Result.andThen, sliced]
    · have := run_slice_l (P := Try.prog) (w := W) 38 none 0 0 under_A .i64 0 (by omega) (by omega)
      rw [size_A] at this
      refine Eq.trans this ?_
      simp [Result.andThen, sliced]
  · unfold maxLen at hm
    have hcells : ∀ W, Below w.heap.size w W → ∀ (k : Nat) (u : Value), xs[k]? = some u → W.cell? ⟨g, k, none⟩ = some u := fun W hb k u hu => by
      have := (own_keep h hb).cells (g := g) rfl k u hu
      rwa [add_atA] at this
    refine ⟨some ⟨g, 0, none⟩, j, cap, some (if cap = j then ⟨g, 0, none⟩ else (⟨g, 0, none⟩ : Addr).add j), n - j, cap - j, fun W => ?_, fun W => ?_, fun W hb => ⟨.inr ⟨⟨g, 0, none⟩, cap, by rw [List.length_take, Nat.min_eq_left (by omega)], fun k u hu => ?_⟩, .inr ⟨_, cap - j, by rw [List.length_drop, h1, Nat.mul_one], fun k u hu => ?_⟩⟩⟩
    · rw [run_slice_h (w := W) 38 (some ⟨g, 0, none⟩) n cap under_A .i64 j (by omega) (by omega), size_A]
      simp [Result.andThen, sliced, add_zero']
    · rw [run_slice_l (w := W) 38 (some ⟨g, 0, none⟩) n cap under_A .i64 j (by omega) (by omega), size_A]
      by_cases e : cap = j <;> simp [Result.andThen, sliced, e]
    · rw [add_atA]
      rw [List.getElem?_take] at hu
      split at hu
      · exact hcells W hb k u hu
      · cases hu
    · rw [List.getElem?_drop] at hu
      have hk : j + k < n := by have := (List.getElem?_eq_some_iff.1 hu).1; omega
      rw [if_neg (by omega), Addr.add_lit]
      simp only [Nat.zero_add]
      have e : (⟨g, j, none⟩ : Addr).add k = ⟨g, j + k, none⟩ := Addr.add_lit _ _ _
      rw [e]
      exact hcells W hb _ u hu
theorem own_fromA {w : World} {B s n : Nat} {e : TypeId} {v : Value} {xs : List Value} (h : w.ownsRow B e s v n xs) : ∀ k, v.ownBlock = some k → B ≤ k ∧ k < w.heap.size := by
  intro k hk
  rcases h.2 with ⟨rfl, _⟩ | ⟨g', cap, cur, rfl, hb, hh, _⟩
  · cases hk
  · have : g' = k := by injection hk
    subst this
    exact ⟨hb, (Array.getElem?_eq_some_iff.1 hh).1⟩
theorem own_monoA {w : World} {B B' s n : Nat} {e : TypeId} {v : Value} {xs : List Value} (h : w.ownsRow B e s v n xs) (hb : B' ≤ B) : w.ownsRow B' e s v n xs := by
  refine ⟨h.1, ?_⟩
  rcases h.2 with h0 | ⟨g, cap, cur, rfl, hg, hr⟩
  · exact .inl h0
  · exact .inr ⟨g, cap, cur, rfl, Nat.le_trans hb hg, hr⟩
theorem wv_one (o : List Nat) : ∀ u ∈ o.map wv, u.oneCell' = true := by
  intro u hu
  obtain ⟨x, _, rfl⟩ := List.mem_map.1 hu
  rfl
set_option maxRecDepth 100000 in
set_option maxHeartbeats 3200000 in
theorem rHeld_any {w : World} {B gr n : Nat} {l : List (Nat × Nat)} {wt : Nat → Nat} {vL vW : Value} (h : RefAt w B gr n l wt vL vW) (hl : l.length ≤ 1000) (c : Nat) :
    Calls Try.prog 26 #[.pointer (some ⟨gr, 0, none⟩), .int .i64 (c : Int)] w fun e w' => ∃ V, e = .returned V ∧ w'.ownsRow w.heap.size 34 1 V (heldL l c).length ((heldL l c).map wv) ∧ Below w.heap.size w w' := by
  have mixed : Try.prog.follows .mixedOrders = true := by kernel_rfl
  obtain ⟨A, capL, rfl, hmx⟩ := own2_sl h.li
  have HH := Lib.hid h
  obtain ⟨m, hmm⟩ : ∃ m, m = l.length := ⟨_, rfl⟩
  have HM := Lib.hid hmm
  have hm1 : m ≤ 1000 := by omega
  have HC0 := Lib.hid (fun W' (hb : Below w.heap.size w W') => (show W'.cell? ⟨gr, 0, none⟩ = some (.slice A m capL) by
    have c0 := (HH.out.below hb).row.cell 0
    simp only [List.getElem?_toArray, List.getElem?_cons_zero] at c0
    rw [HM.out]
    exact c0))
  have c0 := HC0.out w (Below.refl _ _)
  have HE := Lib.hid (show l.take m = l by rw [hmm]; exact List.take_length)
  clear h hl hmm hmx
  go_enter Try.func26, Try.ntmps26
  go_wp2_with fail
  clear c0
  go_loopw [5, 6] (fun V i wr => ∃ (VV : Value) (k : Nat), VV = V ∧ k ≤ m ∧ i = .int .i64 (k : Int) ∧ wr.ownsRow w.heap.size 34 1 V (heldL (l.take k) c).length ((heldL (l.take k) c).map wv) ∧ Below w.heap.size w wr) (fun _ i _ => m - (intOf i).toNat)
  case atStart => exact ⟨_, 0, rfl, Nat.zero_le _, rfl, World.ownsRow_nil _ _ _ _, Below.refl _ _⟩
  case round =>
    rename World => wr
    obtain ⟨V, i, hVV, hk, rfl, ho, hb⟩ := hrel
    subst hVV
    have hsz := hb.size
    have c0 := HC0.out wr hb
    have hol := heldL_len l c i
    have HO := Lib.hid ho
    have HB := Lib.hid hb
    by_cases hlt : i < m
    · have hlt' : i < l.length := by rw [← HM.out]; exact hlt
      obtain ⟨gq, cp, cur, hvv, _, _, _, hrow, hcur⟩ := own2_shape HH.out.li (by omega)
      obtain rfl : A = some ⟨gq, 0, none⟩ := by injection hvv
      obtain ⟨p, hp⟩ : ∃ p, l[i]? = some p := ⟨_, List.getElem?_eq_getElem hlt'⟩
      obtain ⟨e0, e1⟩ := flatH_at l i p hp
      have q0w : w.cell? ⟨gq, i * 2, none⟩ = some (.int .u64 (p.1 : Int)) := by rw [hrow.cell]; exact hcur _ _ e0
      have q1w : w.cell? ⟨gq, i * 2 + 1, none⟩ = some (.int .i64 (p.2 : Int)) := by rw [hrow.cell]; exact hcur _ _ e1
      have q0 := (hb.cell (w.block_lt_of_cell? _ q0w)).trans q0w
      have q1 := (hb.cell (w.block_lt_of_cell? _ q1w)).trans q1w
      have HNX := Lib.hid (heldL_next hp c)
      obtain ⟨o, hoo⟩ : ∃ o, o = heldL (l.take i) c := ⟨_, rfl⟩
      rw [← hoo] at HO HNX hol
      obtain ⟨x, y⟩ := p
      dsimp only at q0 q1 HNX
      clear hrow hcur hvv e0 e1 hlt' hp q0w q1w ho hb hoo
      by_cases hy : y = c
      · subst hy
        have HNY := Lib.hid (show heldL (l.take (i + 1)) y = insN o x by rw [HNX.out, if_pos rfl])
        clear HNX
        have hyb : ((y : Int) != (y : Int)) = false := by simp
        obtain ⟨q, hq⟩ : ∃ q, q = o.length := ⟨_, rfl⟩
        rw [← hq] at HO hol
        have HQ := Lib.hid hq
        obtain ⟨A5, c5, hV⟩ : ∃ A5 c5, V = .slice A5 q c5 := by
          rcases HO.out.2 with ⟨rfl, h0⟩ | ⟨g, cap, cur, rfl, _⟩
          · exact ⟨none, 0, by rw [h0]⟩
          · exact ⟨_, _, rfl⟩
        subst hV
        have HOC := Lib.hid (show ∀ j, j < q → ∃ g, A5 = some ⟨g, 0, none⟩ ∧ wr.cell? ⟨g, j, none⟩ = some (.int .u64 ((o.getD j 0 : Nat) : Int)) from fun j hj => by
          have h1 : (o.map wv)[j]? = some (wv (o.getD j 0)) := by
            rw [List.getElem?_map, List.getD_eq_getElem?_getD, List.getElem?_eq_getElem (by have := HQ.out; omega)]
            rfl
          rcases HO.out.2 with ⟨e1, e2⟩ | ⟨g, cap, cur, e1, _⟩
          · omega
          · have e2 : A5 = some ⟨g, 0, none⟩ := by injection e1
            have h2 := HO.out.cells (g := g) (by rw [e2]; rfl) j _ h1
            rw [Addr.add_lit, Nat.zero_add] at h2
            exact ⟨g, e2, h2⟩)
        clear hq
        go_wp2_with fail
        go_loopw [7] (fun a wx => ∃ j : Nat, j ≤ q ∧ a = .int .i64 (j : Int) ∧ (∀ t, t < j → o.getD t 0 < x) ∧ Below wr.heap.size wr wx) (fun a _ => q - (intOf a).toNat)
        case atStart => exact ⟨0, Nat.zero_le _, rfl, fun t ht => by omega, Below.refl _ _⟩
        case round =>
          rename World => wx
          obtain ⟨j, hj, rfl, hbf, hbx⟩ := hrel
          have HBX := Lib.hid hbx
          have HBF := Lib.hid hbf
          have c0x := HC0.out wx (HB.out.trans (hbx.mono hsz))
          have q0x := (hbx.cell (wr.block_lt_of_cell? _ q0)).trans q0
          clear hbf
          by_cases hjk : j < q
          · obtain ⟨gv, hA, cj⟩ := HOC.out j hjk
            have cjx := (hbx.cell (wr.block_lt_of_cell? _ cj)).trans cj
            obtain ⟨z, hz⟩ : ∃ z, z = o.getD j 0 := ⟨_, rfl⟩
            rw [← hz] at cjx
            have HZ := Lib.hid hz
            have HA := Lib.hid hA
            subst hA
            have d3 : ((j : Int) < (q : Int)) := by omega
            clear hbx cj hz
            by_cases hzx : z < x
            · have d4 : ((z : Int) < (x : Int)) := by omega
              go_wp2_with fail
              go_quiet (fail)
              go_wp2_with fail
              refine ⟨⟨j + 1, by omega, by go_num, fun t ht => ?_, HBX.out.trans ((drewN_below _ _).mono HBX.out.size)⟩, by simp [intOf]; omega⟩
              rcases Nat.lt_or_ge t j with h1 | h1
              · exact HBF.out t h1
              · obtain rfl : t = j := by omega
                rw [← HZ.out]
                exact hzx
            · have d4 : ¬ ((z : Int) < (x : Int)) := by omega
              have d5 : decide ((z : Int) < (x : Int)) = false := by simpa using d4
              have HSTOP := Lib.hid (show j = q ∨ ¬ o.getD j 0 < x from .inr (by rw [← HZ.out]; exact hzx))
              go_wp2_with fail
              go_quiet (fail)
              go_wp2_with fail
              obtain ⟨W9, hW9⟩ : ∃ W9, W9 = wx.drewN nq := ⟨_, rfl⟩
              rw [← hW9]
              have hb9 : Below wr.heap.size wr W9 := by rw [hW9]; exact HBX.out.trans ((drewN_below _ _).mono HBX.out.size)
              have c09 := HC0.out W9 (HB.out.trans (hb9.mono hsz))
              have q09 := (hb9.cell (wr.block_lt_of_cell? _ q0)).trans q0
              have HO9 := Lib.hid (own_keep HO.out hb9)
              have HB9 := Lib.hid (HB.out.trans (hb9.mono hsz))
              have hs9 := HB9.out.size
              have STAY := Lib.hid fun W' (hb : Below W9.heap.size W9 W') => (show W'.cell? ⟨gr, 0, none⟩ = some (.slice (some ⟨gq, 0, none⟩) m capL) ∧ W'.cell? ⟨gq, i * 2, none⟩ = some (.int .u64 (x : Int)) ∧ Below W9.heap.size W9 W' from ⟨(hb.cell (W9.block_lt_of_cell? _ c09)).trans c09, (hb.cell (W9.block_lt_of_cell? _ q09)).trans q09, hb⟩)
              obtain ⟨AY, mY, cY, AX, mX, cX, hx1, hx2, hcut⟩ := own_cut HO9.out hj
              obtain ⟨ys, hys⟩ : ∃ ys, ys = (o.map wv).take j := ⟨_, rfl⟩
              obtain ⟨zs, hzs⟩ : ∃ zs, zs = (o.map wv).drop j := ⟨_, rfl⟩
              rw [← hys, ← hzs] at hcut
              have HCUT := Lib.hid hcut
              have HYL := Lib.hid (show ys.length = j by rw [hys, List.length_take, List.length_map, ← HQ.out]; omega)
              have HXL := Lib.hid (show zs.length = q - j by rw [hzs, List.length_drop, List.length_map, ← HQ.out])
              have HY1 := Lib.hid (show ∀ u ∈ ys, u.oneCell' = true from fun u hu => wv_one o u (by rw [hys] at hu; exact List.mem_of_mem_take hu))
              have HX1 := Lib.hid (show ∀ u ∈ zs, u.oneCell' = true from fun u hu => wv_one o u (by rw [hzs] at hu; exact List.mem_of_mem_drop hu))
              have HFIN := Lib.hid (fun (V : Value) (W : World) (h : W.ownsRow w.heap.size 34 1 V (j + 1 + (q - j)) (ys ++ [.int .u64 (x : Int)] ++ zs)) => (show W.ownsRow w.heap.size 34 1 V (heldL (l.take (i + 1)) y).length ((heldL (l.take (i + 1)) y).map wv) by
                have e := insN_at (o := o) (x := x) (j := j) (by rw [← HQ.out]; exact hj) HBF.out (by rw [← HQ.out]; exact HSTOP.out)
                rw [HNY.out, insN_len, ← HQ.out, e, List.map_append, List.map_append, List.map_take, List.map_drop, ← hys, ← hzs, show q + 1 = j + 1 + (q - j) by omega]
                exact h))
              have hjb : j ≤ 1000 := by omega
              have hqb : q ≤ 1000 := by omega
              clear hW9 hb9 hcut hys hzs c0x q0x c0 q0 q1
              refine wp_region_noPanic ?_
              refine wp_region_held_drew (S := fun W' => W'.cell? ⟨gr, 0, none⟩ = some (.slice (some ⟨gq, 0, none⟩) m capL) ∧ W'.cell? ⟨gq, i * 2, none⟩ = some (.int .u64 (x : Int)) ∧ Below W9.heap.size W9 W') (by kernel_rfl) (STAY.out _ (drew_below _)) (fun hHeld => ?_)
              have L0 : Below W9.heap.size W9 W9.drew := drew_below _
              refine wpAnyH_take (i := 0) (oi := ⟨some 48, _, _, _, _, _⟩) (v := .slice (some ⟨gv, 0, none⟩) q c5) rfl (by kernel_rfl) (by kernel_rfl) (by kernel_rfl) (fun _ _ _ h => h) (Or.inl ⟨by kernel_rfl, by intro WW hSw; (try dsimp only at hSw); obtain ⟨hS1, hS2, hS3⟩ := hSw; go_simp⟩) (by assumption) ?_
              (try simp only [Act.put, List.setIfInBounds_toArray, List.set_cons_zero, List.set_cons_succ])
              refine wpAnyH_take (i := 1) (oi := ⟨some 49, _, _, _, _, _⟩) (v := .int .i64 (j : Int)) rfl (by kernel_rfl) (by kernel_rfl) (by kernel_rfl) (fun _ _ _ h => h) (Or.inl ⟨by kernel_rfl, by intro WW hSw; (try dsimp only at hSw); obtain ⟨hS1, hS2, hS3⟩ := hSw; go_simp⟩) (by assumption) ?_
              (try simp only [Act.put, List.setIfInBounds_toArray, List.set_cons_zero, List.set_cons_succ])
              refine wpAnyH_take (i := 2) (oi := ⟨some 50, _, _, _, _, _⟩) (v := .slice AY mY cY) rfl (by kernel_rfl) (by kernel_rfl) (by kernel_rfl) (fun _ _ _ h => h) (Or.inl ⟨by kernel_rfl, by intro WW hSw; (try dsimp only at hSw); obtain ⟨hS1, hS2, hS3⟩ := hSw; go_simp⟩) (by assumption) ?_
              (try simp only [Act.put, List.setIfInBounds_toArray, List.set_cons_zero, List.set_cons_succ])
              refine wpAnyH_take (i := 4) (oi := ⟨some 52, _, _, _, _, _⟩) (v := .pointer (some ⟨gr, 0, none⟩)) rfl (by kernel_rfl) (by kernel_rfl) (by kernel_rfl) (fun _ _ _ h => h) (Or.inl ⟨by kernel_rfl, by intro WW hSw; (try dsimp only at hSw); obtain ⟨hS1, hS2, hS3⟩ := hSw; go_simp⟩) (by assumption) ?_
              (try simp only [Act.put, List.setIfInBounds_toArray, List.set_cons_zero, List.set_cons_succ])
              refine wpAnyH_take (i := 5) (oi := ⟨some 53, _, _, _, _, _⟩) (v := .pointer (some ⟨gr, 0, none⟩)) rfl (by kernel_rfl) (by kernel_rfl) (by kernel_rfl) (fun _ _ _ h => h) (Or.inl ⟨by kernel_rfl, by intro WW hSw; (try dsimp only at hSw); obtain ⟨hS1, hS2, hS3⟩ := hSw; go_simp⟩) (by assumption) ?_
              (try simp only [Act.put, List.setIfInBounds_toArray, List.set_cons_zero, List.set_cons_succ])
              refine wpAnyH_take (i := 6) (oi := ⟨some 54, _, _, _, _, _⟩) (v := .pointer (some ⟨gr, 0, none⟩)) rfl (by kernel_rfl) (by kernel_rfl) (by kernel_rfl) (fun _ _ _ h => h) (Or.inl ⟨by kernel_rfl, by intro WW hSw; (try dsimp only at hSw); obtain ⟨hS1, hS2, hS3⟩ := hSw; go_simp⟩) (by assumption) ?_
              (try simp only [Act.put, List.setIfInBounds_toArray, List.set_cons_zero, List.set_cons_succ])
              refine wpAnyH_take (i := 7) (oi := ⟨some 55, _, _, _, _, _⟩) (v := .slice (some ⟨gq, 0, none⟩) m capL) rfl (by kernel_rfl) (by kernel_rfl) (by kernel_rfl) (fun _ _ _ h => h) (Or.inl ⟨by kernel_rfl, by intro WW hSw; (try dsimp only at hSw); obtain ⟨hS1, hS2, hS3⟩ := hSw; go_simp⟩) (by assumption) ?_
              (try simp only [Act.put, List.setIfInBounds_toArray, List.set_cons_zero, List.set_cons_succ])
              refine wpAnyH_take (i := 8) (oi := ⟨some 56, _, _, _, _, _⟩) (v := .int .i64 (i : Int)) rfl (by kernel_rfl) (by kernel_rfl) (by kernel_rfl) (fun _ _ _ h => h) (Or.inl ⟨by kernel_rfl, by intro WW hSw; (try dsimp only at hSw); obtain ⟨hS1, hS2, hS3⟩ := hSw; go_simp⟩) (by assumption) ?_
              (try simp only [Act.put, List.setIfInBounds_toArray, List.set_cons_zero, List.set_cons_succ])
              refine wpAnyH_take (i := 9) (oi := ⟨some 57, _, _, _, _, _⟩) (v := .pointer (some ⟨gq, i * 2, none⟩)) rfl (by kernel_rfl) (by kernel_rfl) (by kernel_rfl) (fun _ _ _ h => h) (Or.inl ⟨by kernel_rfl, by intro WW hSw; (try dsimp only at hSw); obtain ⟨hS1, hS2, hS3⟩ := hSw; go_simp⟩) (by assumption) ?_
              (try simp only [Act.put, List.setIfInBounds_toArray, List.set_cons_zero, List.set_cons_succ])
              refine wpAnyH_take (i := 10) (oi := ⟨some 58, _, _, _, _, _⟩) (v := .pointer (some ⟨gq, i * 2, none⟩)) rfl (by kernel_rfl) (by kernel_rfl) (by kernel_rfl) (fun _ _ _ h => h) (Or.inl ⟨by kernel_rfl, by intro WW hSw; (try dsimp only at hSw); obtain ⟨hS1, hS2, hS3⟩ := hSw; go_simp⟩) (by assumption) ?_
              (try simp only [Act.put, List.setIfInBounds_toArray, List.set_cons_zero, List.set_cons_succ])
              refine wpAnyH_take (i := 11) (oi := ⟨some 59, _, _, _, _, _⟩) (v := .int .u64 (x : Int)) rfl (by kernel_rfl) (by kernel_rfl) (by kernel_rfl) (fun _ _ _ h => h) (Or.inl ⟨by kernel_rfl, by intro WW hSw; (try dsimp only at hSw); obtain ⟨hS1, hS2, hS3⟩ := hSw; go_simp⟩) (by assumption) ?_
              (try simp only [Act.put, List.setIfInBounds_toArray, List.set_cons_zero, List.set_cons_succ])
              refine wpAnyH_take (i := 14) (oi := ⟨some 62, _, _, _, _, _⟩) (v := .slice (some ⟨gv, 0, none⟩) q c5) rfl (by kernel_rfl) (by kernel_rfl) (by kernel_rfl) (fun _ _ _ h => h) (Or.inl ⟨by kernel_rfl, by intro WW hSw; (try dsimp only at hSw); obtain ⟨hS1, hS2, hS3⟩ := hSw; go_simp⟩) (by assumption) ?_
              (try simp only [Act.put, List.setIfInBounds_toArray, List.set_cons_zero, List.set_cons_succ])
              refine wpAnyH_take (i := 15) (oi := ⟨some 63, _, _, _, _, _⟩) (v := .int .i64 (j : Int)) rfl (by kernel_rfl) (by kernel_rfl) (by kernel_rfl) (fun _ _ _ h => h) (Or.inl ⟨by kernel_rfl, by intro WW hSw; (try dsimp only at hSw); obtain ⟨hS1, hS2, hS3⟩ := hSw; go_simp⟩) (by assumption) ?_
              (try simp only [Act.put, List.setIfInBounds_toArray, List.set_cons_zero, List.set_cons_succ])
              refine wpAnyH_take (i := 16) (oi := ⟨some 64, _, _, _, _, _⟩) (v := .slice AX mX cX) rfl (by kernel_rfl) (by kernel_rfl) (by kernel_rfl) (fun _ _ _ h => h) (Or.inl ⟨by kernel_rfl, by intro WW hSw; (try dsimp only at hSw); obtain ⟨hS1, hS2, hS3⟩ := hSw; go_simp⟩) (by assumption) ?_
              (try simp only [Act.put, List.setIfInBounds_toArray, List.set_cons_zero, List.set_cons_succ])
              refine wpAnyH_ready (rs := [3, 12]) (by kernel_rfl) (by simp) ?_
              refine AllReadyH.cons (o := ⟨some 51, _, _, _, _, _⟩) rfl (fun K hK => ?_) (AllReadyH.cons (o := ⟨some 60, _, _, _, _, _⟩) rfl (fun K hK => ?_) AllReadyH.nil)
              · skip
                refine step_appA (by rfl) (.const (.slice none 0 0)) (.tmp 50) (by rfl) W9.heap.size _ _ _ (by rfl) (World.ownsRow_nil _ _ _ _) _ _ (by rfl) ((HCUT.out _ L0).1) (HY1.out) (by have hyl := HYL.out; have hxl := HXL.out; first | omega | (simp; omega)) (L0.size) ?_
                intro va wa oa ga
                have La : Below W9.heap.size W9 wa := L0.grown ga L0.size (fun q hq => by cases hq)
                refine hK.out _ _ (STAY.out _ La) (fun hHeld => ?_)
                clear hK K
                (try simp only [Act.put, List.setIfInBounds_toArray, List.set_cons_zero, List.set_cons_succ])
                refine wpAnyH_ready (rs := [12]) (by kernel_rfl) (by simp) ?_
                refine AllReadyH.cons (o := ⟨some 60, _, _, _, _, _⟩) rfl (fun K hK => ?_) AllReadyH.nil
                go_simp
                obtain ⟨wb, hwb⟩ : ∃ wb, wb = wa.alloc (.cells #[.int .u64 (x : Int)] 34) := ⟨_, rfl⟩
                have rb : Row wb wa.heap.size 34 #[.int .u64 (x : Int)] := by rw [hwb]; exact Row.new wa _ _
                have Lb : Below W9.heap.size W9 wb := by rw [hwb]; exact Below.and La (alloc_below _ (.cells #[.int .u64 (x : Int)] 34))
                rw [← hwb]
                refine hK.out _ _ (STAY.out _ Lb) (fun hHeld => ?_)
                clear hK K
                (try simp only [Act.put, List.setIfInBounds_toArray, List.set_cons_zero, List.set_cons_succ])
                refine wpAnyH_ready (rs := [13]) (by kernel_rfl) (by simp) ?_
                refine AllReadyH.cons (o := ⟨some 61, _, _, _, _, _⟩) rfl (fun K hK => ?_) AllReadyH.nil
                refine step_appA (by rfl) (.tmp 51) (.tmp 60) (by rfl) W9.heap.size _ _ _ (by rfl) (own_lowA oa (by rw [hwb]; exact alloc_below _ _)) _ _ (by rfl) ((.inr ⟨⟨wa.heap.size, 0, none⟩, 1, rfl, fun q u hu => by rw [Addr.add_lit, Nat.zero_add, Row.cell rb]; simpa using hu⟩ : RdsA _ _ [.int .u64 (x : Int)])) (by intro u hu; simp at hu; subst hu; rfl) (by have hyl := HYL.out; have hxl := HXL.out; first | omega | (simp; omega)) (Lb.size) ?_
                intro vc wc oc gc
                have Lc : Below W9.heap.size W9 wc := Lb.grown gc Lb.size (fun q hq => (own_fromA oa q hq).1)
                refine hK.out _ _ (STAY.out _ Lc) (fun hHeld => ?_)
                clear hK K
                (try simp only [Act.put, List.setIfInBounds_toArray, List.set_cons_zero, List.set_cons_succ])
                refine wpAnyH_ready (rs := [17]) (by kernel_rfl) (by simp) ?_
                refine AllReadyH.cons (o := ⟨some 65, _, _, _, _, _⟩) rfl (fun K hK => ?_) AllReadyH.nil
                refine step_appA (by rfl) (.tmp 61) (.tmp 64) (by rfl) W9.heap.size _ _ _ (by rfl) (oc) _ _ (by rfl) ((HCUT.out _ Lc).2) (HX1.out) (by have hyl := HYL.out; have hxl := HXL.out; first | omega | (simp; omega)) (Lc.size) ?_
                intro vd wd od gd
                have Ld : Below W9.heap.size W9 wd := Lc.grown gd Lc.size (fun q hq => (own_fromA oc q hq).1)
                refine hK.out _ _ (STAY.out _ Ld) (fun hHeld => ?_)
                clear hK K
                (try simp only [Act.put, List.setIfInBounds_toArray, List.set_cons_zero, List.set_cons_succ])
                refine wpAnyH_take (i := 18) (oi := ⟨some 5, _, _, _, _, _⟩) (v := vd) rfl (by kernel_rfl) (by kernel_rfl) (by kernel_rfl) (fun _ _ _ h => h) (Or.inl ⟨by kernel_rfl, by intro WW hSw; (try dsimp only at hSw); go_simp⟩) (by assumption) ?_
                (try simp only [Act.put, List.setIfInBounds_toArray, List.set_cons_zero, List.set_cons_succ])
                refine wpAnyH_done (by kernel_rfl) ?_ _
                go_wp2_with fail
                refine (‹∀ (a : Act) (w : World), Code.wp Try.prog (Code.region 4 _ false) _ a w → _›) _ _ ?_
                go_wp2_with fail
                refine ⟨⟨_, i + 1, rfl, by omega, by go_num, ?_, HB9.out.trans (Ld.mono hs9)⟩, by simp [intOf]; omega⟩
                have ho := own_monoA od hs9
                simp only [List.nil_append, List.length_cons, List.length_nil, Nat.zero_add, HYL.out, HXL.out] at ho
                exact HFIN.out _ _ ho
              · skip
                go_simp
                obtain ⟨wb, hwb⟩ : ∃ wb, wb = (W9.alloc (.cells #[.int .u64 (x : Int)] 34)).drew := ⟨_, rfl⟩
                have rb : Row wb W9.heap.size 34 #[.int .u64 (x : Int)] := by rw [hwb]; exact Row.new W9 _ _
                have Lb : Below W9.heap.size W9 wb := by rw [hwb]; exact Below.and L0 (alloc_below _ (.cells #[.int .u64 (x : Int)] 34))
                rw [← hwb]
                refine hK.out _ _ (STAY.out _ Lb) (fun hHeld => ?_)
                clear hK K
                (try simp only [Act.put, List.setIfInBounds_toArray, List.set_cons_zero, List.set_cons_succ])
                refine wpAnyH_ready (rs := [3]) (by kernel_rfl) (by simp) ?_
                refine AllReadyH.cons (o := ⟨some 51, _, _, _, _, _⟩) rfl (fun K hK => ?_) AllReadyH.nil
                refine step_appA (by rfl) (.const (.slice none 0 0)) (.tmp 50) (by rfl) W9.heap.size _ _ _ (by rfl) (World.ownsRow_nil _ _ _ _) _ _ (by rfl) ((HCUT.out _ Lb).1) (HY1.out) (by have hyl := HYL.out; have hxl := HXL.out; first | omega | (simp; omega)) (Lb.size) ?_
                intro va wa oa ga
                have La : Below W9.heap.size W9 wa := Lb.grown ga Lb.size (fun q hq => by cases hq)
                refine hK.out _ _ (STAY.out _ La) (fun hHeld => ?_)
                clear hK K
                (try simp only [Act.put, List.setIfInBounds_toArray, List.set_cons_zero, List.set_cons_succ])
                have ra : Row wa W9.heap.size 34 #[.int .u64 (x : Int)] := rb.grown ga (by intro e; cases e)
                refine wpAnyH_ready (rs := [13]) (by kernel_rfl) (by simp) ?_
                refine AllReadyH.cons (o := ⟨some 61, _, _, _, _, _⟩) rfl (fun K hK => ?_) AllReadyH.nil
                refine step_appA (by rfl) (.tmp 51) (.tmp 60) (by rfl) W9.heap.size _ _ _ (by rfl) (oa) _ _ (by rfl) ((.inr ⟨⟨W9.heap.size, 0, none⟩, 1, rfl, fun q u hu => by rw [Addr.add_lit, Nat.zero_add, Row.cell ra]; simpa using hu⟩ : RdsA _ _ [.int .u64 (x : Int)])) (by intro u hu; simp at hu; subst hu; rfl) (by have hyl := HYL.out; have hxl := HXL.out; first | omega | (simp; omega)) (La.size) ?_
                intro vc wc oc gc
                have Lc : Below W9.heap.size W9 wc := La.grown gc La.size (fun q hq => (own_fromA oa q hq).1)
                refine hK.out _ _ (STAY.out _ Lc) (fun hHeld => ?_)
                clear hK K
                (try simp only [Act.put, List.setIfInBounds_toArray, List.set_cons_zero, List.set_cons_succ])
                refine wpAnyH_ready (rs := [17]) (by kernel_rfl) (by simp) ?_
                refine AllReadyH.cons (o := ⟨some 65, _, _, _, _, _⟩) rfl (fun K hK => ?_) AllReadyH.nil
                refine step_appA (by rfl) (.tmp 61) (.tmp 64) (by rfl) W9.heap.size _ _ _ (by rfl) (oc) _ _ (by rfl) ((HCUT.out _ Lc).2) (HX1.out) (by have hyl := HYL.out; have hxl := HXL.out; first | omega | (simp; omega)) (Lc.size) ?_
                intro vd wd od gd
                have Ld : Below W9.heap.size W9 wd := Lc.grown gd Lc.size (fun q hq => (own_fromA oc q hq).1)
                refine hK.out _ _ (STAY.out _ Ld) (fun hHeld => ?_)
                clear hK K
                (try simp only [Act.put, List.setIfInBounds_toArray, List.set_cons_zero, List.set_cons_succ])
                refine wpAnyH_take (i := 18) (oi := ⟨some 5, _, _, _, _, _⟩) (v := vd) rfl (by kernel_rfl) (by kernel_rfl) (by kernel_rfl) (fun _ _ _ h => h) (Or.inl ⟨by kernel_rfl, by intro WW hSw; (try dsimp only at hSw); go_simp⟩) (by assumption) ?_
                (try simp only [Act.put, List.setIfInBounds_toArray, List.set_cons_zero, List.set_cons_succ])
                refine wpAnyH_done (by kernel_rfl) ?_ _
                go_wp2_with fail
                refine (‹∀ (a : Act) (w : World), Code.wp Try.prog (Code.region 4 _ false) _ a w → _›) _ _ ?_
                go_wp2_with fail
                refine ⟨⟨_, i + 1, rfl, by omega, by go_num, ?_, HB9.out.trans (Ld.mono hs9)⟩, by simp [intOf]; omega⟩
                have ho := own_monoA od hs9
                simp only [List.nil_append, List.length_cons, List.length_nil, Nat.zero_add, HYL.out, HXL.out] at ho
                exact HFIN.out _ _ ho
          · have d3 : ¬ ((j : Int) < (q : Int)) := by omega
            have d5 : decide ((j : Int) < (q : Int)) = false := by simpa using d3
            have HSTOP := Lib.hid (show j = q ∨ ¬ o.getD j 0 < x from .inl (by omega))
            clear hbx
            go_wp2_with fail
            go_quiet (fail)
            go_wp2_with fail
            obtain ⟨W9, hW9⟩ : ∃ W9, W9 = wx.drewN nq := ⟨_, rfl⟩
            rw [← hW9]
            have hb9 : Below wr.heap.size wr W9 := by rw [hW9]; exact HBX.out.trans ((drewN_below _ _).mono HBX.out.size)
            have c09 := HC0.out W9 (HB.out.trans (hb9.mono hsz))
            have q09 := (hb9.cell (wr.block_lt_of_cell? _ q0)).trans q0
            have HO9 := Lib.hid (own_keep HO.out hb9)
            have HB9 := Lib.hid (HB.out.trans (hb9.mono hsz))
            have hs9 := HB9.out.size
            have STAY := Lib.hid fun W' (hb : Below W9.heap.size W9 W') => (show W'.cell? ⟨gr, 0, none⟩ = some (.slice (some ⟨gq, 0, none⟩) m capL) ∧ W'.cell? ⟨gq, i * 2, none⟩ = some (.int .u64 (x : Int)) ∧ Below W9.heap.size W9 W' from ⟨(hb.cell (W9.block_lt_of_cell? _ c09)).trans c09, (hb.cell (W9.block_lt_of_cell? _ q09)).trans q09, hb⟩)
            obtain ⟨AY, mY, cY, AX, mX, cX, hx1, hx2, hcut⟩ := own_cut HO9.out hj
            obtain ⟨ys, hys⟩ : ∃ ys, ys = (o.map wv).take j := ⟨_, rfl⟩
            obtain ⟨zs, hzs⟩ : ∃ zs, zs = (o.map wv).drop j := ⟨_, rfl⟩
            rw [← hys, ← hzs] at hcut
            have HCUT := Lib.hid hcut
            have HYL := Lib.hid (show ys.length = j by rw [hys, List.length_take, List.length_map, ← HQ.out]; omega)
            have HXL := Lib.hid (show zs.length = q - j by rw [hzs, List.length_drop, List.length_map, ← HQ.out])
            have HY1 := Lib.hid (show ∀ u ∈ ys, u.oneCell' = true from fun u hu => wv_one o u (by rw [hys] at hu; exact List.mem_of_mem_take hu))
            have HX1 := Lib.hid (show ∀ u ∈ zs, u.oneCell' = true from fun u hu => wv_one o u (by rw [hzs] at hu; exact List.mem_of_mem_drop hu))
            have HFIN := Lib.hid (fun (V : Value) (W : World) (h : W.ownsRow w.heap.size 34 1 V (j + 1 + (q - j)) (ys ++ [.int .u64 (x : Int)] ++ zs)) => (show W.ownsRow w.heap.size 34 1 V (heldL (l.take (i + 1)) y).length ((heldL (l.take (i + 1)) y).map wv) by
              have e := insN_at (o := o) (x := x) (j := j) (by rw [← HQ.out]; exact hj) HBF.out (by rw [← HQ.out]; exact HSTOP.out)
              rw [HNY.out, insN_len, ← HQ.out, e, List.map_append, List.map_append, List.map_take, List.map_drop, ← hys, ← hzs, show q + 1 = j + 1 + (q - j) by omega]
              exact h))
            have hjb : j ≤ 1000 := by omega
            have hqb : q ≤ 1000 := by omega
            clear hW9 hb9 hcut hys hzs c0x q0x c0 q0 q1
            refine wp_region_noPanic ?_
            refine wp_region_held_drew (S := fun W' => W'.cell? ⟨gr, 0, none⟩ = some (.slice (some ⟨gq, 0, none⟩) m capL) ∧ W'.cell? ⟨gq, i * 2, none⟩ = some (.int .u64 (x : Int)) ∧ Below W9.heap.size W9 W') (by kernel_rfl) (STAY.out _ (drew_below _)) (fun hHeld => ?_)
            have L0 : Below W9.heap.size W9 W9.drew := drew_below _
            refine wpAnyH_take (i := 0) (oi := ⟨some 48, _, _, _, _, _⟩) (v := .slice A5 q c5) rfl (by kernel_rfl) (by kernel_rfl) (by kernel_rfl) (fun _ _ _ h => h) (Or.inl ⟨by kernel_rfl, by intro WW hSw; (try dsimp only at hSw); obtain ⟨hS1, hS2, hS3⟩ := hSw; go_simp⟩) (by assumption) ?_
            (try simp only [Act.put, List.setIfInBounds_toArray, List.set_cons_zero, List.set_cons_succ])
            refine wpAnyH_take (i := 1) (oi := ⟨some 49, _, _, _, _, _⟩) (v := .int .i64 (j : Int)) rfl (by kernel_rfl) (by kernel_rfl) (by kernel_rfl) (fun _ _ _ h => h) (Or.inl ⟨by kernel_rfl, by intro WW hSw; (try dsimp only at hSw); obtain ⟨hS1, hS2, hS3⟩ := hSw; go_simp⟩) (by assumption) ?_
            (try simp only [Act.put, List.setIfInBounds_toArray, List.set_cons_zero, List.set_cons_succ])
            refine wpAnyH_take (i := 2) (oi := ⟨some 50, _, _, _, _, _⟩) (v := .slice AY mY cY) rfl (by kernel_rfl) (by kernel_rfl) (by kernel_rfl) (fun _ _ _ h => h) (Or.inl ⟨by kernel_rfl, by intro WW hSw; (try dsimp only at hSw); obtain ⟨hS1, hS2, hS3⟩ := hSw; go_simp⟩) (by assumption) ?_
            (try simp only [Act.put, List.setIfInBounds_toArray, List.set_cons_zero, List.set_cons_succ])
            refine wpAnyH_take (i := 4) (oi := ⟨some 52, _, _, _, _, _⟩) (v := .pointer (some ⟨gr, 0, none⟩)) rfl (by kernel_rfl) (by kernel_rfl) (by kernel_rfl) (fun _ _ _ h => h) (Or.inl ⟨by kernel_rfl, by intro WW hSw; (try dsimp only at hSw); obtain ⟨hS1, hS2, hS3⟩ := hSw; go_simp⟩) (by assumption) ?_
            (try simp only [Act.put, List.setIfInBounds_toArray, List.set_cons_zero, List.set_cons_succ])
            refine wpAnyH_take (i := 5) (oi := ⟨some 53, _, _, _, _, _⟩) (v := .pointer (some ⟨gr, 0, none⟩)) rfl (by kernel_rfl) (by kernel_rfl) (by kernel_rfl) (fun _ _ _ h => h) (Or.inl ⟨by kernel_rfl, by intro WW hSw; (try dsimp only at hSw); obtain ⟨hS1, hS2, hS3⟩ := hSw; go_simp⟩) (by assumption) ?_
            (try simp only [Act.put, List.setIfInBounds_toArray, List.set_cons_zero, List.set_cons_succ])
            refine wpAnyH_take (i := 6) (oi := ⟨some 54, _, _, _, _, _⟩) (v := .pointer (some ⟨gr, 0, none⟩)) rfl (by kernel_rfl) (by kernel_rfl) (by kernel_rfl) (fun _ _ _ h => h) (Or.inl ⟨by kernel_rfl, by intro WW hSw; (try dsimp only at hSw); obtain ⟨hS1, hS2, hS3⟩ := hSw; go_simp⟩) (by assumption) ?_
            (try simp only [Act.put, List.setIfInBounds_toArray, List.set_cons_zero, List.set_cons_succ])
            refine wpAnyH_take (i := 7) (oi := ⟨some 55, _, _, _, _, _⟩) (v := .slice (some ⟨gq, 0, none⟩) m capL) rfl (by kernel_rfl) (by kernel_rfl) (by kernel_rfl) (fun _ _ _ h => h) (Or.inl ⟨by kernel_rfl, by intro WW hSw; (try dsimp only at hSw); obtain ⟨hS1, hS2, hS3⟩ := hSw; go_simp⟩) (by assumption) ?_
            (try simp only [Act.put, List.setIfInBounds_toArray, List.set_cons_zero, List.set_cons_succ])
            refine wpAnyH_take (i := 8) (oi := ⟨some 56, _, _, _, _, _⟩) (v := .int .i64 (i : Int)) rfl (by kernel_rfl) (by kernel_rfl) (by kernel_rfl) (fun _ _ _ h => h) (Or.inl ⟨by kernel_rfl, by intro WW hSw; (try dsimp only at hSw); obtain ⟨hS1, hS2, hS3⟩ := hSw; go_simp⟩) (by assumption) ?_
            (try simp only [Act.put, List.setIfInBounds_toArray, List.set_cons_zero, List.set_cons_succ])
            refine wpAnyH_take (i := 9) (oi := ⟨some 57, _, _, _, _, _⟩) (v := .pointer (some ⟨gq, i * 2, none⟩)) rfl (by kernel_rfl) (by kernel_rfl) (by kernel_rfl) (fun _ _ _ h => h) (Or.inl ⟨by kernel_rfl, by intro WW hSw; (try dsimp only at hSw); obtain ⟨hS1, hS2, hS3⟩ := hSw; go_simp⟩) (by assumption) ?_
            (try simp only [Act.put, List.setIfInBounds_toArray, List.set_cons_zero, List.set_cons_succ])
            refine wpAnyH_take (i := 10) (oi := ⟨some 58, _, _, _, _, _⟩) (v := .pointer (some ⟨gq, i * 2, none⟩)) rfl (by kernel_rfl) (by kernel_rfl) (by kernel_rfl) (fun _ _ _ h => h) (Or.inl ⟨by kernel_rfl, by intro WW hSw; (try dsimp only at hSw); obtain ⟨hS1, hS2, hS3⟩ := hSw; go_simp⟩) (by assumption) ?_
            (try simp only [Act.put, List.setIfInBounds_toArray, List.set_cons_zero, List.set_cons_succ])
            refine wpAnyH_take (i := 11) (oi := ⟨some 59, _, _, _, _, _⟩) (v := .int .u64 (x : Int)) rfl (by kernel_rfl) (by kernel_rfl) (by kernel_rfl) (fun _ _ _ h => h) (Or.inl ⟨by kernel_rfl, by intro WW hSw; (try dsimp only at hSw); obtain ⟨hS1, hS2, hS3⟩ := hSw; go_simp⟩) (by assumption) ?_
            (try simp only [Act.put, List.setIfInBounds_toArray, List.set_cons_zero, List.set_cons_succ])
            refine wpAnyH_take (i := 14) (oi := ⟨some 62, _, _, _, _, _⟩) (v := .slice A5 q c5) rfl (by kernel_rfl) (by kernel_rfl) (by kernel_rfl) (fun _ _ _ h => h) (Or.inl ⟨by kernel_rfl, by intro WW hSw; (try dsimp only at hSw); obtain ⟨hS1, hS2, hS3⟩ := hSw; go_simp⟩) (by assumption) ?_
            (try simp only [Act.put, List.setIfInBounds_toArray, List.set_cons_zero, List.set_cons_succ])
            refine wpAnyH_take (i := 15) (oi := ⟨some 63, _, _, _, _, _⟩) (v := .int .i64 (j : Int)) rfl (by kernel_rfl) (by kernel_rfl) (by kernel_rfl) (fun _ _ _ h => h) (Or.inl ⟨by kernel_rfl, by intro WW hSw; (try dsimp only at hSw); obtain ⟨hS1, hS2, hS3⟩ := hSw; go_simp⟩) (by assumption) ?_
            (try simp only [Act.put, List.setIfInBounds_toArray, List.set_cons_zero, List.set_cons_succ])
            refine wpAnyH_take (i := 16) (oi := ⟨some 64, _, _, _, _, _⟩) (v := .slice AX mX cX) rfl (by kernel_rfl) (by kernel_rfl) (by kernel_rfl) (fun _ _ _ h => h) (Or.inl ⟨by kernel_rfl, by intro WW hSw; (try dsimp only at hSw); obtain ⟨hS1, hS2, hS3⟩ := hSw; go_simp⟩) (by assumption) ?_
            (try simp only [Act.put, List.setIfInBounds_toArray, List.set_cons_zero, List.set_cons_succ])
            refine wpAnyH_ready (rs := [3, 12]) (by kernel_rfl) (by simp) ?_
            refine AllReadyH.cons (o := ⟨some 51, _, _, _, _, _⟩) rfl (fun K hK => ?_) (AllReadyH.cons (o := ⟨some 60, _, _, _, _, _⟩) rfl (fun K hK => ?_) AllReadyH.nil)
            · skip
              refine step_appA (by rfl) (.const (.slice none 0 0)) (.tmp 50) (by rfl) W9.heap.size _ _ _ (by rfl) (World.ownsRow_nil _ _ _ _) _ _ (by rfl) ((HCUT.out _ L0).1) (HY1.out) (by have hyl := HYL.out; have hxl := HXL.out; first | omega | (simp; omega)) (L0.size) ?_
              intro va wa oa ga
              have La : Below W9.heap.size W9 wa := L0.grown ga L0.size (fun q hq => by cases hq)
              refine hK.out _ _ (STAY.out _ La) (fun hHeld => ?_)
              clear hK K
              (try simp only [Act.put, List.setIfInBounds_toArray, List.set_cons_zero, List.set_cons_succ])
              refine wpAnyH_ready (rs := [12]) (by kernel_rfl) (by simp) ?_
              refine AllReadyH.cons (o := ⟨some 60, _, _, _, _, _⟩) rfl (fun K hK => ?_) AllReadyH.nil
              go_simp
              obtain ⟨wb, hwb⟩ : ∃ wb, wb = wa.alloc (.cells #[.int .u64 (x : Int)] 34) := ⟨_, rfl⟩
              have rb : Row wb wa.heap.size 34 #[.int .u64 (x : Int)] := by rw [hwb]; exact Row.new wa _ _
              have Lb : Below W9.heap.size W9 wb := by rw [hwb]; exact Below.and La (alloc_below _ (.cells #[.int .u64 (x : Int)] 34))
              rw [← hwb]
              refine hK.out _ _ (STAY.out _ Lb) (fun hHeld => ?_)
              clear hK K
              (try simp only [Act.put, List.setIfInBounds_toArray, List.set_cons_zero, List.set_cons_succ])
              refine wpAnyH_ready (rs := [13]) (by kernel_rfl) (by simp) ?_
              refine AllReadyH.cons (o := ⟨some 61, _, _, _, _, _⟩) rfl (fun K hK => ?_) AllReadyH.nil
              refine step_appA (by rfl) (.tmp 51) (.tmp 60) (by rfl) W9.heap.size _ _ _ (by rfl) (own_lowA oa (by rw [hwb]; exact alloc_below _ _)) _ _ (by rfl) ((.inr ⟨⟨wa.heap.size, 0, none⟩, 1, rfl, fun q u hu => by rw [Addr.add_lit, Nat.zero_add, Row.cell rb]; simpa using hu⟩ : RdsA _ _ [.int .u64 (x : Int)])) (by intro u hu; simp at hu; subst hu; rfl) (by have hyl := HYL.out; have hxl := HXL.out; first | omega | (simp; omega)) (Lb.size) ?_
              intro vc wc oc gc
              have Lc : Below W9.heap.size W9 wc := Lb.grown gc Lb.size (fun q hq => (own_fromA oa q hq).1)
              refine hK.out _ _ (STAY.out _ Lc) (fun hHeld => ?_)
              clear hK K
              (try simp only [Act.put, List.setIfInBounds_toArray, List.set_cons_zero, List.set_cons_succ])
              refine wpAnyH_ready (rs := [17]) (by kernel_rfl) (by simp) ?_
              refine AllReadyH.cons (o := ⟨some 65, _, _, _, _, _⟩) rfl (fun K hK => ?_) AllReadyH.nil
              refine step_appA (by rfl) (.tmp 61) (.tmp 64) (by rfl) W9.heap.size _ _ _ (by rfl) (oc) _ _ (by rfl) ((HCUT.out _ Lc).2) (HX1.out) (by have hyl := HYL.out; have hxl := HXL.out; first | omega | (simp; omega)) (Lc.size) ?_
              intro vd wd od gd
              have Ld : Below W9.heap.size W9 wd := Lc.grown gd Lc.size (fun q hq => (own_fromA oc q hq).1)
              refine hK.out _ _ (STAY.out _ Ld) (fun hHeld => ?_)
              clear hK K
              (try simp only [Act.put, List.setIfInBounds_toArray, List.set_cons_zero, List.set_cons_succ])
              refine wpAnyH_take (i := 18) (oi := ⟨some 5, _, _, _, _, _⟩) (v := vd) rfl (by kernel_rfl) (by kernel_rfl) (by kernel_rfl) (fun _ _ _ h => h) (Or.inl ⟨by kernel_rfl, by intro WW hSw; (try dsimp only at hSw); go_simp⟩) (by assumption) ?_
              (try simp only [Act.put, List.setIfInBounds_toArray, List.set_cons_zero, List.set_cons_succ])
              refine wpAnyH_done (by kernel_rfl) ?_ _
              go_wp2_with fail
              refine (‹∀ (a : Act) (w : World), Code.wp Try.prog (Code.region 4 _ false) _ a w → _›) _ _ ?_
              go_wp2_with fail
              refine ⟨⟨_, i + 1, rfl, by omega, by go_num, ?_, HB9.out.trans (Ld.mono hs9)⟩, by simp [intOf]; omega⟩
              have ho := own_monoA od hs9
              simp only [List.nil_append, List.length_cons, List.length_nil, Nat.zero_add, HYL.out, HXL.out] at ho
              exact HFIN.out _ _ ho
            · skip
              go_simp
              obtain ⟨wb, hwb⟩ : ∃ wb, wb = (W9.alloc (.cells #[.int .u64 (x : Int)] 34)).drew := ⟨_, rfl⟩
              have rb : Row wb W9.heap.size 34 #[.int .u64 (x : Int)] := by rw [hwb]; exact Row.new W9 _ _
              have Lb : Below W9.heap.size W9 wb := by rw [hwb]; exact Below.and L0 (alloc_below _ (.cells #[.int .u64 (x : Int)] 34))
              rw [← hwb]
              refine hK.out _ _ (STAY.out _ Lb) (fun hHeld => ?_)
              clear hK K
              (try simp only [Act.put, List.setIfInBounds_toArray, List.set_cons_zero, List.set_cons_succ])
              refine wpAnyH_ready (rs := [3]) (by kernel_rfl) (by simp) ?_
              refine AllReadyH.cons (o := ⟨some 51, _, _, _, _, _⟩) rfl (fun K hK => ?_) AllReadyH.nil
              refine step_appA (by rfl) (.const (.slice none 0 0)) (.tmp 50) (by rfl) W9.heap.size _ _ _ (by rfl) (World.ownsRow_nil _ _ _ _) _ _ (by rfl) ((HCUT.out _ Lb).1) (HY1.out) (by have hyl := HYL.out; have hxl := HXL.out; first | omega | (simp; omega)) (Lb.size) ?_
              intro va wa oa ga
              have La : Below W9.heap.size W9 wa := Lb.grown ga Lb.size (fun q hq => by cases hq)
              refine hK.out _ _ (STAY.out _ La) (fun hHeld => ?_)
              clear hK K
              (try simp only [Act.put, List.setIfInBounds_toArray, List.set_cons_zero, List.set_cons_succ])
              have ra : Row wa W9.heap.size 34 #[.int .u64 (x : Int)] := rb.grown ga (by intro e; cases e)
              refine wpAnyH_ready (rs := [13]) (by kernel_rfl) (by simp) ?_
              refine AllReadyH.cons (o := ⟨some 61, _, _, _, _, _⟩) rfl (fun K hK => ?_) AllReadyH.nil
              refine step_appA (by rfl) (.tmp 51) (.tmp 60) (by rfl) W9.heap.size _ _ _ (by rfl) (oa) _ _ (by rfl) ((.inr ⟨⟨W9.heap.size, 0, none⟩, 1, rfl, fun q u hu => by rw [Addr.add_lit, Nat.zero_add, Row.cell ra]; simpa using hu⟩ : RdsA _ _ [.int .u64 (x : Int)])) (by intro u hu; simp at hu; subst hu; rfl) (by have hyl := HYL.out; have hxl := HXL.out; first | omega | (simp; omega)) (La.size) ?_
              intro vc wc oc gc
              have Lc : Below W9.heap.size W9 wc := La.grown gc La.size (fun q hq => (own_fromA oa q hq).1)
              refine hK.out _ _ (STAY.out _ Lc) (fun hHeld => ?_)
              clear hK K
              (try simp only [Act.put, List.setIfInBounds_toArray, List.set_cons_zero, List.set_cons_succ])
              refine wpAnyH_ready (rs := [17]) (by kernel_rfl) (by simp) ?_
              refine AllReadyH.cons (o := ⟨some 65, _, _, _, _, _⟩) rfl (fun K hK => ?_) AllReadyH.nil
              refine step_appA (by rfl) (.tmp 61) (.tmp 64) (by rfl) W9.heap.size _ _ _ (by rfl) (oc) _ _ (by rfl) ((HCUT.out _ Lc).2) (HX1.out) (by have hyl := HYL.out; have hxl := HXL.out; first | omega | (simp; omega)) (Lc.size) ?_
              intro vd wd od gd
              have Ld : Below W9.heap.size W9 wd := Lc.grown gd Lc.size (fun q hq => (own_fromA oc q hq).1)
              refine hK.out _ _ (STAY.out _ Ld) (fun hHeld => ?_)
              clear hK K
              (try simp only [Act.put, List.setIfInBounds_toArray, List.set_cons_zero, List.set_cons_succ])
              refine wpAnyH_take (i := 18) (oi := ⟨some 5, _, _, _, _, _⟩) (v := vd) rfl (by kernel_rfl) (by kernel_rfl) (by kernel_rfl) (fun _ _ _ h => h) (Or.inl ⟨by kernel_rfl, by intro WW hSw; (try dsimp only at hSw); go_simp⟩) (by assumption) ?_
              (try simp only [Act.put, List.setIfInBounds_toArray, List.set_cons_zero, List.set_cons_succ])
              refine wpAnyH_done (by kernel_rfl) ?_ _
              go_wp2_with fail
              refine (‹∀ (a : Act) (w : World), Code.wp Try.prog (Code.region 4 _ false) _ a w → _›) _ _ ?_
              go_wp2_with fail
              refine ⟨⟨_, i + 1, rfl, by omega, by go_num, ?_, HB9.out.trans (Ld.mono hs9)⟩, by simp [intOf]; omega⟩
              have ho := own_monoA od hs9
              simp only [List.nil_append, List.length_cons, List.length_nil, Nat.zero_add, HYL.out, HXL.out] at ho
              exact HFIN.out _ _ ho
      · have hyb : ((y : Int) != (c : Int)) = true := by simp; omega
        have HNX := Lib.hid (show heldL (l.take (i + 1)) c = o by rw [HNX.out, if_neg hy])
        go_wp2
        exact ⟨⟨_, i + 1, rfl, by omega, by go_num, by rw [HNX.out]; exact HO.out, HB.out⟩, by simp [intOf]; omega⟩
    · obtain rfl : i = m := by omega
      rw [HE.out] at ho
      clear hlt hol
      go_wp2
      go_ret
      exact ⟨_, rfl, ho, HB.out⟩
end Go.Proofs.Ytgclbeagifoifaa
