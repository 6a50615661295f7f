/- Texts of this claim, packed: ArR, ArR0. -/
import Derived.Test.YtkbklooocdfcfaaGreatDoorPz19
import Derived.Test.YtkbklooocdfcfaaGreatDoorPz24
import Derived.Laws.AppendOwnNone
import Derived.Deep.QuietTactic
import Derived.Deep.DeepCutAuto
import Derived.Deep.CutBlock
/- The document's Rising, of keys that rise already: the same keys; conditions: they are few. -/
namespace Go.Proofs.YtkbklooocdfcfaaGreatDoor
open Go.RowKit
set_option linter.unusedVariables false
theorem infoU64 : (Tryz.prog.info? 29).map (fun i => (i.zero, i.size, i.bytes)) = some (some (.int .u64 0), 1, 8) := by kernel_rfl
/-- A slice that reads as a list, wherever it lies. -/
def RdsW (w : World) (X : Value) (news : List Value) : Prop := (X = .slice none 0 0 ∧ news = []) ∨ ∃ ad c, X = .slice (some ad) news.length c ∧ ∀ j u, news[j]? = some u → w.cell? (ad.add j) = some u
/-- Words are appended to a slice of one's own, in a region that draws its order. -/
theorem step_appW {ops : Array Oper} {o : Oper} {a : Act} {w : World} {K : Act → World → Prop} {Q : Exit → Act → World → Prop} {E : Prop} (hw : Region.wanted o (yielded ops a.tmps) = true) (s x : Operand)
    (ho : o.op = .call { callee := .builtin .append, args := #[s, x], argTypes := #[38, 38] }) (B : Nat) (V : Value) (n : Nat) (xs : List Value) (hs : a.eval s = V) (hown : w.ownsRow B 29 1 V n xs) (X : Value) (news : List Value) (hx : a.eval x = X) (hrd : RdsW w X news) (h1 : ∀ u ∈ news, u.oneCell' = true) (hn : n + news.length ≤ 1000000) (hB : B ≤ w.heap.size)
    (h : ∀ v' w', w'.ownsRow B 29 1 v' (n + news.length) (xs ++ news) → w.grownBy w' V.ownBlock → K (a.put o.dst v') w') : if Region.wanted o (yielded ops a.tmps) = true then Oper.wp Tryz.prog o a w K Q else E := by
  rw [if_pos hw]
  obtain ⟨i0, hi, hz0, hz1, hz2⟩ := info_parts infoU64
  rcases hrd with ⟨rfl, rfl⟩ | ⟨ad, c, rfl, hc⟩
  · have hrun := run_append_owned_none (P := Tryz.prog) (w := w) B 38 o.type 29 i0 1 Tryz.underlying38 hi V n xs hown
    unfold Oper.wp execOp
    simp only [ho, resolve, invoke, builtin, Sem.run_bind, Sem.run_pure, Result.andThen_ok, List.map_toArray, List.map_cons, List.map_nil, hs, hx, hrun]
    exact h V w (by simpa using hown) ⟨rfl, rfl, rfl, Nat.le_refl _, fun _ _ _ => rfl⟩
  · obtain ⟨v', w', hr, h2, h3, _⟩ := run_append_own_at (P := Tryz.prog) w B 38 o.type 29 i0 (.int .u64 0) 1 8 Tryz.underlying38 hi hz0 hz1 hz2 rfl (by decide) V n xs hown ad news.length c news (by omega) hc h1 (by unfold maxLen; omega) (by omega) hB
    unfold Oper.wp execOp
    simp only [ho, resolve, invoke, builtin, Sem.run_bind, Sem.run_pure, Result.andThen_ok, List.map_toArray, List.map_cons, List.map_nil, hs, hx, hr]
    exact h v' w' h2 h3
theorem size_W (w : World) : (sizeOf (Tryz.prog.elem 38)).run Tryz.prog w = .ok 1 w := by kernel_rfl
theorem under_W : Tryz.prog.underlying 38 = some (.slice (Tryz.prog.elem 38)) := by kernel_rfl
theorem own_slices {w : World} {B n : Nat} {V : Value} {xs : List Value} (h : w.ownsRow B 29 1 V n xs) : ∃ X, (∀ W, (Instr.slice 38 V none (some (.int .i64 (n : Int))) none).run Tryz.prog W = .ok V W) ∧ (∀ W, (Instr.slice 38 V (some (.int .i64 (n : Int))) none none).run Tryz.prog W = .ok X W) ∧ (∀ W, RdsW W X []) ∧ (∃ A m c, X = .slice A m c) := by
  rcases h.2 with ⟨rfl, rfl⟩ | ⟨g, cap, cur, rfl, _, _, hc, hm, _⟩
  · refine ⟨.slice none 0 0, fun W => ?_, fun W => ?_, fun W => .inl ⟨rfl, rfl⟩, _, _, _, rfl⟩
    · have := run_slice_h (P := Tryz.prog) (w := W) 38 none 0 0 under_W .i64 0 (by omega) (by omega)
      rw [size_W] at this
      refine Eq.trans this ?_
      simp [Result.andThen, sliced]
    · have := run_slice_l (P := Tryz.prog) (w := W) 38 none 0 0 under_W .i64 0 (by omega) (by omega)
      rw [size_W] at this
      refine Eq.trans this ?_
      simp [Result.andThen, sliced]
  · unfold maxLen at hm
    refine ⟨.slice (some (if cap = n then ⟨g, 0, none⟩ else (⟨g, 0, none⟩ : Addr).add n)) 0 (cap - n), fun W => ?_, fun W => ?_, fun W => .inr ⟨_, _, rfl, fun j u hu => by simp at hu⟩, _, _, _, rfl⟩
    · rw [run_slice_h (w := W) 38 (some ⟨g, 0, none⟩) n cap under_W .i64 n (by omega) (by omega), size_W]
      simp [Result.andThen, sliced, add_zero']
    · rw [run_slice_l (w := W) 38 (some ⟨g, 0, none⟩) n cap under_W .i64 n (by omega) (by omega), size_W]
      by_cases e : cap = n <;> simp [Result.andThen, sliced, e]
theorem own_reads {w : World} {B n : Nat} {V : Value} {xs : List Value} (h : w.ownsRow B 29 1 V n xs) : RdsW w V xs := by
  have h1 := h.1
  rcases h.2 with ⟨rfl, rfl⟩ | ⟨g, cap, cur, rfl, _⟩
  · exact .inl ⟨rfl, List.eq_nil_of_length_eq_zero (by omega)⟩
  · refine .inr ⟨⟨g, 0, none⟩, cap, ?_, h.cells (g := g) rfl⟩
    rw [h1, Nat.mul_one]
theorem own_low1 {w w' : World} {B n : Nat} {V : Value} {xs : List Value} (h : w.ownsRow B 29 1 V n xs) (hb : Below w.heap.size w w') : w'.ownsRow B 29 1 V n xs := own_keep h hb
def wvs (ks : List Nat) (k : Nat) : List Value := (ks.take k).map wv
theorem wvs_len (ks : List Nat) {k : Nat} (h : k ≤ ks.length) : (wvs ks k).length = k := by simp [wvs]; omega
theorem wvs_succ (ks : List Nat) {k : Nat} (h : k < ks.length) : wvs ks k ++ [wv (ks.getD k 0)] = wvs ks (k + 1) := by
  unfold wvs
  rw [List.take_succ_eq_append_getElem h, List.map_append, List.getD_eq_getElem?_getD, List.getElem?_eq_getElem h]
  rfl
theorem wvs_one (ks : List Nat) (k : Nat) : ∀ u ∈ wvs ks k, u.oneCell' = true := by
  intro u hu
  obtain ⟨x, _, rfl⟩ := List.mem_map.1 hu
  rfl
theorem wvs_at (ks : List Nat) {k j : Nat} (h : k ≤ ks.length) (hj : j < k) : (wvs ks k)[j]? = some (wv (ks.getD j 0)) := by
  unfold wvs
  rw [List.getElem?_map, List.getElem?_take_of_lt hj, List.getElem?_eq_getElem (by omega), List.getD_eq_getElem?_getD, List.getElem?_eq_getElem (by omega)]
  rfl
set_option maxRecDepth 100000 in
set_option maxHeartbeats 3200000 in
theorem rising_any {w : World} {gk cap n most : Nat} {ks : List Nat} (hn : ks.length = n) (hK : ∀ k, k < n → w.cell? ⟨gk, k, none⟩ = some (.int .u64 ((ks.getD k 0 : Nat) : Int))) (hr : ∀ a b, a < b → b < n → ks.getD a 0 < ks.getD b 0) (hm : n ≤ most) (h0 : 0 < n) (hmost : most ≤ 100) :
    Calls Tryz.prog 19 #[.slice (some ⟨gk, 0, none⟩) n cap, .int .i64 (most : Int)] w fun e w' => ∃ V, e = .returned V ∧ w'.ownsRow w.heap.size 29 1 V n (wvs ks n) ∧ Below w.heap.size w w' := by
  have mixed : Tryz.prog.follows .mixedOrders = true := by kernel_rfl
  have HK := Lib.hid hK
  have HR := Lib.hid hr
  have HN := Lib.hid hn
  have hgk : gk < w.heap.size := w.block_lt_of_cell? _ (HK.out 0 h0)
  clear hK hr hn
  go_enter Tryz.func19, Tryz.ntmps19
  go_wp2_with fail
  go_loopw [5, 6] (fun V i wr => ∃ (VV : Value) (k : Nat), VV = V ∧ k ≤ n ∧ i = .int .i64 (k : Int) ∧ wr.ownsRow w.heap.size 29 1 V k (wvs ks k) ∧ Below w.heap.size w wr) (fun _ i _ => n - (intOf i).toNat)
  case atStart => exact ⟨_, 0, rfl, Nat.zero_le _, rfl, World.ownsRow_nil _ _ _ _, Below.refl _ _⟩
  case round =>
    rename World => wr
    obtain ⟨V, k, hVV, hk, rfl, ho, hb⟩ := hrel
    subst hVV
    obtain ⟨X, hx1, hx2, hx3, A3, m3, c3, hX⟩ := own_slices ho
    obtain ⟨A, c, hV⟩ : ∃ A c, V = .slice A k c := by
      rcases ho.2 with ⟨rfl, rfl⟩ | ⟨g, cap, cur, rfl, _⟩
      · exact ⟨_, _, rfl⟩
      · exact ⟨_, _, rfl⟩
    have HO := Lib.hid ho
    have HB := Lib.hid hb
    have HX3 := Lib.hid hx3
    have hsz := hb.size
    subst hV
    by_cases hlt : k < n
    · have ck := (hb.cell (p := ⟨gk, k, none⟩) hgk).trans (HK.out k hlt)
      obtain ⟨x, hxk⟩ : ∃ x, x = ks.getD k 0 := ⟨_, rfl⟩
      have HXK := Lib.hid hxk
      rw [← hxk] at ck
      have hkm : k < most := by omega
      have d1 : ((k : Int) < (n : Int)) := by omega
      have d2 : ((k : Int) < (most : Int)) := by omega
      have HOC := Lib.hid (show ∀ j, j < k → ∃ g, A = some ⟨g, 0, none⟩ ∧ wr.cell? ⟨g, j, none⟩ = some (.int .u64 ((ks.getD j 0 : Nat) : Int)) from fun j hj => by
        have hl : k ≤ ks.length := by rw [HN.out]; omega
        have h1 := wvs_at ks hl hj
        rcases HO.out.2 with ⟨e1, e2⟩ | ⟨g, cap, cur, e1, _⟩
        · omega
        · have e2 : A = some ⟨g, 0, none⟩ := by injection e1
          have h2 := HO.out.cells (g := g) (by rw [e2]; rfl) j _ h1
          rw [Addr.add_lit, Nat.zero_add] at h2
          exact ⟨g, e2, h2⟩)
      clear ho hb hx3 hxk
      go_wp2_with fail
      go_loopw [7] (fun q wx => ∃ j : Nat, j ≤ k ∧ q = .int .i64 (j : Int) ∧ Below wr.heap.size wr wx) (fun q _ => k - (intOf q).toNat)
      case atStart => exact ⟨0, Nat.zero_le _, rfl, Below.refl _ _⟩
      case round =>
        rename World => wx
        obtain ⟨j, hj, rfl, hbx⟩ := hrel
        have HBX := Lib.hid hbx
        have ckx := (hbx.cell (p := ⟨gk, k, none⟩) (by show gk < wr.heap.size; omega)).trans ck
        by_cases hjk : j < k
        · obtain ⟨gv, hA, cj⟩ := HOC.out j hjk
          have cjx := (hbx.cell (p := ⟨gv, j, none⟩) (wr.block_lt_of_cell? _ cj)).trans cj
          have hlt2 := HR.out j k hjk hlt
          rw [← HXK.out] at hlt2
          obtain ⟨y, hy⟩ : ∃ y, y = ks.getD j 0 := ⟨_, rfl⟩
          rw [← hy] at cjx hlt2
          subst hA
          have d3 : ((j : Int) < (k : Int)) := by omega
          have d4 : ((y : Int) < (x : Int)) := by omega
          clear hbx cj hy ck
          go_wp2_with fail
          go_quiet (fail)
          go_wp2_with fail
          refine ⟨⟨j + 1, by omega, by go_num, HBX.out.trans ((drewN_below _ _).mono HBX.out.size)⟩, by simp [intOf]; omega⟩
        · obtain rfl : j = k := by omega
          clear hbx ck
          go_wp2_with fail
          go_quiet (fail)
          go_wp2_with fail
          obtain ⟨q1, hq1⟩ : ∃ q, q = nq := ⟨_, rfl⟩
          rw [← hq1]
          clear hq1
          go_quiet (fail)
          go_upto_region 9 with (fail)
          obtain ⟨W9, hW9⟩ : ∃ W9, W9 = ((wx.drewN q1).drewN nq) := ⟨_, rfl⟩
          rw [← hW9]
          have hb9 : Below wr.heap.size wr W9 := by rw [hW9]; exact (HBX.out.trans ((drewN_below _ _).mono HBX.out.size)).trans ((drewN_below _ _).mono HBX.out.size)
          have ck9 : W9.cell? ⟨gk, j, none⟩ = some (.int .u64 (x : Int)) := by rw [hW9]; exact ckx
          have HO9 := Lib.hid (own_keep HO.out hb9)
          have HB9 := Lib.hid (HB.out.trans (hb9.mono hsz))
          have hs9 := HB9.out.size
          have STAY := Lib.hid fun W' (hb : Below W9.heap.size W9 W') => And.intro ((hb.cell (p := ⟨gk, j, none⟩) (W9.block_lt_of_cell? _ ck9)).trans ck9) hb
          have hl1 : j ≤ ks.length := by rw [HN.out]; omega
          have hl2 : j < ks.length := by rw [HN.out]; omega
          have hjb : j ≤ 100 := by omega
          have HWL := Lib.hid (wvs_len ks hl1)
          have HWS := Lib.hid (wvs_succ ks hl2)
          have HX1 := Lib.hid (wvs_one ks j)
          obtain ⟨xs, hxs⟩ : ∃ xs, xs = wvs ks j := ⟨_, rfl⟩
          rw [← hxs] at HO9 HWL HWS HX1
          rw [← HXK.out] at HWS
          have hjn : (j : Int) < (n : Int) := by omega
          subst hX
          clear hW9 hb9 ckx HBX hxs d1 d2 hkm hl1 hl2 hlt hk hj
          refine wp_region_noPanic ?_
          refine wp_region_held_drew (S := fun W' => W'.cell? ⟨gk, j, none⟩ = some (.int .u64 (x : Int)) ∧ Below W9.heap.size W9 W') (by kernel_rfl) (STAY.out _ (drew_below _)) (fun hHeld => ?_)
          have L0 : Below W9.heap.size W9 W9.drew := drew_below _
          refine wpAnyH_take (i := 0) (oi := ⟨some 52, _, _, _, _, _⟩) (v := .slice A j c) rfl (by kernel_rfl) (by kernel_rfl) (by kernel_rfl) (fun _ _ _ h => h) (Or.inl ⟨by kernel_rfl, by intro WW hSw; (try dsimp only at hSw); go_simp⟩) (by assumption) ?_
          (try simp only [Act.put, List.setIfInBounds_toArray, List.set_cons_zero, List.set_cons_succ])
          refine wpAnyH_take (i := 1) (oi := ⟨some 53, _, _, _, _, _⟩) (v := .int .i64 (j : Int)) rfl (by kernel_rfl) (by kernel_rfl) (by kernel_rfl) (fun _ _ _ h => h) (Or.inl ⟨by kernel_rfl, by intro WW hSw; (try dsimp only at hSw); go_simp⟩) (by assumption) ?_
          (try simp only [Act.put, List.setIfInBounds_toArray, List.set_cons_zero, List.set_cons_succ])
          refine wpAnyH_take (i := 2) (oi := ⟨some 54, _, _, _, _, _⟩) (v := .slice A j c) rfl (by kernel_rfl) (by kernel_rfl) (by kernel_rfl) (fun _ _ _ h => h) (Or.inl ⟨by kernel_rfl, by intro WW hSw; (try dsimp only at hSw); go_simp⟩) (by assumption) ?_
          (try simp only [Act.put, List.setIfInBounds_toArray, List.set_cons_zero, List.set_cons_succ])
          refine wpAnyH_take (i := 4) (oi := ⟨some 56, _, _, _, _, _⟩) (v := .slice (some ⟨gk, 0, none⟩) n cap) rfl (by kernel_rfl) (by kernel_rfl) (by kernel_rfl) (fun _ _ _ h => h) (Or.inl ⟨by kernel_rfl, by intro WW hSw; (try dsimp only at hSw); go_simp⟩) (by assumption) ?_
          (try simp only [Act.put, List.setIfInBounds_toArray, List.set_cons_zero, List.set_cons_succ])
          refine wpAnyH_take (i := 5) (oi := ⟨some 57, _, _, _, _, _⟩) (v := .int .i64 (j : Int)) rfl (by kernel_rfl) (by kernel_rfl) (by kernel_rfl) (fun _ _ _ h => h) (Or.inl ⟨by kernel_rfl, by intro WW hSw; (try dsimp only at hSw); go_simp⟩) (by assumption) ?_
          (try simp only [Act.put, List.setIfInBounds_toArray, List.set_cons_zero, List.set_cons_succ])
          refine wpAnyH_take (i := 6) (oi := ⟨some 58, _, _, _, _, _⟩) (v := .pointer (some ⟨gk, j, none⟩)) rfl (by kernel_rfl) (by kernel_rfl) (by kernel_rfl) (fun _ _ _ h => h) (Or.inl ⟨by kernel_rfl, by intro WW hSw; (try dsimp only at hSw); go_simp⟩) (by assumption) ?_
          (try simp only [Act.put, List.setIfInBounds_toArray, List.set_cons_zero, List.set_cons_succ])
          refine wpAnyH_take (i := 7) (oi := ⟨some 59, _, _, _, _, _⟩) (v := .int .u64 (x : Int)) rfl (by kernel_rfl) (by kernel_rfl) (by kernel_rfl) (fun _ _ _ h => h) (Or.inl ⟨by kernel_rfl, by intro WW hSw; (try dsimp only at hSw); go_simp⟩) (by assumption) ?_
          (try simp only [Act.put, List.setIfInBounds_toArray, List.set_cons_zero, List.set_cons_succ])
          refine wpAnyH_take (i := 10) (oi := ⟨some 62, _, _, _, _, _⟩) (v := .slice A j c) rfl (by kernel_rfl) (by kernel_rfl) (by kernel_rfl) (fun _ _ _ h => h) (Or.inl ⟨by kernel_rfl, by intro WW hSw; (try dsimp only at hSw); go_simp⟩) (by assumption) ?_
          (try simp only [Act.put, List.setIfInBounds_toArray, List.set_cons_zero, List.set_cons_succ])
          refine wpAnyH_take (i := 11) (oi := ⟨some 63, _, _, _, _, _⟩) (v := .int .i64 (j : Int)) rfl (by kernel_rfl) (by kernel_rfl) (by kernel_rfl) (fun _ _ _ h => h) (Or.inl ⟨by kernel_rfl, by intro WW hSw; (try dsimp only at hSw); go_simp⟩) (by assumption) ?_
          (try simp only [Act.put, List.setIfInBounds_toArray, List.set_cons_zero, List.set_cons_succ])
          refine wpAnyH_take (i := 12) (oi := ⟨some 64, _, _, _, _, _⟩) (v := .slice A3 m3 c3) rfl (by kernel_rfl) (by kernel_rfl) (by kernel_rfl) (fun _ _ _ h => h) (Or.inl ⟨by kernel_rfl, by intro WW hSw; (try dsimp only at hSw); go_simp⟩) (by assumption) ?_
          (try simp only [Act.put, List.setIfInBounds_toArray, List.set_cons_zero, List.set_cons_succ])
          refine wpAnyH_ready (rs := [3, 8]) (by kernel_rfl) (by simp) ?_
          refine AllReadyH.cons (o := ⟨some 55, _, _, _, _, _⟩) rfl (fun K hK => ?_) (AllReadyH.cons (o := ⟨some 60, _, _, _, _, _⟩) rfl (fun K hK => ?_) AllReadyH.nil)
          · skip
            refine step_appW (by rfl) (.const (.slice none 0 0)) (.tmp 54) (by rfl) W9.heap.size _ _ _ (by rfl) (World.ownsRow_nil _ _ _ _) _ _ (by rfl) (own_reads (own_low1 HO9.out L0)) (HX1.out) (by have hxl := HWL.out; first | omega | (simp; omega)) (L0.size) ?_
            intro va wa oa ga
            have La : Below W9.heap.size W9 wa := L0.grown ga L0.size (fun q hq => by cases hq)
            refine hK.out _ _ (STAY.out _ La) (fun hHeld => ?_)
            clear hK K
            (try simp only [Act.put, List.setIfInBounds_toArray, List.set_cons_zero, List.set_cons_succ])
            refine wpAnyH_ready (rs := [8]) (by kernel_rfl) (by simp) ?_
            refine AllReadyH.cons (o := ⟨some 60, _, _, _, _, _⟩) rfl (fun K hK => ?_) AllReadyH.nil
            go_simp
            obtain ⟨wb, hwb⟩ : ∃ wb, wb = wa.alloc (.cells #[.int .u64 (x : Int)] 29) := ⟨_, rfl⟩
            have rb : Row wb wa.heap.size 29 #[.int .u64 (x : Int)] := by rw [hwb]; exact Row.new wa _ _
            have Lb : Below W9.heap.size W9 wb := by rw [hwb]; exact Below.and La (alloc_below _ (.cells #[.int .u64 (x : Int)] 29))
            rw [← hwb]
            refine hK.out _ _ (STAY.out _ Lb) (fun hHeld => ?_)
            clear hK K
            (try simp only [Act.put, List.setIfInBounds_toArray, List.set_cons_zero, List.set_cons_succ])
            refine wpAnyH_ready (rs := [9]) (by kernel_rfl) (by simp) ?_
            refine AllReadyH.cons (o := ⟨some 61, _, _, _, _, _⟩) rfl (fun K hK => ?_) AllReadyH.nil
            refine step_appW (by rfl) (.tmp 55) (.tmp 60) (by rfl) W9.heap.size _ _ _ (by rfl) (own_low1 oa (by rw [hwb]; exact alloc_below _ _)) _ _ (by rfl) ((.inr ⟨⟨wa.heap.size, 0, none⟩, 1, rfl, fun q u hu => by rw [Addr.add_lit, Nat.zero_add, Row.cell rb]; simpa using hu⟩ : RdsW _ _ [.int .u64 (x : Int)])) (by intro u hu; simp at hu; subst hu; rfl) (by have hxl := HWL.out; first | omega | (simp; omega)) (Lb.size) ?_
            intro vc wc oc gc
            have Lc : Below W9.heap.size W9 wc := Lb.grown gc Lb.size (fun q hq => (ownS_from oa q hq).1)
            refine hK.out _ _ (STAY.out _ Lc) (fun hHeld => ?_)
            clear hK K
            (try simp only [Act.put, List.setIfInBounds_toArray, List.set_cons_zero, List.set_cons_succ])
            refine wpAnyH_ready (rs := [13]) (by kernel_rfl) (by simp) ?_
            refine AllReadyH.cons (o := ⟨some 65, _, _, _, _, _⟩) rfl (fun K hK => ?_) AllReadyH.nil
            refine step_appW (by rfl) (.tmp 61) (.tmp 64) (by rfl) W9.heap.size _ _ _ (by rfl) (oc) _ _ (by rfl) (HX3.out _) (by intro u hu; cases hu) (by have hxl := HWL.out; first | omega | (simp; omega)) (Lc.size) ?_
            intro vd wd od gd
            have Ld : Below W9.heap.size W9 wd := Lc.grown gd Lc.size (fun q hq => (ownS_from oc q hq).1)
            refine hK.out _ _ (STAY.out _ Ld) (fun hHeld => ?_)
            clear hK K
            (try simp only [Act.put, List.setIfInBounds_toArray, List.set_cons_zero, List.set_cons_succ])
            refine wpAnyH_take (i := 14) (oi := ⟨some 5, _, _, _, _, _⟩) (v := vd) rfl (by kernel_rfl) (by kernel_rfl) (by kernel_rfl) (fun _ _ _ h => h) (Or.inl ⟨by kernel_rfl, by intro WW hSw; (try dsimp only at hSw); go_simp⟩) (by assumption) ?_
            (try simp only [Act.put, List.setIfInBounds_toArray, List.set_cons_zero, List.set_cons_succ])
            refine wpAnyH_done (by kernel_rfl) ?_ _
            go_wp2_with fail
            refine (‹∀ (a : Act) (w : World), Code.wp Tryz.prog (Code.region 4 _ false) _ a w → _›) _ _ ?_
            go_wp2_with fail
            refine ⟨⟨_, j + 1, rfl, by omega, by go_num, ?_, HB9.out.trans (Ld.mono hs9)⟩, by simp [intOf]; omega⟩
            have ho := ownS_mono od hs9
            simp only [List.nil_append, List.append_nil, List.length_cons, List.length_nil, Nat.zero_add, HWL.out] at ho
            rw [← HWS.out]
            exact ho
          · skip
            go_simp
            obtain ⟨wb, hwb⟩ : ∃ wb, wb = (W9.alloc (.cells #[.int .u64 (x : Int)] 29)).drew := ⟨_, rfl⟩
            have rb : Row wb W9.heap.size 29 #[.int .u64 (x : Int)] := by rw [hwb]; exact Row.new W9 _ _
            have Lb : Below W9.heap.size W9 wb := by rw [hwb]; exact Below.and L0 (alloc_below _ (.cells #[.int .u64 (x : Int)] 29))
            rw [← hwb]
            refine hK.out _ _ (STAY.out _ Lb) (fun hHeld => ?_)
            clear hK K
            (try simp only [Act.put, List.setIfInBounds_toArray, List.set_cons_zero, List.set_cons_succ])
            refine wpAnyH_ready (rs := [3]) (by kernel_rfl) (by simp) ?_
            refine AllReadyH.cons (o := ⟨some 55, _, _, _, _, _⟩) rfl (fun K hK => ?_) AllReadyH.nil
            refine step_appW (by rfl) (.const (.slice none 0 0)) (.tmp 54) (by rfl) W9.heap.size _ _ _ (by rfl) (World.ownsRow_nil _ _ _ _) _ _ (by rfl) (own_reads (own_low1 HO9.out Lb)) (HX1.out) (by have hxl := HWL.out; first | omega | (simp; omega)) (Lb.size) ?_
            intro va wa oa ga
            have La : Below W9.heap.size W9 wa := Lb.grown ga Lb.size (fun q hq => by cases hq)
            refine hK.out _ _ (STAY.out _ La) (fun hHeld => ?_)
            clear hK K
            (try simp only [Act.put, List.setIfInBounds_toArray, List.set_cons_zero, List.set_cons_succ])
            have ra : Row wa W9.heap.size 29 #[.int .u64 (x : Int)] := rb.grown ga (by intro e; cases e)
            refine wpAnyH_ready (rs := [9]) (by kernel_rfl) (by simp) ?_
            refine AllReadyH.cons (o := ⟨some 61, _, _, _, _, _⟩) rfl (fun K hK => ?_) AllReadyH.nil
            refine step_appW (by rfl) (.tmp 55) (.tmp 60) (by rfl) W9.heap.size _ _ _ (by rfl) (oa) _ _ (by rfl) ((.inr ⟨⟨W9.heap.size, 0, none⟩, 1, rfl, fun q u hu => by rw [Addr.add_lit, Nat.zero_add, Row.cell ra]; simpa using hu⟩ : RdsW _ _ [.int .u64 (x : Int)])) (by intro u hu; simp at hu; subst hu; rfl) (by have hxl := HWL.out; first | omega | (simp; omega)) (La.size) ?_
            intro vc wc oc gc
            have Lc : Below W9.heap.size W9 wc := La.grown gc La.size (fun q hq => (ownS_from oa q hq).1)
            refine hK.out _ _ (STAY.out _ Lc) (fun hHeld => ?_)
            clear hK K
            (try simp only [Act.put, List.setIfInBounds_toArray, List.set_cons_zero, List.set_cons_succ])
            refine wpAnyH_ready (rs := [13]) (by kernel_rfl) (by simp) ?_
            refine AllReadyH.cons (o := ⟨some 65, _, _, _, _, _⟩) rfl (fun K hK => ?_) AllReadyH.nil
            refine step_appW (by rfl) (.tmp 61) (.tmp 64) (by rfl) W9.heap.size _ _ _ (by rfl) (oc) _ _ (by rfl) (HX3.out _) (by intro u hu; cases hu) (by have hxl := HWL.out; first | omega | (simp; omega)) (Lc.size) ?_
            intro vd wd od gd
            have Ld : Below W9.heap.size W9 wd := Lc.grown gd Lc.size (fun q hq => (ownS_from oc q hq).1)
            refine hK.out _ _ (STAY.out _ Ld) (fun hHeld => ?_)
            clear hK K
            (try simp only [Act.put, List.setIfInBounds_toArray, List.set_cons_zero, List.set_cons_succ])
            refine wpAnyH_take (i := 14) (oi := ⟨some 5, _, _, _, _, _⟩) (v := vd) rfl (by kernel_rfl) (by kernel_rfl) (by kernel_rfl) (fun _ _ _ h => h) (Or.inl ⟨by kernel_rfl, by intro WW hSw; (try dsimp only at hSw); go_simp⟩) (by assumption) ?_
            (try simp only [Act.put, List.setIfInBounds_toArray, List.set_cons_zero, List.set_cons_succ])
            refine wpAnyH_done (by kernel_rfl) ?_ _
            go_wp2_with fail
            refine (‹∀ (a : Act) (w : World), Code.wp Tryz.prog (Code.region 4 _ false) _ a w → _›) _ _ ?_
            go_wp2_with fail
            refine ⟨⟨_, j + 1, rfl, by omega, by go_num, ?_, HB9.out.trans (Ld.mono hs9)⟩, by simp [intOf]; omega⟩
            have ho := ownS_mono od hs9
            simp only [List.nil_append, List.append_nil, List.length_cons, List.length_nil, Nat.zero_add, HWL.out] at ho
            rw [← HWS.out]
            exact ho
    · obtain rfl : k = n := by omega
      clear ho hb hx3 hlt
      go_wp2_with fail
      go_ret
      exact ⟨_, rfl, HO.out, HB.out⟩
end Go.Proofs.YtkbklooocdfcfaaGreatDoor
/- The document's Rising of no key; no conditions. -/
namespace Go.Proofs.YtkbklooocdfcfaaGreatDoor
open Go.RowKit
set_option linter.unusedVariables false
attribute [local go_sem] Oper.semAt_some
set_option maxRecDepth 100000 in
set_option maxHeartbeats 3200000 in
theorem rising_none (w : World) (most : Nat) : Calls Tryz.prog 19 #[.slice none 0 0, .int .i64 (most : Int)] w fun e w' => e = .returned (.slice none 0 0) ∧ Below w.heap.size w w' := by
  have mixed : Tryz.prog.follows .mixedOrders = true := by kernel_rfl
  go_enter Tryz.func19, Tryz.ntmps19
  go_wp2_with fail
  go_loopw [5, 6] (fun V i wr => V = .slice none 0 0 ∧ i = .int .i64 0 ∧ Below w.heap.size w wr) (fun _ _ _ => 0)
  case atStart => exact ⟨rfl, rfl, Below.refl _ _⟩
  case round =>
    rename World => wr
    obtain ⟨rfl, rfl, hb⟩ := hrel
    have HB := Lib.hid hb
    clear hb
    go_wp2_with fail
    go_ret
    exact ⟨rfl, HB.out⟩
end Go.Proofs.YtkbklooocdfcfaaGreatDoor
