/- Texts of this claim, packed: R2Flu. -/
import Derived.Test.YtkeajfedlhgejaaPc22
import Derived.Test.YtkeajfedlhgejaaPc24
import Derived.Laws.AppendOwnNone
import Derived.Deep.QuietTactic
import Derived.Deep.DeepCutAuto
import Derived.Deep.CutBlock
/- Flush of the document's memory: what is pending of a line is marked; for marks of at most a thousand. -/
namespace Go.Proofs.Ytkeajfedlhgejaa
open Go Go.RowKit
set_option linter.unusedVariables false
theorem infoI2 : (Try.prog.info? 3).map (fun i => (i.zero, i.size, i.bytes)) = some (some (.int .i64 0), 1, 8) := by kernel_rfl
/-- What may be appended. -/
def RdsI (w : World) (X : Value) (news : List Value) : Prop := (X = .slice none 0 0 ∧ news = []) ∨ ∃ ad c, X = .slice (some ad) news.length c ∧ ∀ j u, news[j]? = some u → w.cell? (ad.add j) = some u
theorem rdsI_own {w : World} {B n : Nat} {V : Value} {xs : List Value} (h : w.ownsRow B 3 1 V n xs) : RdsI w V xs := by
  have hl : xs.length = n := by have := h.1; omega
  rcases h.2 with ⟨rfl, h0⟩ | ⟨g, cap, cur, rfl, _⟩
  · exact .inl ⟨rfl, List.eq_nil_of_length_eq_zero (by omega)⟩
  · exact .inr ⟨⟨g, 0, none⟩, cap, by rw [hl], h.cells (g := g) rfl⟩
theorem step_appI {ops : Array Oper} {o : Oper} {a : Act} {w : World} {K : Act → World → Prop} {Q : Exit → Act → World → Prop} {E : Prop} (hw : Region.wanted o (yielded ops a.tmps) = true) (s x : Operand)
    (ho : o.op = .call { callee := .builtin .append, args := #[s, x], argTypes := #[36, 36] }) (B : Nat) (V : Value) (n : Nat) (xs : List Value) (hs : a.eval s = V) (hown : w.ownsRow B 3 1 V n xs) (X : Value) (news : List Value) (hx : a.eval x = X) (hrd : RdsI w X news) (h1 : ∀ u ∈ news, u.oneCell' = true) (hn : n + news.length ≤ 1000000) (hB : B ≤ w.heap.size)
    (h : ∀ v' w', w'.ownsRow B 3 1 v' (n + news.length) (xs ++ news) → w.grownBy w' V.ownBlock → K (a.put o.dst v') w') : if Region.wanted o (yielded ops a.tmps) = true then Oper.wp Try.prog o a w K Q else E := by
  rw [if_pos hw]
  obtain ⟨i0, hi, hz0, hz1, hz2⟩ := info_parts infoI2
  rcases hrd with ⟨rfl, rfl⟩ | ⟨ad, c, rfl, hc⟩
  · have hrun := run_append_owned_none (P := Try.prog) (w := w) B 36 o.type 3 i0 1 Try.underlying36 hi V n xs hown
    unfold Oper.wp execOp
    simp only [ho, resolve, invoke, builtin, Sem.run_bind, Sem.run_pure, Result.andThen_ok, List.map_toArray, List.map_cons, List.map_nil, hs, hx, hrun]
    exact h V w (by simpa using hown) ⟨rfl, rfl, rfl, Nat.le_refl _, fun _ _ _ => rfl⟩
  · obtain ⟨v', w', hr, h2, h3, _⟩ := run_append_own_at (P := Try.prog) w B 36 o.type 3 i0 (.int .i64 0) 1 8 Try.underlying36 hi hz0 hz1 hz2 rfl (by decide) V n xs hown ad news.length c news (by omega) hc h1 (by unfold maxLen; omega) (by omega) hB
    unfold Oper.wp execOp
    simp only [ho, resolve, invoke, builtin, Sem.run_bind, Sem.run_pure, Result.andThen_ok, List.map_toArray, List.map_cons, List.map_nil, hs, hx, hr]
    exact h v' w' h2 h3
theorem own_lowI {w w' : World} {B n : Nat} {V : Value} {xs : List Value} (h : w.ownsRow B 3 1 V n xs) (hb : Below w.heap.size w w') : w'.ownsRow B 3 1 V n xs :=
  own2_same h fun k hk => hb.block k (by obtain ⟨cs, hc⟩ := own2_tg h hk; exact (Array.getElem?_eq_some_iff.1 hc).1)
theorem own_fromI {w : World} {B n s : Nat} {e : TypeId} {V : Value} {xs : List Value} (h : w.ownsRow B e s V n xs) : ∀ k, V.ownBlock = some k → B ≤ k := fun k hk => by
  rcases h.2 with ⟨rfl, _⟩ | ⟨g, cap, cur, rfl, hg, _⟩
  · cases hk
  · cases hk; exact hg
theorem own_weak {w : World} {B n s : Nat} {e : TypeId} {V : Value} {xs : List Value} (h : w.ownsRow B e s V n xs) : w.ownsRow 0 e s V n xs := by
  refine ⟨h.1, ?_⟩
  rcases h.2 with h0 | ⟨g, cap, cur, rfl, hg, hr⟩
  · exact .inl h0
  · exact .inr ⟨g, cap, cur, rfl, Nat.zero_le _, hr⟩
theorem R2At.setMX {w : World} {g gl n c : Nat} {r : Rf} {vF v' : Value} {ms : List Value} {m : List Nat} (h : R2At w g r vF (.slice (some ⟨gl, 0, none⟩) n c) ms) (hn : r.L.length = n) {i : Nat} {x : Md} (hx : r.L[i]? = some x) (hm : w.ownsRow 0 3 1 v' m.length (m.map cv)) :
    R2At (w.setCell ⟨gl, i * 4 + 3, none⟩ v') g { r with L := r.L.set i { x with m := m } } vF (.slice (some ⟨gl, 0, none⟩) n c) (ms.set i v') := by
  subst hn
  have := h.setM hx hm
  rw [List.length_set] at this
  exact this
/-- A mark more is stored. -/
theorem flu_store {w wd : World} {g gl n c k q : Nat} {r : Rf} {vF vd : Value} {ms : List Value} {i : Nat} {x : Md} (h : R2At w g r vF (.slice (some ⟨gl, 0, none⟩) n c) ms) (hn : r.L.length = n) (hx : r.L[i]? = some x) (hb : Below w.heap.size w wd) (ho : wd.ownsRow w.heap.size 3 1 vd q (x.m.map cv ++ [.int .i64 (k : Int)])) (hq : q = x.m.length + 1) :
    R2At (wd.setCell ⟨gl, i * 4 + 3, none⟩ vd) g { r with L := r.L.set i { x with m := x.m ++ [k] } } vF (.slice (some ⟨gl, 0, none⟩) n c) (ms.set i vd) ∧ Tn2 w (wd.setCell ⟨gl, i * 4 + 3, none⟩ vd) g vF (.slice (some ⟨gl, 0, none⟩) n c) ms vF (.slice (some ⟨gl, 0, none⟩) n c) (ms.set i vd) := by
  subst hq
  have e : x.m.map cv ++ [.int .i64 (k : Int)] = (x.m ++ [k]).map cv := by simp [cv]
  rw [e] at ho
  refine ⟨(h.below hb).setMX hn hx (m := x.m ++ [k]) (by rw [List.length_append]; exact own_weak ho), But.set (But.of_below hb _) (.inr (.inr (.inl rfl))) _, ?_⟩
  rintro t (ht | ht | ht | ⟨v, hv, ht⟩)
  · exact .inl (.inl ht)
  · exact .inl (.inr (.inl ht))
  · exact .inl (.inr (.inr (.inl ht)))
  · rcases List.mem_or_eq_of_mem_set hv with hv | rfl
    · exact .inl (.inr (.inr (.inr ⟨v, hv, ht⟩)))
    · exact .inr (own_fromI ho t ht)
set_option maxRecDepth 100000 in
set_option maxHeartbeats 2000000 in
theorem r2Flush_arg {w : World} (g : Nat) (c a : Int) (hc : c < 0 ∨ 64 < c) :
    Calls Try.prog 39 #[.pointer (some ⟨g, 0, none⟩), .int .i64 c, .int .u64 a] w fun e w' => e = .returned (.int .i64 2) ∧ w = w' := by
  by_cases h0 : c < 0
  · have d0 : decide (c < 0) = true := by simpa using h0
    go_enter Try.func39, Try.ntmps39
    go_wp2
    go_ret
    exact ⟨rfl, rfl⟩
  · have d0 : decide (c < 0) = false := by simpa using h0
    have d1 : decide (64 < c) = true := by simp; omega
    go_enter Try.func39, Try.ntmps39
    go_wp2
    go_ret
    exact ⟨rfl, rfl⟩
set_option maxRecDepth 100000 in
set_option maxHeartbeats 2000000 in
theorem r2Flush_no {w : World} {g : Nat} {r : Rf} {vF vL : Value} {ms : List Value} (h : R2At w g r vF vL ms) (c a : Nat) (hc : c ≤ 64) (hn : r.nl ≤ 16384) (ha : a < 18446744073709551616) (hb : ¬ (a % 8 = 0 ∧ a < 64 * r.nl)) :
    Calls Try.prog 39 #[.pointer (some ⟨g, 0, none⟩), .int .i64 (c : Int), .int .u64 (a : Int)] w fun e w' => e = .returned (.int .i64 3) ∧ w = w' := by
  have HI := r2Is_any h a hn ha
  rw [decide_eq_false hb] at HI
  have HI := Lib.hid HI
  have d0 : decide ((c : Int) < 0) = false := by simp
  have d1 : decide (64 < (c : Int)) = false := by simp; omega
  clear h hb
  go_enter Try.func39, Try.ntmps39
  go_wp2_with fail
  refine HI.out.mono ?_
  rintro e w1 ⟨rfl, rfl⟩
  go_wp2
  go_ret
  exact ⟨rfl, rfl⟩
set_option maxRecDepth 100000 in
set_option maxHeartbeats 8000000 in
theorem r2Flush_yes {w : World} {g : Nat} {r : Rf} {vF vL : Value} {ms : List Value} (h : R2At w g r vF vL ms) (c a : Nat) (hc : c ≤ 64) (hnl : r.nl ≤ 16384) (ha : a < 18446744073709551616) (hb : a % 8 = 0 ∧ a < 64 * r.nl) (had : ∀ x ∈ r.L, x.a < 18446744073709551616) (hmb : ∀ x ∈ r.L, x.m.length ≤ 1000) (hfl : r.fl < 9223372036854775808) :
    Calls Try.prog 39 #[.pointer (some ⟨g, 0, none⟩), .int .i64 (c : Int), .int .u64 (a : Int)] w fun e w' => e = .returned (.int .i64 0) ∧ P2 w g vF vL ms (r.flush c a) w' := by
  have mixed : Try.prog.follows .mixedOrders = true := by kernel_rfl
  have HI := r2Is_any h a hnl ha
  rw [decide_eq_true hb] at HI
  have HI := Lib.hid HI
  have HL := Lib.hid fun W => r2line_any a W ha
  have HX := Lib.hid fun (x : Md) (hx : x ∈ r.L) (W : World) => r2line_any x.a W (had x hx)
  have HMB := Lib.hid hmb
  have d0 : decide ((c : Int) < 0) = false := by simp
  have d1 : decide (64 < (c : Int)) = false := by simp; omega
  have c4 := h.row.cell 4
  simp only [List.getElem?_toArray, List.getElem?_cons_succ, List.getElem?_cons_zero] at c4
  change w.cell? _ = some (.int .u64 (r.fl : Int)) at c4
  have f4 := h.row.free 4
  obtain ⟨A, cap, rfl, hm⟩ := own4_sl h.li
  obtain ⟨q, hq⟩ : ∃ q, r.L.length = q := ⟨_, rfl⟩
  rw [hq] at h hm
  have h1 : R2At (w.setCell ⟨g, 4, none⟩ (.int .u64 ((r.fl + 1 : Nat) : Int))) g { r with fl := r.fl + 1 } vF (.slice A q cap) ms := h.setS 4 _ rfl rfl rfl rfl
  have eS : (((r.fl + 1 : Nat) : Int)) = (r.fl : Int) + 1 := by omega
  rw [eS] at h1
  have hflI : (r.fl : Int) < 9223372036854775808 := by omega
  obtain ⟨l, hl⟩ : ∃ l : Nat, l = a / 64 := ⟨_, rfl⟩
  rw [← hl] at HL
  have hqx : q ≤ 9223372036854775807 := by unfold maxLen at hm; omega
  have H1 := Lib.hid h1
  have HQ := Lib.hid hq
  have HLL := Lib.hid hl
  have HB1 : Hid (Tn2 w (w.setCell ⟨g, 4, none⟩ (.int .u64 ((r.fl : Int) + 1))) g vF (.slice A q cap) ms vF (.slice A q cap) ms) := Lib.hid ⟨But.set (But.refl _ _) (.inl rfl) _, fun k hk => .inl hk⟩
  rw [hq]
  clear h h1 hm hq hb had hl hmb eS
  go_enter Try.func39, Try.ntmps39
  go_wp2_with fail
  refine HI.out.mono ?_
  rintro e w1 ⟨rfl, rfl⟩
  go_wp2
  go_loopg [7] q (fun k v wr => ∃ i : Nat, v = .int .i64 (i : Int) ∧ i ≤ q ∧ q - i ≤ k ∧ ∃ ms', R2At wr g { r with fl := r.fl + 1, L := prefM (flM c a) r.L i } vF (.slice A q cap) ms' ∧ Tn2 w wr g vF (.slice A q cap) ms vF (.slice A q cap) ms')
  case atStart => exact ⟨0, rfl, by omega, by omega, ms, by rw [prefM_zero]; exact H1.out, HB1.out⟩
  case round =>
    obtain ⟨i, rfl, hin, hk, ms', hr, ht⟩ := hrel
    rename World => wr
    clear c4 f4
    have c1 := hr.row.cell 1
    simp only [List.getElem?_toArray, List.getElem?_cons_succ, List.getElem?_cons_zero] at c1
    by_cases hlt : i < q
    · obtain ⟨x, hx⟩ : ∃ x, r.L[i]? = some x := ⟨_, List.getElem?_eq_getElem (by rw [HQ.out]; exact hlt)⟩
      have hln : (prefM (flM c a) r.L i).length = q := by rw [prefM_len, HQ.out]
      have hx2 : (prefM (flM c a) r.L i)[i]? = some x := prefM_get hx
      have HMk := Lib.hid (r2Marked_at hr hx2 c)
      obtain ⟨gl, v, rfl, hv, x0, x1, x2, x3, fr, ho⟩ := hr.cellsX hln hx2
      have fr3 := fr (i * 4 + 3)
      have HXX := Lib.hid (fun W => HX.out x (List.mem_of_getElem? hx) W)
      have hml := HMB.out x (List.mem_of_getElem? hx)
      have hiI : (i : Int) < (q : Int) := by omega
      have hi0 : (0 : Int) ≤ (i : Int) := by omega
      cases hxd : x.d
      · rw [hxd] at x2
        by_cases hll : x.a / 64 = l
        · have hle : (((x.a / 64 : Nat) : Int) == (l : Int)) = true := by simp; omega
          have hp : isPen (a / 64) x = true := by simp [isPen, hxd, hll, HLL.out]
          by_cases hcm : c ∈ x.m
          · have e : flM c a x = x := by simp [flM, hcm]
            rw [prefM_keep hx e] at hr
            have HR := Lib.hid hr
            have HT := Lib.hid ht
            rw [decide_eq_true hcm] at HMk
            clear hr ht hx hx2 hln hv x1 x3 fr fr3 ho hp hcm e hml
            go_wp2_with fail
            refine (HXX.out _).mono ?_
            rintro e w1 ⟨rfl, rfl⟩
            go_wp2_with fail
            refine (HL.out _).mono ?_
            rintro e w1 ⟨rfl, rfl⟩
            go_wp2_with fail
            refine HMk.out.mono ?_
            rintro e w1 ⟨rfl, rfl⟩
            go_wp2
            go_roundg (q - (i + 1))
            case measure => omega
            case rel => exact ⟨i + 1, by go_num, by omega, by omega, ms', HR.out, HT.out⟩
          · have e : flM c a x = { x with m := x.m ++ [c] } := by simp [flM, hcm, hp]
            rw [decide_eq_false hcm] at HMk
            have HST := Lib.hid fun (wd : World) (vd : Value) (t : Nat) (hbd : Below wr.heap.size wr wd) (hod : wd.ownsRow wr.heap.size 3 1 vd t (x.m.map cv ++ [.int .i64 (c : Int)])) (htt : t = x.m.length + 1) => flu_store hr hln hx2 hbd hod htt
            have hPS : (prefM (flM c a) r.L i).set i { x with m := x.m ++ [c] } = prefM (flM c a) r.L (i + 1) := by rw [← e]; exact prefM_set hx
            have HPS := Lib.hid hPS
            have HT := Lib.hid ht
            obtain ⟨A2, c2, rfl, hm2⟩ := own4_sl ho
            have HO := Lib.hid ho
            have STAY := Lib.hid fun W' (hb : Below wr.heap.size wr W') => And.intro ((hb.cell (p := ⟨g, 1, none⟩) (wr.block_lt_of_cell? _ c1)).trans c1) (And.intro ((hb.cell (p := ⟨gl, i * 4 + 3, none⟩) (wr.block_lt_of_cell? _ x3)).trans x3) hb)
            have FR := Lib.hid fun W' (hb : Below wr.heap.size wr W') => (World.frozen?_of_block (hb.block gl (wr.block_lt_of_cell? _ x3)) : W'.frozen? ⟨gl, i * 4 + 3, none⟩ = wr.frozen? ⟨gl, i * 4 + 3, none⟩).trans fr3
            have HML := Lib.hid hml
            obtain ⟨mm, hmm⟩ : ∃ mm, mm = x.m := ⟨_, rfl⟩
            rw [← hmm] at HML HO x3 STAY HST
            have HMC := Lib.hid (show ∀ u ∈ mm.map cv, u.oneCell' = true by intro u hu; simp only [List.mem_map] at hu; obtain ⟨_, _, rfl⟩ := hu; rfl)
            rw [← hmm] at HPS
            clear hr ht hx hx2 hln hv x1 fr ho hp hcm e hml hPS hm2 hmm
            go_wp2_with fail
            refine (HXX.out _).mono ?_
            rintro e w1 ⟨rfl, rfl⟩
            go_wp2_with fail
            refine (HL.out _).mono ?_
            rintro e w1 ⟨rfl, rfl⟩
            go_wp2_with fail
            refine HMk.out.mono ?_
            rintro e w1 ⟨rfl, rfl⟩
            go_upto_region 10 with (fail)
            refine wp_region_noPanic ?_
            refine wp_region_heldx_drew (S := fun W' => W'.cell? ⟨g, 1, none⟩ = some (.slice (some ⟨gl, 0, none⟩) q cap) ∧ W'.cell? ⟨gl, i * 4 + 3, none⟩ = some (.slice A2 mm.length c2) ∧ Below wr.heap.size wr W') 19 (by kernel_rfl) (STAY.out _ (drew_below _)) (fun hHeld => ?_)
            have L0 : Below wr.heap.size wr wr.drew := drew_below _
            refine wpAnyX_take (i := 0) (oi := ⟨some 66, _, _, _, _, _⟩) (v := .pointer (some ⟨g, 0, none⟩)) rfl (by kernel_rfl) (by kernel_rfl) (by kernel_rfl) (by kernel_rfl) (fun _ _ _ h => h) (Or.inl ⟨by kernel_rfl, by intro WW hSw; (try dsimp only at hSw); obtain ⟨hS1, hS3, hS2⟩ := hSw; go_simp⟩) (by assumption) ?_
            (try simp only [Act.put, List.setIfInBounds_toArray, List.set_cons_zero, List.set_cons_succ])
            refine wpAnyX_take (i := 1) (oi := ⟨some 67, _, _, _, _, _⟩) (v := .pointer (some ⟨g, 0, none⟩)) rfl (by kernel_rfl) (by kernel_rfl) (by kernel_rfl) (by kernel_rfl) (fun _ _ _ h => h) (Or.inl ⟨by kernel_rfl, by intro WW hSw; (try dsimp only at hSw); obtain ⟨hS1, hS3, hS2⟩ := hSw; go_simp⟩) (by assumption) ?_
            (try simp only [Act.put, List.setIfInBounds_toArray, List.set_cons_zero, List.set_cons_succ])
            refine wpAnyX_take (i := 2) (oi := ⟨some 68, _, _, _, _, _⟩) (v := .pointer (some ⟨g, 1, none⟩)) rfl (by kernel_rfl) (by kernel_rfl) (by kernel_rfl) (by kernel_rfl) (fun _ _ _ h => h) (Or.inl ⟨by kernel_rfl, by intro WW hSw; (try dsimp only at hSw); obtain ⟨hS1, hS3, hS2⟩ := hSw; go_simp⟩) (by assumption) ?_
            (try simp only [Act.put, List.setIfInBounds_toArray, List.set_cons_zero, List.set_cons_succ])
            refine wpAnyX_take (i := 3) (oi := ⟨some 69, _, _, _, _, _⟩) (v := .slice (some ⟨gl, 0, none⟩) q cap) rfl (by kernel_rfl) (by kernel_rfl) (by kernel_rfl) (by kernel_rfl) (fun _ _ _ h => h) (Or.inl ⟨by kernel_rfl, by intro WW hSw; (try dsimp only at hSw); obtain ⟨hS1, hS3, hS2⟩ := hSw; go_simp⟩) (by assumption) ?_
            (try simp only [Act.put, List.setIfInBounds_toArray, List.set_cons_zero, List.set_cons_succ])
            refine wpAnyX_take (i := 4) (oi := ⟨some 70, _, _, _, _, _⟩) (v := .int .i64 (i : Int)) rfl (by kernel_rfl) (by kernel_rfl) (by kernel_rfl) (by kernel_rfl) (fun _ _ _ h => h) (Or.inl ⟨by kernel_rfl, by intro WW hSw; (try dsimp only at hSw); obtain ⟨hS1, hS3, hS2⟩ := hSw; go_simp⟩) (by assumption) ?_
            (try simp only [Act.put, List.setIfInBounds_toArray, List.set_cons_zero, List.set_cons_succ])
            refine wpAnyX_take (i := 5) (oi := ⟨some 71, _, _, _, _, _⟩) (v := .pointer (some ⟨g, 0, none⟩)) rfl (by kernel_rfl) (by kernel_rfl) (by kernel_rfl) (by kernel_rfl) (fun _ _ _ h => h) (Or.inl ⟨by kernel_rfl, by intro WW hSw; (try dsimp only at hSw); obtain ⟨hS1, hS3, hS2⟩ := hSw; go_simp⟩) (by assumption) ?_
            (try simp only [Act.put, List.setIfInBounds_toArray, List.set_cons_zero, List.set_cons_succ])
            refine wpAnyX_take (i := 6) (oi := ⟨some 72, _, _, _, _, _⟩) (v := .pointer (some ⟨g, 0, none⟩)) rfl (by kernel_rfl) (by kernel_rfl) (by kernel_rfl) (by kernel_rfl) (fun _ _ _ h => h) (Or.inl ⟨by kernel_rfl, by intro WW hSw; (try dsimp only at hSw); obtain ⟨hS1, hS3, hS2⟩ := hSw; go_simp⟩) (by assumption) ?_
            (try simp only [Act.put, List.setIfInBounds_toArray, List.set_cons_zero, List.set_cons_succ])
            refine wpAnyX_take (i := 7) (oi := ⟨some 73, _, _, _, _, _⟩) (v := .pointer (some ⟨g, 1, none⟩)) rfl (by kernel_rfl) (by kernel_rfl) (by kernel_rfl) (by kernel_rfl) (fun _ _ _ h => h) (Or.inl ⟨by kernel_rfl, by intro WW hSw; (try dsimp only at hSw); obtain ⟨hS1, hS3, hS2⟩ := hSw; go_simp⟩) (by assumption) ?_
            (try simp only [Act.put, List.setIfInBounds_toArray, List.set_cons_zero, List.set_cons_succ])
            refine wpAnyX_take (i := 8) (oi := ⟨some 74, _, _, _, _, _⟩) (v := .slice (some ⟨gl, 0, none⟩) q cap) rfl (by kernel_rfl) (by kernel_rfl) (by kernel_rfl) (by kernel_rfl) (fun _ _ _ h => h) (Or.inl ⟨by kernel_rfl, by intro WW hSw; (try dsimp only at hSw); obtain ⟨hS1, hS3, hS2⟩ := hSw; go_simp⟩) (by assumption) ?_
            (try simp only [Act.put, List.setIfInBounds_toArray, List.set_cons_zero, List.set_cons_succ])
            refine wpAnyX_take (i := 9) (oi := ⟨some 75, _, _, _, _, _⟩) (v := .int .i64 (i : Int)) rfl (by kernel_rfl) (by kernel_rfl) (by kernel_rfl) (by kernel_rfl) (fun _ _ _ h => h) (Or.inl ⟨by kernel_rfl, by intro WW hSw; (try dsimp only at hSw); obtain ⟨hS1, hS3, hS2⟩ := hSw; go_simp⟩) (by assumption) ?_
            (try simp only [Act.put, List.setIfInBounds_toArray, List.set_cons_zero, List.set_cons_succ])
            refine wpAnyX_take (i := 10) (oi := ⟨some 76, _, _, _, _, _⟩) (v := .pointer (some ⟨gl, i * 4, none⟩)) rfl (by kernel_rfl) (by kernel_rfl) (by kernel_rfl) (by kernel_rfl) (fun _ _ _ h => h) (Or.inl ⟨by kernel_rfl, by intro WW hSw; (try dsimp only at hSw); obtain ⟨hS1, hS3, hS2⟩ := hSw; go_simp⟩) (by assumption) ?_
            (try simp only [Act.put, List.setIfInBounds_toArray, List.set_cons_zero, List.set_cons_succ])
            refine wpAnyX_take (i := 11) (oi := ⟨some 77, _, _, _, _, _⟩) (v := .pointer (some ⟨gl, i * 4 + 3, none⟩)) rfl (by kernel_rfl) (by kernel_rfl) (by kernel_rfl) (by kernel_rfl) (fun _ _ _ h => h) (Or.inl ⟨by kernel_rfl, by intro WW hSw; (try dsimp only at hSw); obtain ⟨hS1, hS3, hS2⟩ := hSw; go_simp⟩) (by assumption) ?_
            (try simp only [Act.put, List.setIfInBounds_toArray, List.set_cons_zero, List.set_cons_succ])
            refine wpAnyX_take (i := 12) (oi := ⟨some 78, _, _, _, _, _⟩) (v := .slice A2 mm.length c2) rfl (by kernel_rfl) (by kernel_rfl) (by kernel_rfl) (by kernel_rfl) (fun _ _ _ h => h) (Or.inl ⟨by kernel_rfl, by intro WW hSw; (try dsimp only at hSw); obtain ⟨hS1, hS3, hS2⟩ := hSw; go_simp⟩) (by assumption) ?_
            (try simp only [Act.put, List.setIfInBounds_toArray, List.set_cons_zero, List.set_cons_succ])
            refine wpAnyX_take (i := 14) (oi := ⟨some 80, _, _, _, _, _⟩) (v := .int .i64 (c : Int)) rfl (by kernel_rfl) (by kernel_rfl) (by kernel_rfl) (by kernel_rfl) (fun _ _ _ h => h) (Or.inl ⟨by kernel_rfl, by intro WW hSw; (try dsimp only at hSw); obtain ⟨hS1, hS3, hS2⟩ := hSw; go_simp⟩) (by assumption) ?_
            (try simp only [Act.put, List.setIfInBounds_toArray, List.set_cons_zero, List.set_cons_succ])
            refine wpAnyX_ready (rs := [13, 15]) (by kernel_rfl) (by simp) ?_
            refine AllReadyX.cons (o := ⟨some 79, _, _, _, _, _⟩) rfl (fun K hK => ?_) (AllReadyX.cons (o := ⟨some 81, _, _, _, _, _⟩) rfl (fun K hK => ?_) AllReadyX.nil)
            · skip
              refine step_appI (by rfl) (.const (.slice none 0 0)) (.tmp 78) (by rfl) wr.heap.size _ _ _ (by rfl) (World.ownsRow_nil _ _ _ _) _ _ (by rfl) (rdsI_own (own_lowI HO.out L0)) (HMC.out) (by have hml := HML.out; first | omega | (simp; omega)) (L0.size) ?_
              intro va wa oa ga
              have La : Below wr.heap.size wr wa := L0.grown ga L0.size (fun q hq => by cases hq)
              refine hK.out _ _ (STAY.out _ La) (fun hHeld => ?_)
              clear hK K
              (try simp only [Act.put, List.setIfInBounds_toArray, List.set_cons_zero, List.set_cons_succ])
              refine wpAnyX_ready (rs := [15]) (by kernel_rfl) (by simp) ?_
              refine AllReadyX.cons (o := ⟨some 81, _, _, _, _, _⟩) rfl (fun K hK => ?_) AllReadyX.nil
              go_simp
              obtain ⟨wb, hwb⟩ : ∃ wb, wb = wa.alloc (.cells #[.int .i64 (c : Int)] 3) := ⟨_, rfl⟩
              have rb : Row wb wa.heap.size 3 #[.int .i64 (c : Int)] := by rw [hwb]; exact Row.new wa _ _
              have Lb : Below wr.heap.size wr wb := by rw [hwb]; exact Below.and La (alloc_below _ (.cells #[.int .i64 (c : Int)] 3))
              rw [← hwb]
              refine hK.out _ _ (STAY.out _ Lb) (fun hHeld => ?_)
              clear hK K
              (try simp only [Act.put, List.setIfInBounds_toArray, List.set_cons_zero, List.set_cons_succ])
              refine wpAnyX_ready (rs := [16]) (by kernel_rfl) (by simp) ?_
              refine AllReadyX.cons (o := ⟨some 82, _, _, _, _, _⟩) rfl (fun K hK => ?_) AllReadyX.nil
              refine step_appI (by rfl) (.tmp 79) (.tmp 81) (by rfl) wr.heap.size _ _ _ (by rfl) (own_lowI oa (by rw [hwb]; exact alloc_below _ _)) _ _ (by rfl) ((.inr ⟨⟨wa.heap.size, 0, none⟩, 1, rfl, fun q u hu => by rw [Addr.add_lit, Nat.zero_add, Row.cell rb]; simpa using hu⟩ : RdsI _ _ [.int .i64 (c : Int)])) (by intro u hu; simp at hu; subst hu; rfl) (by have hml := HML.out; first | omega | (simp; omega)) (Lb.size) ?_
              intro vd wd oc gd
              have Ld : Below wr.heap.size wr wd := Lb.grown gd Lb.size (fun q hq => own_fromI oa q hq)
              refine hK.out _ _ (STAY.out _ Ld) (fun hHeld => ?_)
              clear hK K
              (try simp only [Act.put, List.setIfInBounds_toArray, List.set_cons_zero, List.set_cons_succ])
              refine wpAnyX_ready (rs := [17]) (by kernel_rfl) (by simp) ?_
              refine AllReadyX.cons (o := ⟨some 83, _, _, _, _, _⟩) rfl (fun K hK => ?_) AllReadyX.nil
              go_simp
              refine hK.out _ _ (STAY.out _ Ld) (fun hHeld => ?_)
              clear hK K
              (try simp only [Act.put, List.setIfInBounds_toArray, List.set_cons_zero, List.set_cons_succ])
              refine wpAnyX_ready (rs := [18]) (by kernel_rfl) (by simp) ?_
              refine AllReadyX.cons (o := ⟨some 84, _, _, _, _, _⟩) rfl (fun K hK => ?_) AllReadyX.nil
              go_simp
              refine hK.out _ _ (STAY.out _ Ld) (fun hHeld => ?_)
              clear hK K
              (try simp only [Act.put, List.setIfInBounds_toArray, List.set_cons_zero, List.set_cons_succ])
              have HS := HST.out wd vd _ Ld oc (by simp)
              have cd : wd.cell? ⟨gl, i * 4 + 3, none⟩ = some (.slice A2 mm.length c2) := (STAY.out _ Ld).2.1
              have fd := FR.out _ Ld
              obtain ⟨Ad, cd2, nd, rfl⟩ : ∃ Ad cd2 nd, vd = .slice Ad nd cd2 := by
                rcases oc.2 with ⟨rfl, h0⟩ | ⟨g, cap, cur, rfl, _⟩
                · exact ⟨none, 0, 0, rfl⟩
                · exact ⟨_, _, _, rfl⟩
              have HS2 := Lib.hid (And.intro HS.1 (HT.out.trans HS.2))
              clear oc HS
              refine wpAnyX_ready (rs := [19]) (by kernel_rfl) (by simp) ?_
              refine AllReadyX.last rfl (fun K hK => ?_)
              go_simp
              refine hK.out _ _ ?_
              clear hK K
              (try simp only [Act.put, List.setIfInBounds_toArray, List.set_cons_zero, List.set_cons_succ])
              refine wpAnyX_done (by kernel_rfl) ?_ _
              unfold NoPanic
              go_wp2
              go_roundg (q - (i + 1))
              case measure => omega
              case rel => exact ⟨i + 1, by go_num, by omega, by omega, _, by have := HS2.out.1; change R2At _ _ { r with fl := r.fl + 1, L := _ } _ _ _ at this; rw [HPS.out] at this; exact this, HS2.out.2⟩
            · skip
              go_simp
              obtain ⟨wb, hwb⟩ : ∃ wb, wb = (wr.alloc (.cells #[.int .i64 (c : Int)] 3)).drew := ⟨_, rfl⟩
              have rb : Row wb wr.heap.size 3 #[.int .i64 (c : Int)] := by rw [hwb]; exact Row.new wr _ _
              have Lb : Below wr.heap.size wr wb := by rw [hwb]; exact Below.and L0 (alloc_below _ (.cells #[.int .i64 (c : Int)] 3))
              rw [← hwb]
              refine hK.out _ _ (STAY.out _ Lb) (fun hHeld => ?_)
              clear hK K
              (try simp only [Act.put, List.setIfInBounds_toArray, List.set_cons_zero, List.set_cons_succ])
              refine wpAnyX_ready (rs := [13]) (by kernel_rfl) (by simp) ?_
              refine AllReadyX.cons (o := ⟨some 79, _, _, _, _, _⟩) rfl (fun K hK => ?_) AllReadyX.nil
              refine step_appI (by rfl) (.const (.slice none 0 0)) (.tmp 78) (by rfl) wr.heap.size _ _ _ (by rfl) (World.ownsRow_nil _ _ _ _) _ _ (by rfl) (rdsI_own (own_lowI HO.out Lb)) (HMC.out) (by have hml := HML.out; first | omega | (simp; omega)) (Lb.size) ?_
              intro va wa oa ga
              have La : Below wr.heap.size wr wa := Lb.grown ga Lb.size (fun q hq => by cases hq)
              refine hK.out _ _ (STAY.out _ La) (fun hHeld => ?_)
              clear hK K
              (try simp only [Act.put, List.setIfInBounds_toArray, List.set_cons_zero, List.set_cons_succ])
              have ra : Row wa wr.heap.size 3 #[.int .i64 (c : Int)] := rb.grown ga (by intro e; cases e)
              refine wpAnyX_ready (rs := [16]) (by kernel_rfl) (by simp) ?_
              refine AllReadyX.cons (o := ⟨some 82, _, _, _, _, _⟩) rfl (fun K hK => ?_) AllReadyX.nil
              refine step_appI (by rfl) (.tmp 79) (.tmp 81) (by rfl) wr.heap.size _ _ _ (by rfl) (oa) _ _ (by rfl) ((.inr ⟨⟨wr.heap.size, 0, none⟩, 1, rfl, fun q u hu => by rw [Addr.add_lit, Nat.zero_add, Row.cell ra]; simpa using hu⟩ : RdsI _ _ [.int .i64 (c : Int)])) (by intro u hu; simp at hu; subst hu; rfl) (by have hml := HML.out; first | omega | (simp; omega)) (La.size) ?_
              intro vd wd oc gd
              have Ld : Below wr.heap.size wr wd := La.grown gd La.size (fun q hq => own_fromI oa q hq)
              refine hK.out _ _ (STAY.out _ Ld) (fun hHeld => ?_)
              clear hK K
              (try simp only [Act.put, List.setIfInBounds_toArray, List.set_cons_zero, List.set_cons_succ])
              refine wpAnyX_ready (rs := [17]) (by kernel_rfl) (by simp) ?_
              refine AllReadyX.cons (o := ⟨some 83, _, _, _, _, _⟩) rfl (fun K hK => ?_) AllReadyX.nil
              go_simp
              refine hK.out _ _ (STAY.out _ Ld) (fun hHeld => ?_)
              clear hK K
              (try simp only [Act.put, List.setIfInBounds_toArray, List.set_cons_zero, List.set_cons_succ])
              refine wpAnyX_ready (rs := [18]) (by kernel_rfl) (by simp) ?_
              refine AllReadyX.cons (o := ⟨some 84, _, _, _, _, _⟩) rfl (fun K hK => ?_) AllReadyX.nil
              go_simp
              refine hK.out _ _ (STAY.out _ Ld) (fun hHeld => ?_)
              clear hK K
              (try simp only [Act.put, List.setIfInBounds_toArray, List.set_cons_zero, List.set_cons_succ])
              have HS := HST.out wd vd _ Ld oc (by simp)
              have cd : wd.cell? ⟨gl, i * 4 + 3, none⟩ = some (.slice A2 mm.length c2) := (STAY.out _ Ld).2.1
              have fd := FR.out _ Ld
              obtain ⟨Ad, cd2, nd, rfl⟩ : ∃ Ad cd2 nd, vd = .slice Ad nd cd2 := by
                rcases oc.2 with ⟨rfl, h0⟩ | ⟨g, cap, cur, rfl, _⟩
                · exact ⟨none, 0, 0, rfl⟩
                · exact ⟨_, _, _, rfl⟩
              have HS2 := Lib.hid (And.intro HS.1 (HT.out.trans HS.2))
              clear oc HS
              refine wpAnyX_ready (rs := [19]) (by kernel_rfl) (by simp) ?_
              refine AllReadyX.last rfl (fun K hK => ?_)
              go_simp
              refine hK.out _ _ ?_
              clear hK K
              (try simp only [Act.put, List.setIfInBounds_toArray, List.set_cons_zero, List.set_cons_succ])
              refine wpAnyX_done (by kernel_rfl) ?_ _
              unfold NoPanic
              go_wp2
              go_roundg (q - (i + 1))
              case measure => omega
              case rel => exact ⟨i + 1, by go_num, by omega, by omega, _, by have := HS2.out.1; change R2At _ _ { r with fl := r.fl + 1, L := _ } _ _ _ at this; rw [HPS.out] at this; exact this, HS2.out.2⟩
        · obtain ⟨y, hy⟩ : ∃ y : Nat, y = x.a / 64 := ⟨_, rfl⟩
          rw [← hy] at HXX
          have hle : ((y : Int) == (l : Int)) = false := by simp; omega
          have hp : isPen (a / 64) x = false := by have := HLL.out; simp [isPen, hxd, ← this, hll]
          have e : flM c a x = x := flM_far hp
          rw [prefM_keep hx e] at hr
          have HR := Lib.hid hr
          have HT := Lib.hid ht
          clear hr ht hx hx2 hln hv x1 x3 fr fr3 ho hp e hml hll hi0 hiI HMk hy
          go_wp2_with fail
          refine (HXX.out _).mono ?_
          rintro e w1 ⟨rfl, rfl⟩
          go_wp2_with fail
          refine (HL.out _).mono ?_
          rintro e w1 ⟨rfl, rfl⟩
          go_wp2
          go_roundg (q - (i + 1))
          case measure => omega
          case rel => exact ⟨i + 1, by go_num, by omega, by omega, ms', HR.out, HT.out⟩
      · rw [hxd] at x2
        have hp : isPen (a / 64) x = false := by simp [isPen, hxd]
        have e : flM c a x = x := flM_far hp
        rw [prefM_keep hx e] at hr
        have HR := Lib.hid hr
        have HT := Lib.hid ht
        clear hr ht hx hx2 hln hv x0 x1 x3 fr fr3 ho hp e hml
        go_wp2
        go_roundg (q - (i + 1))
        case measure => omega
        case rel => exact ⟨i + 1, by go_num, by omega, by omega, ms', HR.out, HT.out⟩
    · have hie : i = q := by omega
      have hid : decide ((i : Int) < (q : Int)) = false := by simp; omega
      have HE : Hid (P2 w g vF (.slice A q cap) ms (r.flush c a) wr) := Lib.hid (by
        refine ⟨vF, .slice A q cap, ms', ?_, ht⟩
        rw [hie, ← HQ.out, prefM_all] at hr
        rw [← HQ.out]
        exact hr)
      clear hr ht
      go_wp2
      go_ret
      exact ⟨rfl, HE.out⟩
end Go.Proofs.Ytkeajfedlhgejaa
