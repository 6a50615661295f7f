/- Texts of this claim, packed: R2FrS. -/
import Derived.Test.YtkeajfedlhgejaaPc44
import Derived.Maps.AppendAt
import Derived.Great.BuildSlice
/- What PmemFronts holds on its way: the game, and the list of the stores made so far, apart; a second memory into which fronts of them go. -/
namespace Go.Proofs.Ytkeajfedlhgejaa
open Go Go.RowKit
set_option linter.unusedVariables false
def PM (w : World) (vM : Value) (q : Nat) : Prop := q < w.heap.size ∨ vM.ownBlock = some q
structure Fr (w : World) (gg nl : Nat) (F0 : List Nat) (m : Nat) (vM : Value) (M : List (Nat × Nat)) (wr : World) (s : St) (r : Rf) : Prop where
  gs : GSP (PM w vM) wr gg s r
  rel : RelAt s r
  sm : Sm2 r m
  nl : s.nl = nl
  F : r.F = F0
  own : wr.ownsRow w.heap.size 47 2 vM M.length (flat M)
  low : Below w.heap.size w wr
theorem own2_below {w w' : World} {B n s : Nat} {e : TypeId} {v : Value} {xs : List Value} (h : w.ownsRow B e s v n xs) (hb : Below w.heap.size w w') : w'.ownsRow B e s v n xs :=
  own2_same h fun k hk => hb.block k (by obtain ⟨cs, hc⟩ := own2_tg h hk; exact (Array.getElem?_eq_some_iff.1 hc).1)
section
variable {w wr w' : World} {gg nl m : Nat} {F0 : List Nat} {vM v' : Value} {M : List (Nat × Nat)} {s : St} {r : Rf}
theorem Fr.below (h : Fr w gg nl F0 m vM M wr s r) (hb : Below wr.heap.size wr w') : Fr w gg nl F0 m vM M w' s r :=
  ⟨h.gs.below hb, h.rel, h.sm, h.nl, h.F, own2_below h.own hb, belowT h.low (belowB hb h.low.size)⟩
theorem Fr.mono {m' : Nat} (h : Fr w gg nl F0 m vM M wr s r) (hm : m ≤ m') : Fr w gg nl F0 m' vM M wr s r := ⟨h.gs, h.rel, h.sm.mono hm, h.nl, h.F, h.own, h.low⟩
theorem Fr.act (h : Fr w gg nl F0 m vM M wr s r) (hnl : nl ≤ 8) (hm : m ≤ 900) {x : Act2} {ks : Value} (h6 : x.k ≠ 6) (hM : (if x.k = 1 ∧ wd2 s.nl x.a = true then prs r.L ++ [(x.a, x.v)] else prs r.L) = M) (hK : KpAt w ks x.kp) (h20 : x.kp.length ≤ 20) (ha : x.a < 18446744073709551616) (hv : x.v < 18446744073709551616) :
    Calls Try.prog 13 #[.pointer (some ⟨gg, 0, none⟩), actA x ks] wr fun e w' => e = .returned (.bool true) ∧ ∃ s' r', Fr w gg nl F0 (m + 1) vM M w' s' r' ∧ prs r'.L = M := by
  have hKB : KB (PM w vM) wr ks x.kp := by
    obtain ⟨A, cap, h1, h2, h3, h4, h5, h7⟩ := (KB.of hK (by omega)).keep (keepB h.low)
    exact ⟨A, cap, h1, h2, h3, fun a e hne => .inl (h4 a e hne), h5, h7⟩
  have hp := prs_do (x := x) (s := s) (r := r) h6
  refine (gdo_anyP h.gs h.rel h.sm (by rw [h.nl]; exact hnl) hm x ks hKB ha hv).mono ?_
  rintro e w' ⟨rfl, q1, q2⟩
  refine ⟨rfl, _, _, ⟨q1, rel_do h.rel h.sm (by omega) x hv, doR_small h.sm, (nl_do h.rel h.sm (by omega) hv).trans h.nl, hp.1.trans h.F, own2_same h.own fun k hk => q2.block k (.inr hk), belowT h.low ⟨q2.os, q2.tape, q2.output, q2.size, fun k hk => q2.block k (.inl hk)⟩⟩, hp.2.trans hM⟩
theorem Fr.app (h : Fr w gg nl F0 m vM M wr s r) (hg : wr.grownBy w' vM.ownBlock) {a v : Nat} (ho : w'.ownsRow w.heap.size 47 2 v' (M.length + 1) (flat M ++ [wv a, wv v])) (hat : v'.ownBlock = vM.ownBlock ∨ v'.ownBlock = some wr.heap.size) : Fr w gg nl F0 m v' (M ++ [(a, v)]) w' s r := by
  have hM := own_fromI h.own
  obtain ⟨y, g, vF, vL, ms, h3, hn, hl⟩ := h.gs
  have same : ∀ k, k < wr.heap.size → ¬ PM w vM k → w'.heap[k]? = wr.heap[k]? := fun k hk hp => hg.block k hk (fun e => hp (.inr e.symm))
  have np : ∀ k, k < wr.heap.size → ¬ PM w vM k → ¬ PM w v' k := fun k hk hp hq => by
    rcases hq with hq | hq
    · exact hp (.inl hq)
    · rcases hat with e | e
      · exact hp (.inr (e.symm.trans hq))
      · have := Option.some.inj (hq.symm.trans e); omega
  refine ⟨⟨y, g, vF, vL, ms, ⟨?_, ?_, ?_⟩, ⟨np _ h3.row.lt hn.gg, fun k hk => np k (h3.m.lt k hk) (hn.m k hk), fun k hk => np k (h3.d.lt k hk) (hn.d k hk)⟩, ?_⟩, h.rel, h.sm, h.nl, h.F, ?_, ?_⟩
  · exact h3.row.same (same _ h3.row.lt hn.gg)
  · exact h3.m.same fun k hk => same k (h3.m.lt k hk) (hn.m k hk)
  · exact h3.d.same fun k hk => same k (h3.d.lt k hk) (hn.d k hk)
  · intro q hq
    rcases hq with hq | hq
    · have := h.low.size; have := hg.size; omega
    · obtain ⟨cs, hc⟩ := own2_tg ho hq; exact (Array.getElem?_eq_some_iff.1 hc).1
  · rw [List.length_append, flat_append]
    exact ho
  · exact belowT h.low ⟨hg.os, hg.tape, hg.output, hg.size, fun k hk => hg.block k (by have := h.low.size; omega) (fun e => by have := hM k e.symm; omega)⟩
theorem Fr.is (h : Fr w gg nl F0 m vM M wr s r) (hnl : nl ≤ 8) (a : Nat) (ha : a < 18446744073709551616) : ∃ g, ∀ W', Below wr.heap.size wr W' → W'.cell? ⟨gg, 1, none⟩ = some (.pointer (some ⟨g, 0, none⟩)) ∧ Calls Try.prog 15 #[.pointer (some ⟨g, 0, none⟩), .int .u64 (a : Int)] W' fun e w' => e = .returned (.bool (wd2 nl a)) ∧ W' = w' := by
  obtain ⟨y, g, vF, vL, ms, h3, hn, hl⟩ := h.gs
  refine ⟨g, fun W' hb => ⟨?_, ?_⟩⟩
  · have := (h3.row.below hb h3.row.lt).cell 1
    simpa using this
  · have := r2Is_any (h3.d.below hb) a (by rw [h.rel.nl, h.nl]; omega) ha
    rw [h.rel.nl, h.nl] at this
    exact this
theorem GSP.looks {P : Nat → Prop} {W : World} (h : GSP P W gg s r) (hr : RelAt s r) : ∃ yg, ∀ W', Below W.heap.size W W' → Looks W' gg s r yg := by
  obtain ⟨y, g, vF, vL, ms, h3, hn, _⟩ := h
  refine ⟨y.g, fun W' hb => ⟨?_, view_yes (h3.m.below hb) hr.ok.vie, image_yes (h3.m.below hb) hr.ok.las, fun a => pendP (h3.m.below hb) hr a⟩⟩
  have := (h3.row.below hb h3.row.lt).cell 0
  simpa using this
end
/-- A second memory behind a front of the stores. -/
structure StG (nl : Nat) (F0 : List Nat) (M : List (Nat × Nat)) (i : Nat) (s : St) : Prop where
  en : s.nl = nl
  pl : s.pend.length = nl
  view : s.view = lastW F0 (M.take i)
  ok : s.Ok
  st : s.st ≤ i
  few : ∀ l ∈ s.pend, l.length ≤ i
theorem StG.zero {nl : Nat} {bs : List Nat} (hb : ∀ x ∈ bs, x < 256) (M : List (Nat × Nat)) : StG nl (wordsK bs (64 * nl) (8 * nl)) M 0 (St.ofBytes nl bs) :=
  ⟨rfl, by simp [St.ofBytes, St.zero], rfl, ofBytes_Ok hb, Nat.le_refl _, fun l hl => by simp [St.ofBytes, St.zero] at hl; simp [hl.2]⟩
theorem StG.step {nl i : Nat} {F0 : List Nat} {M : List (Nat × Nat)} {s : St} (h : StG nl F0 M i s) (hi : i ≤ 1000) {p : Nat × Nat} (hp : M[i]? = some p) (h8 : p.1 % 8 = 0) (ha : p.1 < 64 * nl) (hv : p.2 < 18446744073709551616) : StG nl F0 M (i + 1) (s.store p.1 p.2) := by
  have hst := h.st
  have hg : (s.pend.getD (p.1 / 64) []).length ≤ i := by
    rw [List.getD_eq_getElem?_getD]
    cases e : s.pend[p.1 / 64]? with
    | none => simp
    | some l => exact h.few l (List.mem_of_getElem? e)
  have hlt := (List.getElem?_eq_some_iff.1 hp).1
  refine ⟨h.en, by simp [St.store, h.pl], ?_, store_Ok h.ok h8 (by rw [h.pl]; omega) hv (by omega) (by omega), by simp [St.store]; omega, ?_⟩
  · show s.view.set (p.1 / 8) p.2 = _
    rw [h.view, List.take_add_one, hp, Option.toList_some, lastW_append]
    rfl
  · intro l hl
    rcases List.mem_or_eq_of_mem_set (show l ∈ s.pend.set _ _ from hl) with q | q
    · have := h.few l q; omega
    · rw [q, List.length_append]; simp only [List.length_cons, List.length_nil]; omega
def FmI (w3 : World) (mg nl : Nat) (F0 : List Nat) (M : List (Nat × Nat)) (i : Nat) (wr : World) : Prop := ∃ y s, MemAt wr y s ∧ y.g = mg ∧ (∀ k, y.fp k → w3.heap.size ≤ k) ∧ StG nl F0 M i s ∧ Below w3.heap.size w3 wr
section
variable {w3 wr w' : World} {mg nl i : Nat} {F0 : List Nat} {M : List (Nat × Nat)}
theorem FmI.below (h : FmI w3 mg nl F0 M i wr) (hb : Below wr.heap.size wr w') : FmI w3 mg nl F0 M i w' := by
  obtain ⟨y, s, h1, h2, h3, h4, h5⟩ := h
  exact ⟨y, s, h1.below hb, h2, h3, h4, belowT h5 (belowB hb h5.size)⟩
theorem FmI.view (h : FmI w3 mg nl F0 M i wr) : Calls Try.prog 17 #[.pointer (some ⟨mg, 0, none⟩)] wr (BytesPost wr (bytesL (lastW F0 (M.take i)))) := by
  obtain ⟨y, s, h1, rfl, h3, h4, h5⟩ := h
  have := view_yes h1 h4.ok.vie
  rw [h4.view] at this
  exact this
theorem FmI.store (h : FmI w3 mg nl F0 M i wr) (hi : i ≤ 1000) {p : Nat × Nat} (hp : M[i]? = some p) (h8 : p.1 % 8 = 0) (ha : p.1 < 64 * nl) (hv : p.2 < 18446744073709551616) : Calls Try.prog 18 #[.pointer (some ⟨mg, 0, none⟩), .int .u64 (p.1 : Int), .int .u64 (p.2 : Int)] wr fun e w' => e = .returned (.int .i64 0) ∧ FmI w3 mg nl F0 M (i + 1) w' := by
  obtain ⟨y, s, h1, rfl, h3, h4, h5⟩ := h
  have hst := h4.st
  refine (store_ok h1 p.1 p.2 h8 (by rw [h4.en]; exact ha) hv (by omega) (fun l hl => by have := h4.few l hl; omega)).mono ?_
  rintro e w' ⟨rfl, y', hm, ht⟩
  refine ⟨rfl, y', _, hm, ht.g, fun k hk => ?_, h4.step hi hp h8 ha hv, belowT h5 (ht.but.below h5.size h3)⟩
  rcases ht.fp k hk with q | q
  · exact h3 k q
  · have := h5.size; omega
end
theorem infoPutF : (Try.prog.info? 47).map (fun i => (i.zero, i.size, i.bytes)) = some (some (.agg #[.int .u64 0, .int .u64 0]), 2, 16) := by kernel_rfl
/-- One store is appended to the list of those that were made. -/
theorem step_appM {ops : Array Oper} {o : Oper} {a : Act} {w : World} {K : Act → World → Prop} {Q : Exit → Act → World → Prop} {E : Prop} (hw : Region.wanted o (yielded ops a.tmps) = true) (s x : Operand)
    (ho : o.op = .call { callee := .builtin .append, args := #[s, x], argTypes := #[41, 41] }) (B : Nat) (V : Value) (n : Nat) (xs : List Value) (hs : a.eval s = V) (hown : w.ownsRow B 47 2 V n xs) (b : Nat) (p q : Value) (hx : a.eval x = .slice (some ⟨b, 0, none⟩) 1 1) (hr : Row w b 47 #[p, q]) (h1 : p.oneCell' = true ∧ q.oneCell' = true) (hn : n ≤ 1000000) (hB : B ≤ w.heap.size)
    (h : ∀ v' w', w'.ownsRow B 47 2 v' (n + 1) (xs ++ [p, q]) → w.grownBy w' V.ownBlock → (v'.ownBlock = V.ownBlock ∨ v'.ownBlock = some w.heap.size) → K (a.put o.dst v') w') : if Region.wanted o (yielded ops a.tmps) = true then Oper.wp Try.prog o a w K Q else E := by
  rw [if_pos hw]
  obtain ⟨i0, hi, hz0, hz1, hz2⟩ := info_parts infoPutF
  obtain ⟨v', w', hrun, h2, h3, _, h5⟩ := run_append_own_at (P := Try.prog) w B 41 o.type 47 i0 (.agg #[.int .u64 0, .int .u64 0]) 2 16 Try.underlying41 hi hz0 hz1 hz2 rfl (by decide) V n xs hown ⟨b, 0, none⟩ 1 1 [p, q] rfl (fun j u hj => by rw [Addr.add_lit, Nat.zero_add, hr.cell]; simpa using hj) (by intro u hu; simp at hu; rcases hu with rfl | rfl; exact h1.1; exact h1.2) (by unfold maxLen; omega) (by omega) hB
  unfold Oper.wp execOp
  simp only [ho, resolve, invoke, builtin, Sem.run_bind, Sem.run_pure, Result.andThen_ok, List.map_toArray, List.map_cons, List.map_nil, hs, hx, hrun]
  exact h v' w' h2 h3 h5
/-- A list of one store is built. -/
theorem step_buildM {ops : Array Oper} {o : Oper} {a : Act} {w : World} {K : Act → World → Prop} {Q : Exit → Act → World → Prop} {E : Prop} (hw : Region.wanted o (yielded ops a.tmps) = true) (x : Operand) (ho : o.op = .buildSlice 41 1 #[(0, x)]) (p q : Int) (hx : a.eval x = .agg #[.int .u64 p, .int .u64 q])
    (h : K (a.put o.dst (.slice (some ⟨w.heap.size, 0, none⟩) 1 1)) (w.alloc (.cells #[.int .u64 p, .int .u64 q] 47))) : if Region.wanted o (yielded ops a.tmps) = true then Oper.wp Try.prog o a w K Q else E := by
  rw [if_pos hw]
  obtain ⟨i0, hi, hz0, hz1, hz2⟩ := info_parts infoPutF
  refine wp_buildSlice 41 47 1 _ ho #[.int .u64 p, .int .u64 q] i0 (.agg #[.int .u64 0, .int .u64 0]) Try.underlying41 hi hz0 (by rw [hz1]; decide) (by rw [hz1]; decide) ?_ h
  rw [hz1]
  have e : Array.range 2 = #[0, 1] := by decide
  simp [hx, Instr.fill, Value.cells, e]
end Go.Proofs.Ytkeajfedlhgejaa
