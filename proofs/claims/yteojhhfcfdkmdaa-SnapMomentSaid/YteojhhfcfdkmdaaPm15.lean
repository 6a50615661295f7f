/- Texts of this claim, packed: PTail, PBytes. -/
import Derived.Test.YteojhhfcfdkmdaaPm14
import Derived.ArgAppend
import Derived.Deep.AppendLies
set_option linter.unusedSimpArgs false
set_option linter.unusedVariables false
/- append of one store onto a line's pending stores, wherever they stand in their block: into its spare cells, or into a new block; for lists of at most 10^9 stores. -/
namespace Go.Proofs.Yteojhhfcfdkmdaa
open Go.RowKit
set_option linter.unusedVariables false
theorem info64 : (Try.prog.info? 64).map (fun i => (i.zero, i.size, i.bytes)) = some (some (.agg #[.int .u64 0, .int .u64 0]), 2, 16) := by kernel_rfl

theorem tail_take {cur : List Value} {off n : Nat} {xs : List Value} {x y : Value} (hl : xs.length = n * 2) (h : (cur.drop off).take (n * 2) = xs) (hs : off + n * 2 + 1 < cur.length) :
    (((cur.set (off + n * 2) x).set (off + n * 2 + 1) y).drop off).take ((n + 1) * 2) = xs ++ [x, y] := by
  apply List.ext_getElem?
  intro i
  rw [List.getElem?_take, List.getElem?_drop]
  have hx : ∀ j, xs[j]? = if j < n * 2 then cur[off + j]? else none := by
    intro j
    rw [← h, List.getElem?_take, List.getElem?_drop]
  by_cases h1 : i < n * 2
  · rw [if_pos (by omega), List.getElem?_set_ne (by omega), List.getElem?_set_ne (by omega), List.getElem?_append_left (by omega), hx, if_pos h1]
  · by_cases h2 : i = n * 2
    · subst h2
      rw [if_pos (by omega), List.getElem?_set_ne (by omega), List.getElem?_set_self (by omega), List.getElem?_append_right (by omega), hl, Nat.sub_self]
      rfl
    · by_cases h3 : i = n * 2 + 1
      · subst h3
        rw [if_pos (by omega), show off + (n * 2 + 1) = off + n * 2 + 1 from by omega, List.getElem?_set_self (by rw [List.length_set]; omega), List.getElem?_append_right (by omega), hl, show n * 2 + 1 - n * 2 = 1 from by omega]
        rfl
      · rw [if_neg (by omega), List.getElem?_append_right (by omega), hl]
        rw [List.getElem?_eq_none (by simp; omega)]

theorem run_append_tail {ty : TypeId} {w : World} {v : Value} {l : List (Nat × Nat)} (p : Nat × Nat) (ht : Tail w v l) (hn : l.length ≤ 1000000000) (ad : Addr) (c : Nat) (hnews : ∀ j u, [wv p.1, wv p.2][j]? = some u → w.cell? (ad.add j) = some u) :
    ∃ h off cap w', (Builtin.append_ #[60, 60] ty #[v, .slice (some ad) 1 c]).run Try.prog w = .ok (.slice (some ⟨h, off, none⟩) (l.length + 1) cap) w' ∧ Tail w' (.slice (some ⟨h, off, none⟩) (l.length + 1) cap) (l ++ [p]) ∧ w.grownBy w' v.ownBlock ∧ (v.ownBlock = some h ∨ w.heap.size ≤ h) := by
  obtain ⟨i0, hi, hz0, hz1, hz2⟩ := info_parts info64
  have hmx : l.length + 1 ≤ maxLen := by unfold maxLen; omega
  have hlen : (l ++ [p]).length = l.length + 1 := by simp
  have hflat : flat (l ++ [p]) = flat l ++ [wv p.1, wv p.2] := by rw [flat_append]; rfl
  rcases ht with ⟨rfl, rfl⟩ | ⟨h, off, cap, cur, rfl, hr, hp0, hlc, hcm, hfit, htk⟩
  · obtain ⟨v', w', hrun, ho, hg, _⟩ := run_append_own (P := Try.prog) w w.heap.size 60 ty 64 i0 _ 2 16 Try.underlying60 hi hz0 hz1 hz2 rfl (by decide) (.slice none 0 0) 0 [] (World.ownsRow_nil w _ _ _) ad 1 c [wv p.1, wv p.2] rfl hnews
      (by intro u hu; simp at hu; rcases hu with rfl | rfl <;> rfl) (by unfold maxLen; omega) (by omega) (Nat.le_refl _)
    rcases ho.2 with ⟨_, h0⟩ | ⟨g, cap, cur, rfl, hbg, hh, hnc, hm, hcs, htk⟩
    · omega
    · refine ⟨g, 0, cap, w', hrun, .inr ⟨g, 0, cap, cur, rfl, hh, by simp, by simpa using hnc, hm, by omega, ?_⟩, hg, .inr hbg⟩
      · rw [List.drop_zero]
        simpa [flat] using htk
  · by_cases hroom : l.length + 1 ≤ cap
    · have hc : ∀ j, j < 2 → (w.cell? ⟨h, off + l.length * 2 + j, none⟩).isSome = true := by
        intro j hj
        rw [hr.cell, Array.getElem?_eq_getElem (by omega)]
        rfl
      have hrun := run_append_room_cells (P := Try.prog) w 60 ty 64 i0 Try.underlying60 hi h off l.length cap ad 1 c [wv p.1, wv p.2] (by rw [hz1]; rfl) hnews
        (by intro u hu; simp at hu; rcases hu with rfl | rfl <;> rfl) hroom (by rw [hz1]; simpa using hc) (fun j _ => hr.free _)
      rw [hz1] at hrun
      refine ⟨h, off, cap, _, hrun, .inr ⟨h, off, cap, _, by rw [hlen], ((hr.set _ _).set _ _), by rw [hlen]; omega, by rw [hlen]; exact hroom, hcm, by simpa using hfit, ?_⟩, ?_, .inl rfl⟩
      · rw [hlen, hflat]
        simp only [Array.toList_setIfInBounds]
        refine tail_take ?_ htk ?_
        · rw [flat_length]; omega
        · have := Array.length_toList (xs := cur); omega
      · refine ⟨rfl, rfl, rfl, by simp [World.setCells, World.setCell], fun k hk hne => ?_⟩
        have hkh : k ≠ h := fun e => hne (by rw [e]; rfl)
        show ((w.setCell _ _).setCell _ _).heap[k]? = _
        rw [heap_setCell_other _ _ _ _ hkh, heap_setCell_other _ _ _ _ hkh]
    · obtain ⟨v', w', hrun, ho, hg⟩ := run_append_arg_grows (P := Try.prog) w 60 ty 64 i0 _ 2 16 Try.underlying60 hi hz0 hz1 hz2 rfl (by decide) ⟨h, off, none⟩ l.length cap (flat l) (by rw [flat_length]; omega)
        (by
          intro j u hu
          have e : (⟨h, off, none⟩ : Addr).add j = ⟨h, off + j, none⟩ := by unfold Addr.add; split <;> simp_all
          rw [e, hr.cell]
          rw [← htk, List.getElem?_take, List.getElem?_drop] at hu
          split at hu
          · simpa using hu
          · cases hu) ad 1 c [wv p.1, wv p.2] rfl hnews (by omega) hmx (by omega)
      rcases ho.2 with ⟨_, h0⟩ | ⟨g, cap', cur', rfl, hbg, hh, hnc, hm, hcs, htk'⟩
      · omega
      · refine ⟨g, 0, cap', w', hrun, .inr ⟨g, 0, cap', cur', by rw [hlen], hh, by rw [hlen]; omega, by rw [hlen]; exact hnc, hm, by omega, ?_⟩, ⟨hg.os, hg.tape, hg.output, hg.size, fun k hk _ => hg.block k hk (by simp)⟩, .inr hbg⟩
        · rw [List.drop_zero, hlen, hflat]
          exact htk'
  
/-- At the operation; at a step of a region that draws its order. -/
theorem wp_append_tail {w : World} {o : Oper} {a : Act} {K : Act → World → Prop} {Q : Exit → Act → World → Prop} (s x : Operand)
    (ho : o.op = .call { callee := .builtin .append, args := #[s, x], argTypes := #[60, 60] }) (v : Value) (l : List (Nat × Nat)) (p : Nat × Nat) (hs : a.eval s = v) (ht : Tail w v l) (hn : l.length ≤ 1000000000)
    (ad : Addr) (c : Nat) (hx : a.eval x = .slice (some ad) 1 c) (hnews : ∀ j u, [wv p.1, wv p.2][j]? = some u → w.cell? (ad.add j) = some u)
    (h : ∀ h off cap w', Tail w' (.slice (some ⟨h, off, none⟩) (l.length + 1) cap) (l ++ [p]) → w.grownBy w' v.ownBlock → (v.ownBlock = some h ∨ w.heap.size ≤ h) → K (a.put o.dst (.slice (some ⟨h, off, none⟩) (l.length + 1) cap)) w') : o.wp Try.prog a w K Q := by
  obtain ⟨g, off, cap, w', hr, h2, h3, h4⟩ := run_append_tail (ty := o.type) p ht hn ad c hnews
  unfold Oper.wp execOp
  simp only [ho, resolve, invoke, builtin, Sem.run_bind, Sem.run_pure, Result.andThen_ok, List.map_toArray, List.map_cons, List.map_nil, hs, hx, hr]
  exact h g off cap w' h2 h3 h4
theorem step_append_tail {w : World} {ops : Array Oper} {o : Oper} {a : Act} {K : Act → World → Prop} {Q : Exit → Act → World → Prop} {E : Prop} (hgd : o.guard = none) (s x : Operand)
    (ho : o.op = .call { callee := .builtin .append, args := #[s, x], argTypes := #[60, 60] }) (v : Value) (l : List (Nat × Nat)) (p : Nat × Nat) (hs : a.eval s = v) (ht : Tail w v l) (hn : l.length ≤ 1000000000)
    (ad : Addr) (c : Nat) (hx : a.eval x = .slice (some ad) 1 c) (hnews : ∀ j u, [wv p.1, wv p.2][j]? = some u → w.cell? (ad.add j) = some u)
    (h : ∀ h off cap w', Tail w' (.slice (some ⟨h, off, none⟩) (l.length + 1) cap) (l ++ [p]) → w.grownBy w' v.ownBlock → (v.ownBlock = some h ∨ w.heap.size ≤ h) → K (a.put o.dst (.slice (some ⟨h, off, none⟩) (l.length + 1) cap)) w') :
    if Region.wanted o (yielded ops a.tmps) = true then Oper.wp Try.prog o a w K Q else E := by
  have hw : Region.wanted o (yielded ops a.tmps) = true := by simp [Region.wanted, hgd]
  rw [if_pos hw]
  exact wp_append_tail s x ho v l p hs ht hn ad c hx hnews h
end Go.Proofs.Yteojhhfcfdkmdaa
/- bytesOf, View, Image: the bytes of words, the lowest one of each first, in new memory. -/
namespace Go.Proofs.Yteojhhfcfdkmdaa
open Go.RowKit
set_option linter.unusedVariables false
theorem info5 : (Try.prog.info? 5).map (fun i => (i.zero, i.size, i.bytes)) = some (some (.int .u8 0), 1, 1) := by kernel_rfl

/-- A word's byte at place k; a word's bytes; the bytes of words. -/
def wbyt (n k : Nat) : Nat := n / 256 ^ k % 256
def wbytes (n : Nat) : List Nat := (List.range 8).map (wbyt n)
def bytesL (l : List Nat) : List Nat := l.flatMap wbytes
theorem wbytes_length (n : Nat) : (wbytes n).length = 8 := by simp [wbytes]
theorem bytesL_length (l : List Nat) : (bytesL l).length = 8 * l.length := by
  unfold bytesL
  induction l with
  | nil => rfl
  | cons a t ih => simp [List.flatMap_cons, ih, wbytes_length]; omega
theorem bytesL_append (a b : List Nat) : bytesL (a ++ b) = bytesL a ++ bytesL b := by simp [bytesL]
theorem bytesL_snoc (a : List Nat) (n : Nat) : bytesL (a ++ [n]) = bytesL a ++ wbytes n := by simp [bytesL]
theorem bytesL_lt (l : List Nat) : ∀ b ∈ bytesL l, b < 256 := by
  intro b hb
  simp only [bytesL, wbytes, List.mem_flatMap, List.mem_map] at hb
  obtain ⟨_, _, i, _, rfl⟩ := hb
  exact Nat.mod_lt _ (by decide)
theorem wbytes8 (n : Nat) : (wbytes n).map bv = [bv (wbyt n 0), bv (wbyt n 1), bv (wbyt n 2), bv (wbyt n 3), bv (wbyt n 4), bv (wbyt n 5), bv (wbyt n 6), bv (wbyt n 7)] := rfl
theorem wb8 (x : Nat) (hx : x < 18446744073709551616) : (wbytes x).map bv = #[Value.int IntKind.u8 ((x : Int) % 256), Value.int IntKind.u8 ((x : Int) / 256 % 256), Value.int IntKind.u8 ((x : Int) / 65536 % 256),
          Value.int IntKind.u8 ((x : Int) / 16777216 % 256), Value.int IntKind.u8 ((x : Int) / 4294967296 % 256),
          Value.int IntKind.u8 ((x : Int) / 1099511627776 % 256), Value.int IntKind.u8 ((x : Int) / 281474976710656 % 256),
          Value.int IntKind.u8 ((x : Int) / 72057594037927936)].toList := by
  have h : ∀ (a b : Nat) (c : Int), (a : Int) = c → bv a = Value.int .u8 c := fun a b c e => by unfold bv; rw [e]
  rw [wbytes8]
  simp only [List.cons.injEq, and_true]
  refine ⟨h _ 0 _ ?_, h _ 0 _ ?_, h _ 0 _ ?_, h _ 0 _ ?_, h _ 0 _ ?_, h _ 0 _ ?_, h _ 0 _ ?_, h _ 0 _ ?_⟩ <;> simp [wbyt] <;> omega
/-- Words that fit. -/
def Fits (l : List Nat) : Prop := ∀ x ∈ l, x < 18446744073709551616
theorem ownsRow_len {w : World} {B n : Nat} {e : TypeId} {v : Value} {l : List Nat} (h : w.ownsRow B e 1 v n (l.map wv)) : l.length = n := by
  have := h.1
  simpa using this
def BytesPost (w : World) (l : List Nat) (e : Ending) (w' : World) : Prop := (∃ v, e = .returned v ∧ w'.ownsRow w.heap.size 5 1 v l.length (l.map bv)) ∧ Below w.heap.size w w'
end Go.Proofs.Yteojhhfcfdkmdaa
