/- Texts of this claim, packed: PTail, PBytes. -/
import Derived.Test.YtkbklooocdfcfaaGreatDoorPz08
import Derived.ArgAppend
import Derived.Deep.AppendLies
set_option linter.unusedVariables false
set_option maxRecDepth 100000
set_option maxHeartbeats 6400000
namespace Go.Proofs.YtkbklooocdfcfaaGreatDoor
open Go.RowKit
theorem info165 : (Tryz.prog.info? 165).map (fun i => (i.zero, i.size, i.bytes)) = some (some (.agg #[.int .u64 0, .int .u64 0]), 2, 16) := by kernel_rfl
theorem tail_take {cur : List Value} {off n : Nat} {xs : List Value} {x y : Value} (hl : xs.length = n * 2) (h : (cur.drop off).take (n * 2) = xs) (hs : off + n * 2 + 1 < cur.length) :
  (((cur.set (off + n * 2) x).set (off + n * 2 + 1) y).drop off).take ((n + 1) * 2) = xs ++ [x, y] := by
 apply List.ext_getElem?
 intro i
 rw [List.getElem?_take, List.getElem?_drop]
 have hx : ∀ j, xs[j]? = if j < n * 2 then cur[off + j]? else none := by
  intro j
  rw [<- h, List.getElem?_take, List.getElem?_drop]
 by_cases h1 : i < n * 2
 ·rw [if_pos (by omega), List.getElem?_set_ne (by omega), List.getElem?_set_ne (by omega), List.getElem?_append_left (by omega), hx, if_pos h1]
 ·by_cases h2 : i = n * 2
  ·subst h2
   rw [if_pos (by omega), List.getElem?_set_ne (by omega), List.getElem?_set_self (by omega), List.getElem?_append_right (by omega), hl, Nat.sub_self]
   rfl
  ·by_cases h3 : i = n * 2 + 1
   ·subst h3
    rw [if_pos (by omega), show off + (n * 2 + 1) = off + n * 2 + 1 from by omega, List.getElem?_set_self (by rw [List.length_set]; omega), List.getElem?_append_right (by omega), hl, show n * 2 + 1 - n * 2 = 1 from by omega]
    rfl
   ·rw [if_neg (by omega), List.getElem?_append_right (by omega), hl]
    rw [List.getElem?_eq_none (by simp; omega)]
theorem run_append_tail {ty : TypeId} {w : World} {v : Value} {l : List (Nat × Nat)} (p : Nat × Nat) (ht : Tail w v l) (hn : l.length <= 1000000000) (ad : Addr) (c : Nat) (hnews : ∀ j u, [wv p.1, wv p.2][j]? = some u -> w.cell? (ad.add j) = some u) :
    ∃ h off cap w', (Builtin.append_ #[28, 28] ty #[v, .slice (some ad) 1 c]).run Tryz.prog w = .ok (.slice (some ⟨h, off, none⟩) (l.length + 1) cap) w' /\ Tail w' (.slice (some ⟨h, off, none⟩) (l.length + 1) cap) (l ++ [p]) /\ w.grownBy w' v.ownBlock /\ (v.ownBlock = some h \/ w.heap.size <= h) := by
  obtain ⟨i0, hi, hz0, hz1, hz2⟩ := info_parts info165
  have hmx : l.length + 1 <= maxLen := by unfold maxLen; omega
  have hlen : (l ++ [p]).length = l.length + 1 := by simp
  have hflat : flat (l ++ [p]) = flat l ++ [wv p.1, wv p.2] := by rw [flat_append]; rfl
  rcases ht with ⟨rfl, rfl⟩ | ⟨h, off, cap, cur, rfl, hr, hp0, hlc, hcm, hfit, htk⟩
  · obtain ⟨v', w', hrun, ho, hg, _⟩ := run_append_own (P := Tryz.prog) w w.heap.size 28 ty 165 i0 _ 2 16 Tryz.underlying28 hi hz0 hz1 hz2 rfl (by decide) (.slice none 0 0) 0 [] (World.ownsRow_nil w _ _ _) ad 1 c [wv p.1, wv p.2] rfl hnews
      (by intro u hu; simp at hu; rcases hu with rfl | rfl <;> rfl) (by unfold maxLen; omega) (by omega) (Nat.le_refl _)
    rcases ho.2 with ⟨_, h0⟩ | ⟨g, cap, cur, rfl, hbg, hh, hnc, hm, hcs, htk⟩
    · omega
    · refine ⟨g, 0, cap, w', hrun, .inr ⟨g, 0, cap, cur, rfl, hh, by simp, by simpa using hnc, hm, by omega, ?_⟩, hg, .inr hbg⟩
      · rw [List.drop_zero]
        simpa [flat] using htk
  · by_cases hroom : l.length + 1 <= cap
    · have hc : ∀ j, j < 2 -> (w.cell? ⟨h, off + l.length * 2 + j, none⟩).isSome = true := by
        intro j hj
        rw [hr.cell, Array.getElem?_eq_getElem (by omega)]
        rfl
      have hrun := run_append_room_cells (P := Tryz.prog) w 28 ty 165 i0 Tryz.underlying28 hi h off l.length cap ad 1 c [wv p.1, wv p.2] (by rw [hz1]; rfl) hnews
        (by intro u hu; simp at hu; rcases hu with rfl | rfl <;> rfl) hroom (by rw [hz1]; simpa using hc) (fun j _ => hr.free _)
      rw [hz1] at hrun
      refine ⟨h, off, cap, _, hrun, .inr ⟨h, off, cap, _, by rw [hlen], ((hr.set _ _).set _ _), by rw [hlen]; omega, by rw [hlen]; exact hroom, hcm, by simpa using hfit, ?_⟩, ?_, .inl rfl⟩
      · rw [hlen, hflat]
        simp only [Array.toList_setIfInBounds]
        refine tail_take ?_ htk ?_
        · rw [flat_length]; omega
        · have := Array.length_toList (xs := cur); omega
      · refine ⟨rfl, rfl, rfl, by simp [World.setCells, World.setCell], fun k hk hne => ?_⟩
        have hkh : k ≠ h := fun e => hne (by rw [e]; rfl)
        show ((w.setCell _ _).setCell _ _).heap[k]? = _
        rw [heap_setCell_other _ _ _ _ hkh, heap_setCell_other _ _ _ _ hkh]
    · obtain ⟨v', w', hrun, ho, hg⟩ := run_append_arg_grows (P := Tryz.prog) w 28 ty 165 i0 _ 2 16 Tryz.underlying28 hi hz0 hz1 hz2 rfl (by decide) ⟨h, off, none⟩ l.length cap (flat l) (by rw [flat_length]; omega)
        (by
          intro j u hu
          have e : (⟨h, off, none⟩ : Addr).add j = ⟨h, off + j, none⟩ := by unfold Addr.add; split <;> simp_all
          rw [e, hr.cell]
          rw [<- htk, List.getElem?_take, List.getElem?_drop] at hu
          split at hu
          · simpa using hu
          · cases hu) ad 1 c [wv p.1, wv p.2] rfl hnews (by omega) hmx (by omega)
      rcases ho.2 with ⟨_, h0⟩ | ⟨g, cap', cur', rfl, hbg, hh, hnc, hm, hcs, htk'⟩
      · omega
      · refine ⟨g, 0, cap', w', hrun, .inr ⟨g, 0, cap', cur', by rw [hlen], hh, by rw [hlen]; omega, by rw [hlen]; exact hnc, hm, by omega, ?_⟩, ⟨hg.os, hg.tape, hg.output, hg.size, fun k hk _ => hg.block k hk (by simp)⟩, .inr hbg⟩
        · rw [List.drop_zero, hlen, hflat]
          exact htk'
  
theorem wp_append_tail {w : World} {o : Oper} {a : Act} {K : Act -> World -> Prop} {Q : Exit -> Act -> World -> Prop} (s x : Operand)
  (ho : o.op = .call { callee := .builtin .append, args := #[s, x], argTypes := #[28, 28] }) (v : Value) (l : List (Nat × Nat)) (p : Nat × Nat) (hs : a.eval s = v) (ht : Tail w v l) (hn : l.length <= 1000000000)
  (ad : Addr) (c : Nat) (hx : a.eval x = .slice (some ad) 1 c) (hnews : ∀ j u, [wv p.1, wv p.2][j]? = some u -> w.cell? (ad.add j) = some u)
  (h : ∀ h off cap w', Tail w' (.slice (some ⟨h, off, none⟩) (l.length + 1) cap) (l ++ [p]) -> w.grownBy w' v.ownBlock -> (v.ownBlock = some h \/ w.heap.size <= h) -> K (a.put o.dst (.slice (some ⟨h, off, none⟩) (l.length + 1) cap)) w') : o.wp Tryz.prog a w K Q := by
 obtain ⟨g, off, cap, w', hr, h2, h3, h4⟩ := run_append_tail (ty := o.type) p ht hn ad c hnews
 unfold Oper.wp execOp
 simp only [ho, resolve, invoke, builtin, Sem.run_bind, Sem.run_pure, Result.andThen_ok, List.map_toArray, List.map_cons, List.map_nil, hs, hx, hr]
 exact h g off cap w' h2 h3 h4
theorem step_append_tail {w : World} {ops : Array Oper} {o : Oper} {a : Act} {K : Act -> World -> Prop} {Q : Exit -> Act -> World -> Prop} {E : Prop} (hgd : o.guard = none) (s x : Operand)
  (ho : o.op = .call { callee := .builtin .append, args := #[s, x], argTypes := #[28, 28] }) (v : Value) (l : List (Nat × Nat)) (p : Nat × Nat) (hs : a.eval s = v) (ht : Tail w v l) (hn : l.length <= 1000000000)
  (ad : Addr) (c : Nat) (hx : a.eval x = .slice (some ad) 1 c) (hnews : ∀ j u, [wv p.1, wv p.2][j]? = some u -> w.cell? (ad.add j) = some u)
  (h : ∀ h off cap w', Tail w' (.slice (some ⟨h, off, none⟩) (l.length + 1) cap) (l ++ [p]) -> w.grownBy w' v.ownBlock -> (v.ownBlock = some h \/ w.heap.size <= h) -> K (a.put o.dst (.slice (some ⟨h, off, none⟩) (l.length + 1) cap)) w') :
  if Region.wanted o (yielded ops a.tmps) = true then Oper.wp Tryz.prog o a w K Q else E := by
 have hw : Region.wanted o (yielded ops a.tmps) = true := by simp [Region.wanted, hgd]
 rw [if_pos hw]
 exact wp_append_tail s x ho v l p hs ht hn ad c hx hnews h
theorem info5 : (Tryz.prog.info? 5).map (fun i => (i.zero, i.size, i.bytes)) = some (some (.int .u8 0), 1, 1) := by kernel_rfl
def wbyt (n k : Nat) : Nat := n / 256 ^ k % 256
def wbytes (n : Nat) : List Nat := (List.range 8).map (wbyt n)
def bytesL (l : List Nat) : List Nat := l.flatMap wbytes
theorem wbytes_length (n : Nat) : (wbytes n).length = 8 := by simp [wbytes]
theorem bytesL_length (l : List Nat) : (bytesL l).length = 8 * l.length := by
 unfold bytesL
 induction l with
 | nil => rfl
 | cons a t ih => simp [List.flatMap_cons, ih, wbytes_length]; omega
theorem bytesL_snoc (a : List Nat) (n : Nat) : bytesL (a ++ [n]) = bytesL a ++ wbytes n := by simp [bytesL]
theorem bytesL_lt (l : List Nat) : ∀ b ∈ bytesL l, b < 256 := by
 intro b hb
 simp only [bytesL, wbytes, List.mem_flatMap, List.mem_map] at hb
 obtain ⟨_, _, i, _, rfl⟩ := hb
 exact Nat.mod_lt _ (by decide)
theorem wbytes8 (n : Nat) : (wbytes n).map bv = [bv (wbyt n 0), bv (wbyt n 1), bv (wbyt n 2), bv (wbyt n 3), bv (wbyt n 4), bv (wbyt n 5), bv (wbyt n 6), bv (wbyt n 7)] := rfl
theorem wb8 (x : Nat) (hx : x < 18446744073709551616) : (wbytes x).map bv = #[Value.int IntKind.u8 ((x : Int) % 256), Value.int IntKind.u8 ((x : Int) / 256 % 256), Value.int IntKind.u8 ((x : Int) / 65536 % 256),
          Value.int IntKind.u8 ((x : Int) / 16777216 % 256), Value.int IntKind.u8 ((x : Int) / 4294967296 % 256),
          Value.int IntKind.u8 ((x : Int) / 1099511627776 % 256), Value.int IntKind.u8 ((x : Int) / 281474976710656 % 256),
          Value.int IntKind.u8 ((x : Int) / 72057594037927936)].toList := by
  have h : ∀ (a b : Nat) (c : Int), (a : Int) = c -> bv a = Value.int .u8 c := fun a b c e => by unfold bv; rw [e]
  rw [wbytes8]
  simp only [List.cons.injEq, and_true]
  refine ⟨h _ 0 _ ?_, h _ 0 _ ?_, h _ 0 _ ?_, h _ 0 _ ?_, h _ 0 _ ?_, h _ 0 _ ?_, h _ 0 _ ?_, h _ 0 _ ?_⟩ <;> simp [wbyt] <;> omega
theorem bytesOf_any (l : List Nat) (g n cap : Nat) (w : World) (hlen : l.length = n) (hl : n <= 131072) (hw : ∀ x ∈ l, x < 18446744073709551616) (h : w.ownsRow 0 29 1 (.slice (some ⟨g, 0, none⟩) n cap) n (l.map wv)) :
  Calls Tryz.prog 64 #[.slice (some ⟨g, 0, none⟩) n cap] w fun e w' => (∃ v, e = .returned v /\ w'.ownsRow w.heap.size 5 1 v (8 * n) ((bytesL l).map bv)) /\ Below w.heap.size w w' := by
 obtain ⟨i0, hi, hz0, hz1, hz2⟩ := info_parts info5
 subst hlen
 have m0 : 8 * l.length <= maxLen := by unfold maxLen; omega
 have m1 : i0.bytes * (8 * l.length) <= 281474976710656 := by rw [hz2]; omega
 go_enter Tryz.func64, Tryz.ntmps64
 go_wp2_with (at_make; refine wpList_make_own _ rfl (.const (.int .i64 0)) (.tmp 8) 42 rfl w.heap.size 5 i0 (.int .u8 0) 1 Tryz.underlying42 hi hz0 hz1 .i64 .i64 _ (8 * l.length) rfl rfl (by omega) m1 m0 (Nat.le_refl _) ?_; intro w1 hown1 hgrow1)
 have hb1 : Below w.heap.size w w1 := (Below.refl _ _).grown hgrow1 (Nat.le_refl _) (by intro q hq; cases hq)
 have hcell : ∀ k (hk : k < l.length), w1.cell? ⟨g, k, none⟩ = some (wv l[k]) := by
  intro k hk
  have hg := (h.lt g rfl).2
  rw [hb1.cell (p := ⟨g, k, none⟩) hg, h.cellAt k (by omega), List.getElem?_map, List.getElem?_eq_getElem hk]
  rfl
 clear hgrow1 m1
 have hW : 0 < l.length -> g < w.heap.size := fun _ => (h.lt g rfl).2
 have H := Lib.hid h
 have HW := Lib.hid hw
 clear h hw
 go_loopw [3, 12] (fun v i wr => ∃ k : Nat, k <= l.length /\ i = .int .i64 k /\ wr.ownsRow w.heap.size 5 1 v (8 * k) ((bytesL (l.take k)).map bv) /\ Below w.heap.size w wr) (fun _ i _ => l.length - (intOf i).toNat)
 case atStart => exact ⟨0, by omega, rfl, by simpa [bytesL] using hown1, hb1⟩
 case round =>
  obtain ⟨k, hk, rfl, hown, hb⟩ := hrel
  clear hown1 hb1 hcell
  by_cases hlt : k < l.length
  ·have hc : wr.cell? ⟨g, k, none⟩ = some (wv l[k]) := by
    have hg := hW (by omega)
    rw [hb.cell (p := ⟨g, k, none⟩) hg, H.out.cellAt k (by omega), List.getElem?_map, List.getElem?_eq_getElem hlt]
    rfl
   have hx : l[k] < 18446744073709551616 := HW.out _ (List.getElem_mem hlt)
   have hsn : bytesL (l.take (k + 1)) = bytesL (l.take k) ++ wbytes l[k] := by rw [List.take_succ_eq_append_getElem hlt, bytesL_snoc]
   obtain ⟨x, hxe⟩ : ∃ x, x = l[k] := ⟨_, rfl⟩
   rw [<- hxe] at hc hx hsn
   unfold wv at hc
   have HS := Lib.hid hsn
   clear hsn hxe
   have hone := hown.alloc
   have a1 : 8 * k + 8 <= maxLen := by unfold maxLen; omega
   have a2 : (8 * k + 8) * 1 <= 140737488355328 := by omega
   have a3 : w.heap.size <= wr.heap.size := hb.size
   have hHN := Lib.hid (fun o : Obj => heap_alloc_new wr o)
   go_wp2_with (at_builtin; refine wpList_append_own _ rfl (.tmp 16) (.tmp 40) 42 rfl w.heap.size 5 i0 (.int .u8 0) 1 1 Tryz.underlying42 hi hz0 hz1 hz2 rfl (by decide) _ (8 * k) _ rfl (hone _) ⟨wr.heap.size, 0, none⟩ 8 8 _ rfl rfl (World.news_of_block (fr := (0, 0)) (hHN.out _)) (by simp [Value.oneCell']) a1 a2 (by simp; omega) ?_; intro v' w2 hown2 hgrow2 hnil2)
   have hb2 : Below w.heap.size w w2 := (hb.alloc hb.size _).grown hgrow2 (by simp; omega) (by intro q hq; exact (hown.lt q hq).1)
   refine ⟨⟨k + 1, by omega, by go_num, ?_, hb2⟩, by simp [intOf]; omega⟩
   rw [HS.out, List.map_append, wb8 x hx]
   exact hown2
  ·have hk2 : k = l.length := by omega
   subst hk2
   go_wp2
   go_ret
   exact ⟨⟨_, rfl, by rw [List.take_of_length_le (Nat.le_refl _)] at hown; exact hown⟩, hb⟩
def Fits (l : List Nat) : Prop := ∀ x ∈ l, x < 18446744073709551616
theorem ownsRow_len {w : World} {B n : Nat} {e : TypeId} {v : Value} {l : List Nat} (h : w.ownsRow B e 1 v n (l.map wv)) : l.length = n := by
 have := h.1
 simpa using this
def BytesPost (w : World) (l : List Nat) (e : Ending) (w' : World) : Prop := (∃ v, e = .returned v /\ w'.ownsRow w.heap.size 5 1 v l.length (l.map bv)) /\ Below w.heap.size w w'
theorem view_yes {w : World} {y : Lay} {s : St} (h : MemAt w y s) (hf : Fits s.view) : Calls Tryz.prog 28 #[.pointer (some ⟨y.g, 0, none⟩)] w (BytesPost w (bytesL s.view)) := by
 have H := Lib.hid (none_yes h)
 have hlen := ownsRow_len h.vie
 have HB := Lib.hid (bytesOf_any s.view y.gv (8 * s.nl) y.cv w hlen (by have := h.most; omega) hf h.vie)
 have h1 := h.row.cell 1
 simp only [List.getElem?_toArray, List.getElem?_cons_succ, List.getElem?_cons_zero] at h1
 have e8 : 8 * (8 * s.nl) = (bytesL s.view).length := by rw [bytesL_length, hlen]
 rw [e8] at HB
 obtain ⟨N, hN⟩ : ∃ N, N = 8 * s.nl := ⟨_, rfl⟩
 rw [<- hN] at h1 HB
 obtain ⟨g, hg⟩ : ∃ g, g = y.g := ⟨_, rfl⟩
 rw [<- hg] at h1 H ⊢
 obtain ⟨L, hL⟩ : ∃ L, L = bytesL s.view := ⟨_, rfl⟩
 rw [<- hL] at HB ⊢
 clear hg hN h e8 hlen hL hf
 go_enter Tryz.func28, Tryz.ntmps28
 go_wp2_with fail
 refine H.out.mono ?_
 rintro e w1 ⟨rfl, rfl⟩
 go_wp2_with fail
 refine HB.out.mono ?_
 rintro e w2 ⟨⟨v, rfl, ho⟩, hb⟩
 go_wp2
 go_ret
 exact ⟨⟨v, rfl, ho⟩, hb⟩
end Go.Proofs.YtkbklooocdfcfaaGreatDoor
