/- Texts of this claim, packed: HSet, HMeth. -/
import Derived.Test.YtkbklooocdfcfaaGreatDoorPz05
import Derived.Test.YtkbklooocdfcfaaGreatDoorPz04
import Derived.ArgAppend
import Derived.Deep.AppendLies
import Derived.Shelf.Abstract
set_option linter.unusedVariables false
set_option maxRecDepth 100000
set_option maxHeartbeats 6400000
namespace Go.Proofs.YtkbklooocdfcfaaGreatDoor
open Go.RowKit
def Adr (w : World) (v : Value) (l : List Nat) : Prop :=
 (v = .slice none 0 0 /\ l = []) \/
 ∃ h off cap cur, v = .slice (some ⟨h, off, none⟩) l.length cap /\ Row w h 30 cur /\ l.length <= cap /\ cap <= maxLen /\ off + cap <= cur.size /\ (cur.toList.drop off).take l.length = l.map wv
theorem Adr.keep {w w' : World} {v : Value} {l : List Nat} {fp : Nat -> Prop} (h : Adr w v l) (hb : But w w' fp) (hn : ∀ k, v.ownBlock = some k -> ¬ fp k) : Adr w' v l := by
 rcases h with h | ⟨b, off, cap, cur, rfl, hr, h⟩
 ·exact .inl h
 ·exact .inr ⟨b, off, cap, cur, rfl, hb.row hr (hn b rfl), h⟩
theorem Adr.below {w w' : World} {v : Value} {l : List Nat} (h : Adr w v l) (hb : Below w.heap.size w w') : Adr w' v l := h.keep (But.of_below hb (fun _ => False)) (fun _ _ h => h)
theorem Adr.lt {w : World} {v : Value} {l : List Nat} (h : Adr w v l) {k : Nat} (hk : v.ownBlock = some k) : k < w.heap.size := by
 rcases h with ⟨rfl, _⟩ | ⟨b, off, cap, cur, rfl, hr, _⟩
 ·cases hk
 ·cases hk; exact hr.lt
theorem drop_get {cur : List Value} {off n : Nat} {l : List Nat} (h : (cur.drop off).take n = l.map wv) {i : Nat} (hi : i < l.length) (hn : i < n) : cur[off + i]? = some (wv (gd l i)) := by
 have h1 : ((cur.drop off).take n)[i]? = (l.map wv)[i]? := by rw [h]
 rw [List.getElem?_take, if_pos hn, List.getElem?_drop, List.getElem?_map, gd_eq hi] at h1
 exact h1
theorem Adr.cell {w : World} {h off cap n : Nat} {l : List Nat} (ha : Adr w (.slice (some ⟨h, off, none⟩) n cap) l) {i : Nat} (hi : i < l.length) : w.cell? ⟨h, off + i, none⟩ = some (wv (gd l i)) := by
 rcases ha with ⟨h0, _⟩ | ⟨b, o, c, cur, e, hr, _, _, _, ht⟩
 ·cases h0
 ·cases e
  rw [hr.cell, <- Array.getElem?_toList]
  exact drop_get ht hi hi
theorem Adr.free {w : World} {h off cap n : Nat} {l : List Nat} (ha : Adr w (.slice (some ⟨h, off, none⟩) n cap) l) (i : Nat) : w.frozen? ⟨h, off + i, none⟩ = false := by
 rcases ha with ⟨h0, _⟩ | ⟨b, o, c, cur, e, hr, _, _, _, ht⟩
 ·cases h0
 ·cases e
  exact hr.free _
theorem Adr.pos {w : World} {v : Value} {l : List Nat} (ha : Adr w v l) (h0 : 0 < l.length) : ∃ h off cap, v = .slice (some ⟨h, off, none⟩) l.length cap /\ l.length <= cap /\ cap <= maxLen := by
 rcases ha with ⟨_, h0'⟩ | ⟨b, o, c, cur, e, hr, h1, h2, _⟩
 ·subst h0'; simp at h0
 ·exact ⟨b, o, c, e, h1, h2⟩
theorem Adr.set {w : World} {h off cap n : Nat} {l : List Nat} (ha : Adr w (.slice (some ⟨h, off, none⟩) n cap) l) {i : Nat} (hi : i < l.length) (x : Nat) : Adr (w.setCell ⟨h, off + i, none⟩ (wv x)) (.slice (some ⟨h, off, none⟩) n cap) (l.set i x) := by
 rcases ha with ⟨h0, _⟩ | ⟨b, o, c, cur, e, hr, h1, h2, h3, ht⟩
 ·cases h0
 ·cases e
  refine .inr ⟨h, off, cap, _, by rw [List.length_set], hr.set _ _, by rw [List.length_set]; exact h1, h2, by simpa using h3, ?_⟩
  rw [List.length_set, Array.toList_setIfInBounds]
  apply List.ext_getElem?
  intro k
  rw [List.getElem?_take, List.getElem?_map, List.getElem?_set]
  by_cases hk : k < l.length
  ·rw [if_pos hk, List.getElem?_drop, List.getElem?_set]
   by_cases e : i = k
   ·subst e
    rw [if_pos rfl, if_pos rfl, if_pos (by rw [Array.length_toList]; omega), if_pos hi]
    rfl
   ·rw [if_neg (by omega), if_neg e, drop_get ht hk hk, gd_eq hk]
    rfl
  ·rw [if_neg hk, if_neg (by omega), List.getElem?_eq_none (by omega)]
   rfl
theorem Adr.take {w : World} {h off cap n : Nat} {l : List Nat} (ha : Adr w (.slice (some ⟨h, off, none⟩) n cap) l) {m : Nat} (hm : m <= l.length) : Adr w (.slice (some ⟨h, off, none⟩) m cap) (l.take m) := by
 rcases ha with ⟨h0, _⟩ | ⟨b, o, c, cur, e, hr, h1, h2, h3, ht⟩
 ·cases h0
 ·cases e
  have hl : (l.take m).length = m := by simp [hm]
  refine .inr ⟨h, off, cap, cur, by rw [hl], hr, by omega, h2, h3, ?_⟩
  rw [hl, List.map_take, <- ht, List.take_take, Nat.min_eq_left hm]
theorem Adr.of_own {w : World} {B n : Nat} {v : Value} {l : List Nat} (h : w.ownsRow B 30 1 v n (l.map wv)) : Adr w v l /\ ∀ k, v.ownBlock = some k -> B <= k := by
 have hn : l.length = n := by have := h.1; simpa using this
 refine ⟨?_, own_from h⟩
 rcases h.2 with ⟨rfl, h0⟩ | ⟨g, cap, cur, rfl, hb, hh, h1, h2, h3, h4⟩
 ·exact .inl ⟨rfl, List.eq_nil_of_length_eq_zero (by omega)⟩
 ·refine .inr ⟨g, 0, cap, cur, by rw [hn], hh, by omega, h2, by omega, ?_⟩
  rw [List.drop_zero, hn]
  simpa using h4
theorem infoA : (Tryz.prog.info? 30).map (fun i => (i.zero, i.size, i.bytes)) = some (some (.int .u64 0), 1, 8) := by kernel_rfl
theorem run_append_adr {T ty : TypeId} (hT : Tryz.prog.underlying T = some (.slice 30)) {w : World} {v : Value} {l : List Nat} (x : Nat) (ht : Adr w v l) (hn : l.length <= 1000000000) (ad : Addr) (c : Nat) (hnews : w.cell? ad = some (wv x)) :
    ∃ h off cap w', (Builtin.append_ #[T, T] ty #[v, .slice (some ad) 1 c]).run Tryz.prog w = .ok (.slice (some ⟨h, off, none⟩) (l.length + 1) cap) w' /\ Adr w' (.slice (some ⟨h, off, none⟩) (l.length + 1) cap) (l ++ [x]) /\ w.grownBy w' v.ownBlock /\ (v.ownBlock = some h \/ w.heap.size <= h) := by
  obtain ⟨i0, hi, hz0, hz1, hz2⟩ := info_parts infoA
  have hmx : l.length + 1 <= maxLen := by unfold maxLen; omega
  have hlen : (l ++ [x]).length = l.length + 1 := by simp
  have hmap : (l ++ [x]).map wv = l.map wv ++ [wv x] := by simp
  have hnews' : ∀ j u, [wv x][j]? = some u -> w.cell? (ad.add j) = some u := by
    intro j u hj
    cases j with
    | zero => rw [add_zero']; rw [hnews]; simpa using hj
    | succ j => simp at hj
  have h1 : ∀ u ∈ [wv x], u.oneCell' = true := by intro u hu; simp at hu; subst hu; rfl
  rcases ht with ⟨rfl, rfl⟩ | ⟨h, off, cap, cur, rfl, hr, hlc, hcm, hfit, htk⟩
  · obtain ⟨v', w', hrun, ho, hg, _⟩ := run_append_own (P := Tryz.prog) w w.heap.size T ty 30 i0 _ 1 8 hT hi hz0 hz1 hz2 rfl (by decide) (.slice none 0 0) 0 [] (World.ownsRow_nil w _ _ _) ad 1 c [wv x] rfl hnews' h1 (by unfold maxLen; omega) (by omega) (Nat.le_refl _)
    rcases ho.2 with ⟨_, h0⟩ | ⟨g, cap, cur, rfl, hbg, hh, hnc, hm, hcs, htk⟩
    · omega
    · refine ⟨g, 0, cap, w', hrun, .inr ⟨g, 0, cap, cur, by simp, hh, by simpa using hnc, hm, by omega, ?_⟩, hg, .inr hbg⟩
      rw [List.drop_zero]
      simpa using htk
  · by_cases hroom : l.length + 1 <= cap
    · have hc : ∀ j, j < [wv x].length -> (w.cell? ⟨h, off + l.length * i0.size + j, none⟩).isSome = true := by
        intro j hj
        have : j = 0 := by simpa using hj
        rw [hr.cell, hz1, Array.getElem?_eq_getElem (by omega)]
        rfl
      have hrun := run_append_room_cells (P := Tryz.prog) w T ty 30 i0 hT hi h off l.length cap ad 1 c [wv x] (by rw [hz1]; rfl) hnews' h1 hroom hc (fun j _ => hr.free _)
      rw [hz1] at hrun
      have hcur : off + l.length < cur.size := by omega
      refine ⟨h, off, cap, _, hrun, .inr ⟨h, off, cap, cur.setIfInBounds (off + l.length) (wv x), by rw [hlen], ?_, by rw [hlen]; exact hroom, hcm, by simpa using hfit, ?_⟩, ?_, .inl rfl⟩
      · show Row (w.setCell ⟨h, off + l.length * 1, none⟩ (wv x)) h 30 _
        rw [Nat.mul_one]
        exact hr.set _ _
      · rw [hlen, hmap, Array.toList_setIfInBounds]
        apply List.ext_getElem?
        intro k
        rw [List.getElem?_take]
        by_cases hk : k < l.length
        · rw [if_pos (by omega), List.getElem?_drop, List.getElem?_set_ne (by omega), drop_get htk hk hk, List.getElem?_append_left (by simpa using hk), List.getElem?_map, gd_eq hk]
          rfl
        · by_cases e : k = l.length
          · subst e
            rw [if_pos (by omega), List.getElem?_drop, List.getElem?_set_self (by rw [Array.length_toList]; exact hcur), List.getElem?_append_right (by simp)]
            simp
          · rw [if_neg (by omega), List.getElem?_eq_none (by simp; omega)]
      · refine ⟨rfl, rfl, rfl, by simp [World.setCells, World.setCell], fun k hk hne => ?_⟩
        have hkh : k ≠ h := fun e => hne (by rw [e]; rfl)
        show (w.setCell _ _).heap[k]? = _
        rw [heap_setCell_other _ _ _ _ hkh]
    · obtain ⟨v', w', hrun, ho, hg⟩ := run_append_arg_grows (P := Tryz.prog) w T ty 30 i0 _ 1 8 hT hi hz0 hz1 hz2 rfl (by decide) ⟨h, off, none⟩ l.length cap (l.map wv) (by simp)
        (by
          intro j u hu
          have e : (⟨h, off, none⟩ : Addr).add j = ⟨h, off + j, none⟩ := by unfold Addr.add; split <;> simp_all
          have hj : j < l.length := by have := (List.getElem?_eq_some_iff.1 hu).1; simpa using this
          rw [e, hr.cell, <- Array.getElem?_toList, drop_get htk hj hj, <- hu, List.getElem?_map, gd_eq hj]
          rfl) ad 1 c [wv x] rfl hnews' (by omega) hmx (by omega)
      rw [<- hmap] at ho
      obtain ⟨hA, hB⟩ := Adr.of_own ho
      rcases ho.2 with ⟨_, h0⟩ | ⟨g, cap', cur', rfl, hbg, hh, hnc, hm, hcs, htk'⟩
      · omega
      · exact ⟨g, 0, cap', w', hrun, hA, ⟨hg.os, hg.tape, hg.output, hg.size, fun k hk _ => hg.block k hk (by simp)⟩, .inr hbg⟩
theorem wp_append_adr {T : TypeId} (hT : Tryz.prog.underlying T = some (.slice 30)) {w : World} {o : Oper} {a : Act} {K : Act -> World -> Prop} {Q : Exit -> Act -> World -> Prop} (s x : Operand)
  (ho : o.op = .call { callee := .builtin .append, args := #[s, x], argTypes := #[T, T] }) (v : Value) (l : List Nat) (p : Nat) (hs : a.eval s = v) (ht : Adr w v l) (hn : l.length <= 1000000000)
  (ad : Addr) (c : Nat) (hx : a.eval x = .slice (some ad) 1 c) (hnews : w.cell? ad = some (wv p))
  (h : ∀ h off cap w', Adr w' (.slice (some ⟨h, off, none⟩) (l.length + 1) cap) (l ++ [p]) -> w.grownBy w' v.ownBlock -> (v.ownBlock = some h \/ w.heap.size <= h) -> K (a.put o.dst (.slice (some ⟨h, off, none⟩) (l.length + 1) cap)) w') : o.wp Tryz.prog a w K Q := by
 obtain ⟨g, off, cap, w', hr, h2, h3, h4⟩ := run_append_adr (ty := o.type) hT p ht hn ad c hnews
 unfold Oper.wp execOp
 simp only [ho, resolve, invoke, builtin, Sem.run_bind, Sem.run_pure, Result.andThen_ok, List.map_toArray, List.map_cons, List.map_nil, hs, hx, hr]
 exact h g off cap w' h2 h3 h4
def FreeAt (w : World) (g : Nat) (v : Value) (l : List Nat) : Prop := Row w g 179 #[v] /\ Adr w v l /\ v.ownBlock ≠ some g
def ffp (g : Nat) (v : Value) (k : Nat) : Prop := k = g \/ v.ownBlock = some k
theorem FreeAt.keep {w w' : World} {g : Nat} {v : Value} {l : List Nat} {fp : Nat -> Prop} (h : FreeAt w g v l) (hb : But w w' fp) (hn : ∀ k, ffp g v k -> ¬ fp k) : FreeAt w' g v l :=
 ⟨hb.row h.1 (hn g (.inl rfl)), h.2.1.keep hb (fun k hk => hn k (.inr hk)), h.2.2⟩
theorem FreeAt.below {w w' : World} {g : Nat} {v : Value} {l : List Nat} (h : FreeAt w g v l) (hb : Below w.heap.size w w') : FreeAt w' g v l := h.keep (But.of_below hb (fun _ => False)) (fun _ _ h => h)
def FTurn (w w' : World) (g : Nat) (v v' : Value) : Prop := But w w' (ffp g v) /\ ∀ k, v'.ownBlock = some k -> v.ownBlock = some k \/ w.heap.size <= k
theorem FTurn.of_below {w w' : World} (g : Nat) (v : Value) (h : Below w.heap.size w w') : FTurn w w' g v v := ⟨But.of_below h _, fun _ h => .inl h⟩
theorem FTurn.trans {w w1 w2 : World} {g : Nat} {v v1 v2 : Value} (h : FTurn w w1 g v v1) (h2 : FTurn w1 w2 g v1 v2) : FTurn w w2 g v v2 := by
 refine ⟨h.1.trans h2.1 fun k hk => ?_, fun k hk => ?_⟩
 ·rcases hk with rfl | hk
  ·exact .inl (.inl rfl)
  ·rcases h.2 k hk with h3 | h3
   ·exact .inl (.inr h3)
   ·exact .inr h3
 ·rcases h2.2 k hk with h3 | h3
  ·exact h.2 k h3
  ·exact .inr (Nat.le_trans h.1.size h3)
theorem method_ptr {P : Program} {t elem : TypeId} {f : FuncId} {name : String} {a : Addr} {v : Value} {w : World} {m : Method} {i : TypeInfo} (hi : P.info? t = some i) (hm : i.methods.find? (·.name == name) = some m) (hp : m.path.toList = []) (hf : m.func = some (f, false))
  (hu : P.underlying t = some (.pointer elem)) (hagg : ∀ w, (isAgg elem).run P w = .ok false w) (hc : w.cell? a = some v) (n : Nat) :
  (method (n + 1) t (.pointer (some a)) name).run P w = .ok (f, v) w := by
 have hp' : m.path.isEmpty = true := by
  have : m.path = #[] := by rw [<- Array.toList_inj]; exact hp
  rw [this]; rfl
 have ht : ∀ w, (typeInfo t).run P w = .ok i w := fun w => by unfold typeInfo; simp [Sem.run_bind, hi]
 have hs : ∀ (s : String) (w : World), (Builtin.ssaWrapNilChk_ #[t] t #[.pointer (some a), strVal "", strVal s]).run P w = .ok (.pointer (some a)) w := fun s w => rfl
 unfold method
 simp only [Sem.run_bind, ht, Result.andThen_ok, hm, hp, hf, follow, Sem.run_pure, receiverAt, run_underlying hu, Place.get, hp', if_true, hs, asAddr, loadVar, hagg, Bool.false_eq_true, if_false, run_load, hc]
theorem method_own {P : Program} {t elem : TypeId} {f : FuncId} {name : String} {a : Addr} {w : World} {m : Method} {i : TypeInfo} (hi : P.info? t = some i) (hm : i.methods.find? (·.name == name) = some m) (hp : m.path.toList = []) (hf : m.func = some (f, true))
  (hu : P.underlying t = some (.pointer elem)) (n : Nat) :
  (method (n + 1) t (.pointer (some a)) name).run P w = .ok (f, .pointer (some a)) w := by
 have ht : ∀ w, (typeInfo t).run P w = .ok i w := fun w => by unfold typeInfo; simp [Sem.run_bind, hi]
 unfold method
 simp only [Sem.run_bind, ht, Result.andThen_ok, hm, hp, hf, follow, Sem.run_pure, receiverAt, run_underlying hu, Place.get]
theorem und193 : Tryz.prog.underlying 193 = some (.pointer 177) := by kernel_rfl
theorem row_of {t : TypeId} {name : String} {q : List FieldStep × Option (FuncId × Bool)} (h : ((Tryz.prog.info? t).bind fun i => i.methods.find? (·.name == name)).map (fun m => (m.path.toList, m.func)) = some q) : ∃ i m, Tryz.prog.info? t = some i /\ i.methods.find? (·.name == name) = some m /\ m.path.toList = q.1 /\ m.func = q.2 := by
 cases hi : Tryz.prog.info? t with
 | none => rw [hi] at h; simp at h
 | some i =>
  rw [hi] at h
  simp only [Option.bind_some] at h
  cases hm : i.methods.find? (·.name == name) with
  | none => rw [hm] at h; simp at h
  | some m => rw [hm] at h; simp at h; subst h; exact ⟨i, m, rfl, hm, rfl, rfl⟩
theorem fuel_pos : Tryz.prog.types.size + Made.depth = (Tryz.prog.types.size + Made.depth - 1) + 1 := by
 have : 0 < Made.depth := by decide
 omega
theorem mrLen : ((Tryz.prog.info? 193).bind fun i => i.methods.find? (·.name == "Len")).map (fun m => (m.path.toList, m.func)) = some ([], some (230, false)) := by kernel_rfl
theorem mrLess : ((Tryz.prog.info? 193).bind fun i => i.methods.find? (·.name == "Less")).map (fun m => (m.path.toList, m.func)) = some ([], some (231, false)) := by kernel_rfl
theorem mrSwap : ((Tryz.prog.info? 193).bind fun i => i.methods.find? (·.name == "Swap")).map (fun m => (m.path.toList, m.func)) = some ([], some (232, false)) := by kernel_rfl
theorem mrPop : ((Tryz.prog.info? 193).bind fun i => i.methods.find? (·.name == "Pop")).map (fun m => (m.path.toList, m.func)) = some ([], some (233, true)) := by kernel_rfl
theorem mrPush : ((Tryz.prog.info? 193).bind fun i => i.methods.find? (·.name == "Push")).map (fun m => (m.path.toList, m.func)) = some ([], some (234, true)) := by kernel_rfl
theorem aggAddrs (w : World) : (isAgg 177).run Tryz.prog w = .ok false w := by kernel_rfl
theorem m_of {f : FuncId} {name : String} (h : ((Tryz.prog.info? 193).bind fun i => i.methods.find? (·.name == name)).map (fun m => (m.path.toList, m.func)) = some ([], some (f, false))) {g : Nat} {v : Value} {w : World} (hc : w.cell? ⟨g, 0, none⟩ = some v) :
  (method (Tryz.prog.types.size + Made.depth) 193 (.pointer (some ⟨g, 0, none⟩)) name).run Tryz.prog w = .ok (f, v) w := by
 obtain ⟨i, m, hi, hm, hp, hf⟩ := row_of h
 rw [fuel_pos]
 exact method_ptr hi hm hp hf und193 aggAddrs hc _
theorem m_own {f : FuncId} {name : String} (h : ((Tryz.prog.info? 193).bind fun i => i.methods.find? (·.name == name)).map (fun m => (m.path.toList, m.func)) = some ([], some (f, true))) (g : Nat) (w : World) :
  (method (Tryz.prog.types.size + Made.depth) 193 (.pointer (some ⟨g, 0, none⟩)) name).run Tryz.prog w = .ok (f, .pointer (some ⟨g, 0, none⟩)) w := by
 obtain ⟨i, m, hi, hm, hp, hf⟩ := row_of h
 rw [fuel_pos]
 exact method_own hi hm hp hf und193 _
end Go.Proofs.YtkbklooocdfcfaaGreatDoor
